/- Contracts of HoleFill, in the program and in the model. -/
import Derived.Test.YtelgmmnjndinhaaS18
import Derived.Test.YtelgmmnjndinhaaS3
import Derived.Test.YtelgmmnjndinhaaS17
namespace Go.Proofs.Ytelgmmnjndinhaa
open Go.RowKit
def filB (zs : List Cl) : Bool := sysB zs && decide ((holL zs).length ≤ 20)
def filK (zs : List Cl) (k : Nat) : List Cl := ((holL zs).take k).map fun x => (x, perI zs)
def filL (zs : List Cl) : List Cl := (holL zs).map fun x => (x, perI zs)
def filR (zs : List Cl) : List Cl := bif filB zs then filL zs else []
theorem filR_le (zs : List Cl) : (filR zs).length ≤ 20 := by
  unfold filR filB
  by_cases h : (holL zs).length ≤ 20
  · cases sysB zs <;> simp [h, filL]
  · simp [h]
theorem filK_all {zs : List Cl} : filK zs (holL zs).length = filL zs := by simp [filK, filL]
theorem filK_len {zs : List Cl} {k : Nat} (h : k ≤ (holL zs).length) : (filK zs k).length = k := by simp [filK]; omega
theorem filK_succ {zs : List Cl} {k : Nat} (h : k < (holL zs).length) : filK zs (k + 1) = filK zs k ++ [((holL zs)[k]?.getD 0, perI zs)] := by
  unfold filK
  rw [List.take_succ_eq_append_getElem h, List.map_append, List.map_singleton, List.getElem?_eq_getElem h]
  rfl
set_option maxRecDepth 20000 in
set_option maxHeartbeats 1000000 in
theorem c_implHoleFill (s : Option Addr) (n cap : Nat) (zs : List Cl) (hn : n ≤ 1048576) (w : World) (hc : Cls w s n zs) : Calls Try.prog 39 #[.slice s n cap] w (RetC w (filR zs) (filB zs)) := by
  cases hs : sysB zs
  · have hcon := c_holesAndPeriod_f s n cap zs hn hs w hc
    have H1 := Lib.hid (show filB zs = false by simp [filB, hs])
    have H2 := Lib.hid (show filR zs = [] by simp [filR, filB, hs])
    go_enter Try.func39, Try.ntmps39
    go_wp2_with (go_at_call 56; refine hcon.mono ?_; rintro e w2 ⟨v, rfl, hO, hb⟩)
    go_ret2
    rw [H1.out, H2.out]
    exact ⟨_, rfl, OwnC.nil _ _ _, hb⟩
  · have hcon := c_holesAndPeriod_t s n cap zs hn hs w hc
    obtain ⟨_, _, _, _, P1, P2⟩ := sysB_facts hs
    have hl := holL_le hs
    by_cases h20 : (holL zs).length ≤ 20
    · have H1 := Lib.hid (show filB zs = true by simp [filB, hs, h20])
      have H2 := Lib.hid (show filR zs = filL zs by simp [filR, filB, hs, h20])
      have HS := Lib.hid (fun k (h : k < (holL zs).length) => filK_succ h)
      have HE := Lib.hid (show filK zs (holL zs).length = filL zs from filK_all)
      have HN := Lib.hid (show (filL zs).length = (holL zs).length by simp [filL])
      obtain ⟨i0, hi, hz0, hz1, hz2⟩ := info_parts infoC
      generalize hP : perI zs = P at *
      generalize hL : (holL zs).length = L at *
      clear hP
      go_enter Try.func39, Try.ntmps39
      go_wp2_with (go_at_call 56; refine hcon.mono ?_; rintro e w2 ⟨v, rfl, hO, hb⟩; obtain ⟨s2, k2, hv, hI, hq⟩ := hO.spread; rw [hL] at hv hI; subst hv)
      have hO0 : w2.ownsRow w.heap.size 45 2 (.slice none 0 0) 0 [] := World.ownsRow_nil _ _ _ _
      go_loopw [7, 25] (fun v i wr => ∃ (k : Nat), k ≤ L ∧ i = .int .i64 k ∧ wr.ownsRow w2.heap.size 45 2 v k (cells2 (filK zs k)) ∧ Below w2.heap.size w2 wr) (fun _ i _ => L - (intOf i).toNat)
      case atStart => exact ⟨0, Nat.zero_le _, rfl, World.ownsRow_nil _ _ _ _, Below.refl _ _⟩
      case round =>
        obtain ⟨k, hk, rfl, hOr, hB⟩ := hrel
        by_cases hlt : k < L
        · rcases (hI.keep hB).lies with h0 | ⟨b, off, rfl, hbw, hcells⟩
          · omega
          have hx := hcells k hlt
          clear hcells
          have HT := Lib.hid (HS.out k hlt)
          generalize (holL zs)[k]?.getD 0 = x at *
          go_wp2_with (at_builtin; refine wpList_append_own _ rfl _ _ 27 rfl w2.heap.size 45 i0 (.agg #[.int .i64 0, .int .i64 0]) 2 16 Try.underlying27 hi hz0 hz1 hz2 rfl (by decide) u7 k _ rfl (hOr.alloc _) ⟨wr.heap.size, 0, none⟩ 1 1 [.int .i64 x, .int .i64 P] rfl rfl (two_new wr _ _ _) (by simp [Value.oneCell']) (by unfold maxLen; omega) (by omega) (by have := hB.size; simp; omega) ?_; intro v7 w7 hown7 hgrow7 _)
          have hb7 : Below w2.heap.size w2 w7 := (ba hB _).grown hgrow7 (by have := hB.size; simp; omega) (fun g e => (hOr.lt g e).1)
          go_roundw
          case rel => exact ⟨k + 1, by omega, by go_num, by rw [HT.out, cells2_append]; exact hown7, hb7⟩
          case measure => simp [intOf]; omega
        · have hk' : k = L := by omega
          subst hk'
          rw [HE.out] at hOr
          have hOC : OwnC wr w2.heap.size 45 u7 (filL zs) := by unfold OwnC; rw [HN.out]; exact hOr
          clear hOr
          go_wp2_with fail
          go_ret2
          rw [H1.out, H2.out]
          exact ⟨_, rfl, hOC.low hb.size, bt2 hb hB⟩
    · have H1 := Lib.hid (show filB zs = false by simp [filB, h20])
      have H2 := Lib.hid (show filR zs = [] by simp [filR, filB, h20])
      generalize hL : (holL zs).length = L at *
      go_enter Try.func39, Try.ntmps39
      go_wp2_with (go_at_call 56; refine hcon.mono ?_; rintro e w2 ⟨v, rfl, hO, hb⟩; obtain ⟨s2, k2, hv, hI, hq⟩ := hO.spread; rw [hL] at hv; subst hv)
      go_ret2
      rw [H1.out, H2.out]
      exact ⟨_, rfl, OwnC.nil _ _ _, hb⟩
end Go.Proofs.Ytelgmmnjndinhaa
