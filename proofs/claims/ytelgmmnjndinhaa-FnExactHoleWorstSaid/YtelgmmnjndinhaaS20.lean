/- The model's HoleFill. -/
import Derived.Test.YtelgmmnjndinhaaS19
import Derived.Test.YtelgmmnjndinhaaStepA
namespace Go.Proofs.Ytelgmmnjndinhaa
open Go.RowKit
theorem rows_apart {w : World} {b1 b2 k1 k2 n1 n2 : Nat} {e1 e2 : TypeId} {v1 v2 : Value} {xs1 xs2 : List Value} (h1 : w.ownsRow b1 e1 k1 v1 n1 xs1) (h2 : w.ownsRow b2 e2 k2 v2 n2 xs2) (hne : e1 ≠ e2) : v1.ownBlock = none ∨ v1.ownBlock ≠ v2.ownBlock := by
  rcases h1.2 with ⟨rfl, _⟩ | ⟨g1, c1, cur1, rfl, _, hg1, _⟩
  · exact .inl rfl
  · refine .inr fun e => ?_
    rcases h2.2 with ⟨rfl, _⟩ | ⟨g2, c2, cur2, rfl, _, hg2, _⟩
    · simp [Value.ownBlock] at e
    · simp [Value.ownBlock] at e
      subst e
      rw [hg1] at hg2
      simp at hg2
      exact hne hg2.2
set_option maxRecDepth 20000 in
set_option maxHeartbeats 2000000 in
theorem c_specHoleFill (s : Option Addr) (n cap : Nat) (zs : List Cl) (hn : n ≤ 1048576) (w : World) (hc : Cls w s n zs) : Calls Try.prog 38 #[.slice s n cap] w (RetC w (filR zs) (filB zs)) := by
  have hb1 : Below w.heap.size w (w.alloc (.cells #[] 45)) := ba (Below.refl _ _) _
  have hO1 : OwnC (w.alloc (.cells #[] 45)) w.heap.size 45 (.slice (some ⟨w.heap.size, 0, none⟩) 0 0) [] := World.ownsRow_lit w #[] 0 (Nat.le_refl _) (by unfold maxLen; omega) rfl
  have hc1 := hc.keep hb1
  have hcon := c_specSystemIn s n cap zs hn _ hc1
  cases hs : sysB zs
  · rw [hs] at hcon
    have H1 := Lib.hid (show filB zs = false by simp [filB, hs])
    have H2 := Lib.hid (show filR zs = [] by simp [filR, filB, hs])
    go_enter Try.func38, Try.ntmps38
    go_wp2_with fail
    generalize w.alloc (.cells #[] 45) = W1 at *
    go_wp2_with (go_at_call 44; refine hcon.mono ?_; rintro e w2 ⟨rfl, hb⟩; have hO2 := hO1.keep hb)
    go_ret2
    rw [H1.out, H2.out]
    exact ⟨_, rfl, hO2, bt2 hb1 hb⟩
  · rw [hs] at hcon
    obtain ⟨hl1, hl2, ha, _, P1, P2⟩ := sysB_facts hs
    have hl := holL_le hs
    have hcon2 := fun w1 (h1 : Cls w1 s n zs) => c_l2Holes s n cap zs hn hs w1 h1
    have hcon3 := fun w1 (h1 : Cls w1 s n zs) => c_l2Period s n cap zs hn ha w1 h1
    by_cases h20 : (holL zs).length ≤ 20
    · have H1 := Lib.hid (show filB zs = true by simp [filB, hs, h20])
      have H2 := Lib.hid (show filR zs = filL zs by simp [filR, filB, hs, h20])
      have HS := Lib.hid (fun k (h : k < (holL zs).length) => filK_succ h)
      have HE := Lib.hid (show filK zs (holL zs).length = filL zs from filK_all)
      have HN := Lib.hid (show (filL zs).length = (holL zs).length by simp [filL])
      obtain ⟨i0, hi, hz0, hz1, hz2⟩ := info_parts infoC
      generalize hP : perI zs = P at *
      generalize hL : (holL zs).length = L at *
      clear hP
      go_enter Try.func38, Try.ntmps38
      go_wp2_with fail
      generalize w.alloc (.cells #[] 45) = W1 at *
      go_wp2_with fail
      refine hcon.mono ?_
      rintro e w2 ⟨rfl, hb⟩
      have hO2 := hO1.keep hb
      have hc2 := hc1.keep hb
      have hb2 := bt2 hb1 hb
      go_wp2_with fail
      refine (hcon2 _ hc2).mono ?_
      rintro e w3 ⟨v, rfl, hO, hb3⟩
      obtain ⟨s2, k2, hv, hI, hq⟩ := hO.spread
      rw [hL] at hv hI
      subst hv
      have hO3 : w3.ownsRow w.heap.size 45 2 (.slice (some ⟨w.heap.size, 0, none⟩) 0 0) 0 [] := hO2.keep hb3
      have hB3 := bt2 hb2 hb3
      clear hcon hO1 hO2 hb3 hb hb1
      go_wp2_with fail
      go_loopw [4, 6] (fun v i wr => ∃ (k : Nat), k ≤ L ∧ i = .int .i64 k ∧ wr.ownsRow w.heap.size 45 2 v k (cells2 (filK zs k)) ∧ OwnI wr w2.heap.size 3 (.slice s2 L k2) (holL zs) ∧ Below w.heap.size w wr) (fun _ i _ => L - (intOf i).toNat)
      case atStart => exact ⟨0, Nat.zero_le _, rfl, hO3, hO, hB3⟩
      case round =>
        obtain ⟨k, hk, rfl, hOr, hOI, hB⟩ := hrel
        by_cases hlt : k < L
        · have hcr := hc.keep hB
          have hap := rows_apart hOI hOr (by decide)
          have hIr : Ints wr s2 L (holL zs) := by have := spreadI hOI; rw [hL] at this; exact this
          rcases hIr.lies with h0 | ⟨b, off, rfl, hbw, hcells⟩
          · omega
          have hx := hcells k hlt
          have hne : some b ≠ u4.ownBlock := by
            rcases hap with h | h
            · simp [Value.ownBlock] at h
            · exact h
          clear hcells hap
          have HT := Lib.hid (HS.out k hlt)
          have hzz : ∀ u ∈ [Value.int .i64 ((holL zs)[k]?.getD 0), Value.int .i64 P], u.oneCell' = true := by simp [Value.oneCell']
          have HZ := Lib.hid hzz
          clear hzz
          have hk2 : (k + 1) * 16 ≤ 140737488355328 := by omega
          have hk1 : k + 1 ≤ maxLen := by unfold maxLen; omega
          have hbs := hB.size
          generalize (holL zs)[k]?.getD 0 = x at *
          go_wp2_with fail
          go_region_held3 (fun w' => w'.cell? ⟨b, off + k, none⟩ = some (.int .i64 x)) (go_keep) (first
            | (go_at_call 52; refine (hcon3 _ (hcr.keep (by repeat (first | exact Below.refl _ _ | assumption | refine Below.drew ?_ | refine bel_drewN ?_ _ | refine ba ?_ _ | refine bt2 ?_ (by assumption) | refine Below.setCell ?_ (by simp <;> omega) _)))).mono ?_; rintro e w5 ⟨nq, rfl, rfl⟩)
            | (refine step_append_own rfl (.tmp 24) (.tmp 32) 27 rfl w.heap.size 45 i0 (.agg #[.int .i64 0, .int .i64 0]) 2 16 Try.underlying27 hi hz0 hz1 hz2 rfl Nat.two_pos u4 k _ rfl (World.ownsRow.alloc (show World.ownsRow _ _ _ _ _ _ _ from hOr) _) ⟨wr.heap.size, 0, none⟩ 1 1 [.int .i64 x, .int .i64 P] rfl rfl (two_new _ _ _ _) HZ.out hk1 hk2 (by simp; omega) ?_; intro v7 w7 hown7 hgrow7 _; have g0 := hgrow7.cell (a := ⟨b, off + k, none⟩) (v := .int .i64 x) (by go_keep) hne)
            | fail)
          have hB8 : Below w.heap.size w ((wr.drewN (1 + nq)).alloc (.cells #[.int .i64 x, .int .i64 P] 45)) := ba (bel_drewN hB _) _
          have hb7 : Below w.heap.size w w7 := hB8.grown hgrow7 hB8.size (fun j e => (hOr.lt j e).1)
          have hO8 : OwnI ((wr.drewN (1 + nq)).alloc (.cells #[.int .i64 x, .int .i64 P] 45)) w2.heap.size 3 (.slice (some ⟨b, off, none⟩) L k2) (holL zs) := hOI.keep (ba (bel_drewN (Below.refl _ _) _) _)
          have hO7 := hO8.other hgrow7 (.inr hne)
          clear hO8 hB8
          go_wp2_with fail
          go_roundw
          case rel => exact ⟨k + 1, by omega, by go_num, by rw [HT.out, cells2_append]; exact hown7, hO7, hb7⟩
          case measure => simp [intOf]; omega
        · have hk' : k = L := by omega
          subst hk'
          rw [HE.out] at hOr
          have hOC : OwnC wr w.heap.size 45 u4 (filL zs) := by unfold OwnC; rw [HN.out]; exact hOr
          clear hOr
          go_wp2_with fail
          go_ret2
          rw [H1.out, H2.out]
          exact ⟨_, rfl, hOC, hB⟩
    · have H1 := Lib.hid (show filB zs = false by simp [filB, h20])
      have H2 := Lib.hid (show filR zs = [] by simp [filR, filB, h20])
      generalize hL : (holL zs).length = L at *
      go_enter Try.func38, Try.ntmps38
      go_wp2_with fail
      generalize w.alloc (.cells #[] 45) = W1 at *
      go_wp2_with fail
      refine hcon.mono ?_
      rintro e w2 ⟨rfl, hb⟩
      have hO2 := hO1.keep hb
      have hc2 := hc1.keep hb
      have hb2 := bt2 hb1 hb
      go_wp2_with fail
      refine (hcon2 _ hc2).mono ?_
      rintro e w3 ⟨v, rfl, hO, hb3⟩
      have hO3 := hO2.keep hb3
      obtain ⟨s2, k2, hv, hI, hq⟩ := hO.spread
      rw [hL] at hv
      subst hv
      go_wp2_with fail
      go_ret2
      rw [H1.out, H2.out]
      exact ⟨_, rfl, hO3, bt2 hb2 hb3⟩
end Go.Proofs.Ytelgmmnjndinhaa
