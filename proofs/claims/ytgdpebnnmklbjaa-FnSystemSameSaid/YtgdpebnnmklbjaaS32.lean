/- The model's HoleLeast. -/
import Derived.Test.YtgdpebnnmklbjaaS31
namespace Go.Proofs.Ytgdpebnnmklbjaa
open Go.RowKit
theorem topS_one {E : Int} {c : Cl} (hD : Div E [c]) : topS [c] E 1 = none := by
  obtain ⟨hin, hm⟩ := hD.at (zs := [c]) (i := 0) (by simp)
  obtain ⟨m1, _, r1, r2⟩ := inB_iff.1 hin
  have hle := Int.le_of_dvd (by have := hD.1; omega) hm
  have hs : spaB [c] 0 E = false := by
    cases h : spaB [c] 0 E
    · rfl
    · have := (spaB_iff hin hD.2.1).1 h 0 (by simp; omega)
      simp [covB_any] at this
  simp [topS, hs]
theorem lesL_pos {E : Int} : ∀ (k : Nat) (zs : List Cl), zs.length ≤ k → Div E zs → 1 ≤ zs.length → 1 ≤ (lesL E zs).length := by
  intro k
  induction k with
  | zero => intro zs h1 _ h2; omega
  | succ k ih =>
    intro zs h1 hD h2
    cases ht : topS zs E zs.length with
    | none => rw [lesL_none ht]; exact h2
    | some i =>
      have hi := topS_lt ht
      have hl : (zs.eraseIdx i).length = zs.length - 1 := List.length_eraseIdx_of_lt hi
      rw [lesL_some ht]
      refine ih _ (by omega) (hD.erase i) ?_
      rcases Nat.lt_or_ge 1 zs.length with h | h
      · omega
      · obtain ⟨c, rfl⟩ : ∃ c, zs = [c] := List.length_eq_one_iff.1 (by omega)
        have := topS_one hD
        rw [List.length_singleton, this] at ht
        cases ht
set_option maxRecDepth 20000 in
set_option maxHeartbeats 1000000 in
theorem c_specHoleLeast (s : Option Addr) (n cap : Nat) (zs : List Cl) (hn : n ≤ 1048576) (hcap : n ≤ cap) (hcb : cap ≤ 9223372036854775807) (w : World) (hc : Cls w s n zs) : Calls Try.prog 70 #[.slice s n cap] w (RetC w (hleR zs) (sysB zs)) := by
  have hcon := c_specSystemIn s n cap zs hn w hc
  obtain ⟨i0, hi, hz0, hz1, hz2⟩ := info_parts infoC
  cases hs : sysB zs
  · rw [hleR_f hs]
    rw [hs] at hcon
    go_enter Try.func70, Try.ntmps70
    go_wp2_with (go_at_call 15; refine hcon.mono ?_; rintro e w2 ⟨rfl, hb⟩)
    go_ret2
    exact ⟨_, rfl, World.ownsRow_lit w2 #[] 0 hb.size (by unfold maxLen; omega) rfl, ba hb _⟩
  · rw [hleR_t hs]
    rw [hs] at hcon
    obtain ⟨hl1, hl2, ha, _, P1, P2⟩ := sysB_facts hs
    have hD := Div.sys hs
    have hlen := hc.len
    have hp := lesL_pos _ _ (Nat.le_refl _) hD hl1
    have hle := lesL_len (perI zs) zs
    have hles := fun w1 (h1 : Cls w1 s n zs) => c_l3Least (perI zs) _ s n cap zs w1 (Nat.le_refl _) (by omega) hcap hcb hD h1
    generalize hP : perI zs = P at *
    go_enter Try.func70, Try.ntmps70
    go_wp2_with fail
    refine hcon.mono ?_
    rintro e w2 ⟨rfl, hb⟩
    have hc2 := hc.keep hb
    have hb2 := ba hb (.cells #[] 34)
    have hO2 : (w2.alloc (.cells #[] 34)).ownsRow w.heap.size 34 2 (.slice (some ⟨w2.heap.size, 0, none⟩) 0 0) 0 [] := World.ownsRow_lit w2 #[] 0 hb.size (by unfold maxLen; omega) rfl
    have hc3 := hc.keep hb2
    go_wp2_with fail
    refine (hles _ hc3).mono ?_
    rintro e w3 ⟨s3, n3, cap3, rfl, hq3, hC3, hb3⟩
    have hl3 := hC3.len
    have hB3 := bt2 hb2 hb3
    have hO3 := row_keep hO2 hb3
    have HO := Lib.hid (cells2_oc (lesL P zs))
    have HN := Lib.hid (show (cells2 (lesL P zs)).length = n3 * 2 by rw [cells2_length, hl3])
    have HL := Lib.hid hl3
    obtain ⟨b3, o3, rfl⟩ : ∃ b o, s3 = some ⟨b, o, none⟩ := by
      rcases hC3.lies with h0 | ⟨b, off, h, _⟩
      · omega
      · exact ⟨b, off, h⟩
    have HC := Lib.hid (cls_at hC3 (by omega))
    have hs3 := hB3.size
    have hn3 : n3 ≤ 8 := by omega
    generalize lesL P zs = Q at *
    clear hles hC3 hO2 hl3 hp hle
    go_wp2_with (at_builtin; refine wpList_append_own _ rfl _ _ 23 rfl w.heap.size 34 i0 (.agg #[.int .i64 0, .int .i64 0]) 2 16 Try.underlying23 hi hz0 hz1 hz2 rfl (by decide) (.slice (some ⟨w2.heap.size, 0, none⟩) 0 0) 0 [] rfl hO3 ⟨b3, o3, none⟩ n3 cap3 (cells2 Q) rfl HN.out HC.out HO.out (by unfold maxLen; omega) (by omega) hs3 ?_; intro v5 w5 hown5 hgrow5 _)
    have hOC : OwnC w5 w.heap.size 34 v5 Q := by
      unfold OwnC
      rw [HL.out]
      simpa using hown5
    have hB5 : Below w.heap.size w w5 := hB3.grown hgrow5 hs3 (fun g e => by cases e; exact hb.size)
    go_ret2
    exact ⟨_, rfl, hOC, hB5⟩
end Go.Proofs.Ytgdpebnnmklbjaa
