/- Contract of what the law on parts draws; two lists of classes compared. -/
import Derived.Test.YtenghhoofpjcaaaD5
import Derived.Test.YtenghhoofpjcaaaMathS
import Derived.LoopTactic
namespace Go.Proofs.Ytenghhoofpjcaaa
open Go.RowKit
theorem c_DrawClassParts (s : Option Addr) (len cap : Nat) (w : World) (h : Code0 w s len cap) : Calls Try.prog 40 #[.slice s len cap] w (DrawnCI 0 15 w) := by
  go_enter Try.func40, Try.ntmps40
  go_wp2_with fail
  refine (c_l6Open s len cap _ (h.below (ba (Below.refl _ _) _))).mono ?_
  rintro e w2 ⟨B, s', len', hB, rfl, hR2, hb2⟩
  have HB := Lib.hid hB
  clear hB
  go_wp2_with fail
  refine (c_l91Class hR2 (by omega)).mono ?_
  rintro e w3 ⟨r, m, p', m1, m2, r1, r2, rfl, hR3, hp3, hO3⟩
  have hb3 := hb2.trans (oth_below hO3 hR2)
  have hB3 := hR3.lt
  have hR3a := hR3.alloc (Obj.cells #[Value.int IntKind.i64 r, Value.int IntKind.i64 m] 24)
  have hb3a := ba hb3 (Obj.cells #[Value.int IntKind.i64 r, Value.int IntKind.i64 m] 24)
  go_wp2_with fail
  go_region_with (first | (go_at_call_of 54 (Value.int IntKind.i64 8); refine (c_pickRW 8 (by omega) (by omega) hR3a (by omega) _ (by first | exact .inl rfl | exact .inr rfl)).mono ?_; rintro e w4 ⟨x, x1, x2, rfl, hR4, hO4⟩; have hb4 := hb3a.trans (oth_below hO4 hR3a); have k2 : w4.cell? ⟨w3.heap.size, 0, none⟩ = some _ := oc hO4 hB3 0; have k3 : w4.cell? ⟨w3.heap.size, 1, none⟩ = some _ := oc hO4 hB3 1) | (go_at_call_of 54 (Value.int IntKind.i64 24); refine (c_pickRW 24 (by omega) (by omega) hR4 (by omega) _ (by first | exact .inl rfl | exact .inr rfl)).mono ?_; rintro e w5 ⟨y, y1, y2, rfl, hR5, hO5⟩; have hb5 := hb4.trans (oth_below hO5 hR4); have hO5' := hO4.trans hO5; have k0 : w5.cell? ⟨w.heap.size, 0, none⟩ = some _ := kc hb5 0; have k1 : w5.cell? ⟨w.heap.size, 1, none⟩ = some _ := kc hb5 1; have f0 := kf hb5 0; have f1 := kf hb5 1; have k4 : w5.cell? ⟨w3.heap.size, 0, none⟩ = some _ := oc hO5' hB3 0; have k5 : w5.cell? ⟨w3.heap.size, 1, none⟩ = some _ := oc hO5' hB3 1))
  all_goals
    have hb6 := bt2 (ba (Below.refl _ w) _) hb5
    go_wp2
    have hw : IntKind.i64.wrap (x + IntKind.i64.wrap (IntKind.i64.wrap (y.tdiv 23) * 8)) = x + y / 23 * 8 := by
      rw [Int.tdiv_eq_ediv_of_nonneg y1, IntWalk.i64_in (y / 23) (by omega), IntWalk.i64_in (y / 23 * 8) (by omega), IntWalk.i64_in _ (by omega)]
    refine bodyPost_ret (v := .tuple #[.agg #[.int .i64 r, .int .i64 m], .int .i64 (x + y / 23 * 8)]) (by simp [results, Try.results40, go_sem, k0, k1, hw]) rfl ⟨r, m, _, m1, m2, r1, r2, by omega, by omega, rfl, ?_⟩
    repeat (first | exact Below.refl _ _ | assumption | refine Below.drew ?_ | refine bel_drewN ?_ _ | refine ba ?_ _ | refine bt2 ?_ (by assumption) | refine Below.setCell ?_ (by simp <;> omega) _)
set_option maxHeartbeats 400000 in
theorem c_sameClasses (s t : Option Addr) (n c1 c2 : Nat) (zs : List Cl) (hn : n ≤ 1048576) (w : World) (hs : Cls w s n zs) (ht : Cls w t n zs) : Calls Try.prog 43 #[.slice s n c1, .slice t n c2] w fun e w' => e = .returned (.bool true) ∧ Below w.heap.size w w' := by
  go_enter Try.func43, Try.ntmps43
  go_wp2_with fail
  go_loopw [5] (fun i wr => ∃ k : Nat, k ≤ n ∧ i = .int .i64 k ∧ Below w.heap.size w wr) (fun i _ => n - (intOf i).toNat)
  case atStart => exact ⟨0, Nat.zero_le _, rfl, Below.refl _ _⟩
  case round =>
    obtain ⟨k, hk, rfl, hB⟩ := hrel
    by_cases hlt : k < n
    · rcases (hs.keep hB).lies with h0 | ⟨b1, o1, rfl, hb1, hcells1⟩
      · omega
      rcases (ht.keep hB).lies with h0 | ⟨b2, o2, rfl, hb2, hcells2⟩
      · omega
      obtain ⟨hx, hy⟩ := hcells1 k hlt
      obtain ⟨hx2, hy2⟩ := hcells2 k hlt
      clear hcells1 hcells2
      go_wp2_with fail
      go_quiet (fail)
      go_wp2_with fail
      go_roundw
      case rel => exact ⟨k + 1, by omega, by go_num, bel_drewN hB _⟩
      case measure => simp [intOf]; omega
    · go_wp2_with fail
      go_ret
      exact ⟨rfl, hB⟩
end Go.Proofs.Ytenghhoofpjcaaa
