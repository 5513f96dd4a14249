/- Contracts of what the laws of chapter 1 draw. -/
import Derived.Test.YtenghhoofpjcaaaD3
import Derived.Deep.RegionWith
namespace Go.Proofs.Ytenghhoofpjcaaa
open Go.RowKit
def DrawnCI (lo hi : Int) (w : World) (e : Ending) (w' : World) : Prop :=
  ∃ r m x : Int, 1 ≤ m ∧ m ≤ 24 ∧ 0 ≤ r ∧ r ≤ m ∧ lo ≤ x ∧ x ≤ hi ∧ e = .returned (.tuple #[.agg #[.int .i64 r, .int .i64 m], .int .i64 x]) ∧ Below w.heap.size w w'
theorem c_l91NumberW {b0 : Nat} {w : World} {B : Nat} {s : Option Addr} {len p : Nat} (h : Rd b0 w B s len p) (hp : p + 2 < 1000000) (o : Obj) (W : World) (hW : W = w.alloc o ∨ W = (w.alloc o).drew) :
    Calls Try.prog 53 #[.pointer (some ⟨B, 0, none⟩)] W (DrawnI (-100) 2000099 2 b0 B s len p (w.alloc o)) := by
  rcases hW with rfl | rfl
  · exact c_l91Number (h.alloc o) hp
  · exact (c_l91Number (h.alloc o).drew hp).mono fun _ _ ⟨x, p', h1, h2, h3, h4, h5, h6⟩ => ⟨x, p', h1, h2, h3, h4, h5, ((Oth.refl _ _).drew).trans h6⟩
theorem c_l91With (s : Option Addr) (len cap : Nat) (w : World) (h : Code0 w s len cap) : Calls Try.prog 58 #[.slice s len cap] w (DrawnCI (-100) 2000099 w) := by
  go_enter Try.func58, Try.ntmps58
  go_wp2_with fail
  refine (c_l6Open s len cap _ (h.below (ba (Below.refl _ _) _))).mono ?_
  rintro e w2 ⟨B, s', len', hB, rfl, hR2, hb2⟩
  have HB := Lib.hid hB
  clear hB
  go_wp2_with fail
  refine (c_l91Class hR2 (by omega)).mono ?_
  rintro e w3 ⟨r, m, p', m1, m2, r1, r2, rfl, hR3, hp3, hO3⟩
  have hb3 := hb2.trans (oth_below hO3 hR2)
  have hB3 := hR3.lt
  go_wp2_with fail
  go_region_with (go_at_call 53; refine (c_l91NumberW hR3 (by omega) (Obj.cells #[Value.int IntKind.i64 r, Value.int IntKind.i64 m] 24) _ (by first | exact .inl rfl | exact .inr rfl)).mono ?_; rintro e w4 ⟨x, p4, x1, x2, rfl, hR4, hp4, hO4⟩; have hb4 := (ba hb3 _).trans (oth_below hO4 (hR3.alloc _)); have k0 : w4.cell? ⟨w.heap.size, 0, none⟩ = some _ := kc hb4 0; have k1 : w4.cell? ⟨w.heap.size, 1, none⟩ = some _ := kc hb4 1; have f0 := kf hb4 0; have f1 := kf hb4 1; have k2 : w4.cell? ⟨w3.heap.size, 0, none⟩ = some _ := oc hO4 hB3 0; have k3 : w4.cell? ⟨w3.heap.size, 1, none⟩ = some _ := oc hO4 hB3 1)
  all_goals
    go_wp2
    refine bodyPost_ret (v := .tuple #[.agg #[.int .i64 r, .int .i64 m], .int .i64 x]) (by simp [results, Try.results58, go_sem, k0, k1]) rfl ⟨r, m, x, m1, m2, r1, r2, x1, x2, rfl, ?_⟩
    have hb5 := bt2 (ba (Below.refl _ w) _) hb4
    repeat (first | exact Below.refl _ _ | assumption | refine Below.drew ?_ | refine bel_drewN ?_ _ | refine ba ?_ _ | refine bt2 ?_ (by assumption) | refine Below.setCell ?_ (by simp <;> omega) _)
/-! what the laws draw -/
theorem c_DrawClassIn (s : Option Addr) (len cap : Nat) (w : World) (h : Code0 w s len cap) : Calls Try.prog 13 #[.slice s len cap] w (DrawnC w) := by
  go_enter Try.func13, Try.ntmps13
  go_wp2_with fail
  refine (c_l91One s len cap _ (h.below (ba (Below.refl _ _) _))).mono ?_
  rintro e w2 ⟨r, m, m1, m2, r1, r2, rfl, hb⟩
  have k0 : w2.cell? ⟨w.heap.size, 0, none⟩ = some _ := kc hb 0
  have k1 : w2.cell? ⟨w.heap.size, 1, none⟩ = some _ := kc hb 1
  have f0 := kf hb 0
  have f1 := kf hb 1
  go_wp2
  refine bodyPost_ret (v := .agg #[.int .i64 r, .int .i64 m]) (by simp [results, Try.results13, go_sem, k0, k1]) rfl ⟨r, m, m1, m2, r1, r2, rfl, ?_⟩
  have hb5 := bt2 (ba (Below.refl _ w) _) hb
  repeat (first | exact Below.refl _ _ | assumption | refine Below.drew ?_ | refine bel_drewN ?_ _ | refine ba ?_ _ | refine bt2 ?_ (by assumption) | refine Below.setCell ?_ (by simp <;> omega) _)
def DrawnII (w : World) (e : Ending) (w' : World) : Prop :=
  ∃ x m : Int, -100 ≤ x ∧ x ≤ 2000099 ∧ 0 ≤ m ∧ m ≤ 30 ∧ e = .returned (.tuple #[.int .i64 x, .int .i64 m]) ∧ Below w.heap.size w w'
theorem c_DrawClassOf (s : Option Addr) (len cap : Nat) (w : World) (h : Code0 w s len cap) : Calls Try.prog 19 #[.slice s len cap] w (DrawnII w) := by
  go_enter Try.func19, Try.ntmps19
  go_wp2_with fail
  refine (c_l6Open s len cap _ h).mono ?_
  rintro e w2 ⟨B, s', len', hB, rfl, hR2, hb2⟩
  have HB := Lib.hid hB
  clear hB
  go_wp2_with fail
  refine (c_l91Number hR2 (by omega)).mono ?_
  rintro e w3 ⟨x, p3, x1, x2, rfl, hR3, hp3, hO3⟩
  go_wp2_with fail
  refine (c_pickR 30 (by omega) (by omega) hR3 (by omega)).mono ?_
  rintro e w4 ⟨v, v1, v2, rfl, hR4, hO4⟩
  go_wp2_with fail
  refine (c_pickR 24 (by omega) (by omega) hR4 (by omega)).mono ?_
  rintro e w5 ⟨u, u1, u2, rfl, hR5, hO5⟩
  go_wp2
  go_ret2
  exact ⟨x, _, x1, x2, by omega, by omega, rfl, hb2.trans (oth_below ((hO3.trans hO4).trans hO5) hR2)⟩
theorem c_DrawClassMoved (s : Option Addr) (len cap : Nat) (w : World) (h : Code0 w s len cap) : Calls Try.prog 26 #[.slice s len cap] w (DrawnCI (-100) 2000099 w) := by
  go_enter Try.func26, Try.ntmps26
  go_wp2_with fail
  refine (c_l91With s len cap _ (h.below (ba (Below.refl _ _) _))).mono ?_
  rintro e w2 ⟨r, m, x, m1, m2, r1, r2, x1, x2, rfl, hb⟩
  have k0 : w2.cell? ⟨w.heap.size, 0, none⟩ = some _ := kc hb 0
  have k1 : w2.cell? ⟨w.heap.size, 1, none⟩ = some _ := kc hb 1
  have f0 := kf hb 0
  have f1 := kf hb 1
  go_wp2
  refine bodyPost_ret (v := .tuple #[.agg #[.int .i64 r, .int .i64 m], .int .i64 x]) (by simp [results, Try.results26, go_sem, k0, k1]) rfl ⟨r, m, x, m1, m2, r1, r2, x1, x2, rfl, ?_⟩
  have hb5 := bt2 (ba (Below.refl _ w) _) hb
  repeat (first | exact Below.refl _ _ | assumption | refine Below.drew ?_ | refine bel_drewN ?_ _ | refine ba ?_ _ | refine bt2 ?_ (by assumption) | refine Below.setCell ?_ (by simp <;> omega) _)
theorem c_DrawClassFirst (s : Option Addr) (len cap : Nat) (w : World) (h : Code0 w s len cap) : Calls Try.prog 31 #[.slice s len cap] w (DrawnCI (-100) 2000099 w) := by
  go_enter Try.func31, Try.ntmps31
  go_wp2_with fail
  refine (c_l91With s len cap _ (h.below (ba (Below.refl _ _) _))).mono ?_
  rintro e w2 ⟨r, m, x, m1, m2, r1, r2, x1, x2, rfl, hb⟩
  have k0 : w2.cell? ⟨w.heap.size, 0, none⟩ = some _ := kc hb 0
  have k1 : w2.cell? ⟨w.heap.size, 1, none⟩ = some _ := kc hb 1
  have f0 := kf hb 0
  have f1 := kf hb 1
  go_wp2
  refine bodyPost_ret (v := .tuple #[.agg #[.int .i64 r, .int .i64 m], .int .i64 x]) (by simp [results, Try.results31, go_sem, k0, k1]) rfl ⟨r, m, x, m1, m2, r1, r2, x1, x2, rfl, ?_⟩
  have hb5 := bt2 (ba (Below.refl _ w) _) hb
  repeat (first | exact Below.refl _ _ | assumption | refine Below.drew ?_ | refine bel_drewN ?_ _ | refine ba ?_ _ | refine bt2 ?_ (by assumption) | refine Below.setCell ?_ (by simp <;> omega) _)
theorem c_DrawClassHas (s : Option Addr) (len cap : Nat) (w : World) (h : Code0 w s len cap) : Calls Try.prog 21 #[.slice s len cap] w (DrawnCI (-2000) 2000099 w) := by
  have hlc := h.lc
  have hcm := h.cm
  unfold maxLen at hcm
  cases hl : ((len : Int) % 2 == 0)
  · go_enter Try.func21, Try.ntmps21
    go_wp2_with fail
    refine (c_l91With s len cap _ (h.below (ba (Below.refl _ _) _))).mono ?_
    rintro e w2 ⟨r, m, x, m1, m2, r1, r2, x1, x2, rfl, hb⟩
    have k0 : w2.cell? ⟨w.heap.size, 0, none⟩ = some _ := kc hb 0
    have k1 : w2.cell? ⟨w.heap.size, 1, none⟩ = some _ := kc hb 1
    have f0 := kf hb 0
    have f1 := kf hb 1
    have hz := kz hb
    go_wp2
    refine bodyPost_ret (v := .tuple #[.agg #[.int .i64 r, .int .i64 m], .int .i64 x]) (by simp [results, Try.results21, go_sem, cell_ret0 k0 k1, cell_ret1 k0 k1]) rfl ⟨r, m, x, m1, m2, r1, r2, by omega, x2, rfl, ?_⟩
    have hb5 := bt2 (ba (Below.refl _ w) _) hb
    repeat (first | exact Below.refl _ _ | assumption | refine Below.drew ?_ | refine bel_drewN ?_ _ | refine ba ?_ _ | refine bt2 ?_ (by assumption) | refine Below.setCell ?_ (by simp <;> omega) _)
  · go_enter Try.func21, Try.ntmps21
    go_wp2_with fail
    refine (c_l91With s len cap _ (h.below (ba (Below.refl _ _) _))).mono ?_
    rintro e w2 ⟨r, m, x, m1, m2, r1, r2, x1, x2, rfl, hb⟩
    have k0 : w2.cell? ⟨w.heap.size, 0, none⟩ = some _ := kc hb 0
    have k1 : w2.cell? ⟨w.heap.size, 1, none⟩ = some _ := kc hb 1
    have f0 := kf hb 0
    have f1 := kf hb 1
    have hz := kz hb
    obtain ⟨t1, t2⟩ := tmod_bd x 50 (by omega)
    obtain ⟨u1, u2⟩ := mul_in t1 t2 m1 m2
    have hw1 : IntKind.i64.wrap (x.tmod 50) = x.tmod 50 := IntWalk.i64_in _ (by omega)
    have hw2 : IntKind.i64.wrap (x.tmod 50 * m) = x.tmod 50 * m := IntWalk.i64_in _ (by omega)
    have hw3 : IntKind.i64.wrap (r + x.tmod 50 * m) = r + x.tmod 50 * m := IntWalk.i64_in _ (by omega)
    go_wp2_with fail
    go_region_held3 (fun w' => w'.cell? ⟨w2.heap.size, 0, none⟩ = some (.int .i64 r) ∧ w'.cell? ⟨w2.heap.size, 1, none⟩ = some (.int .i64 m)) (first | (go_keep; done) | simp [ret_box]) (fail)
    go_wp2
    refine bodyPost_ret (v := .tuple #[.agg #[.int .i64 r, .int .i64 m], .int .i64 (r + x.tmod 50 * m)]) (by simp [results, Try.results21, go_sem, cell_ret0 k0 k1, cell_ret1 k0 k1]) rfl ⟨r, m, _, m1, m2, r1, r2, by omega, by omega, rfl, ?_⟩
    have hb5 := bt2 (ba (Below.refl _ w) _) hb
    repeat (first | exact Below.refl _ _ | assumption | refine Below.drew ?_ | refine bel_drewN ?_ _ | refine ba ?_ _ | refine bt2 ?_ (by assumption) | refine Below.setCell ?_ (by simp <;> omega) _)
end Go.Proofs.Ytenghhoofpjcaaa
