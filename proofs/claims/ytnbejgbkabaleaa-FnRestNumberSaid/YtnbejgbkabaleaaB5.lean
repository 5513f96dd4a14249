/- Chapter 5, the program: a base and rests told by lists. -/
import Derived.Test.YtnbejgbkabaleaaB4
namespace Go.Proofs.Ytnbejgbkabaleaa
open Go.RowKit
def tolZ (zs ys : List Int) : Bool := tolB (mo zs 0) (mo zs 1) (mo zs 2) (mo zs 3) zs.length ys
def okZ (zs ys : List Int) : Bool := basB zs && tolZ zs ys
abbrev resV (ok : Bool) (ys : List Int) : Value := restV (selI ok (zA ys 0)) (selI ok (zA ys 1)) (selI ok (zA ys 2)) (selI ok (zA ys 3))
abbrev basW (ok : Bool) (zs : List Int) : Value := baseV (selI ok (mo zs 0)) (selI ok (mo zs 1)) (selI ok (mo zs 2)) (selI ok (mo zs 3)) (selI ok zs.length)
theorem bas_mb {zs : List Int} (h : basB zs = true) (i : Nat) : MB (mo zs i) := by
  unfold basB at h
  simp only [Bool.and_eq_true] at h
  exact mo_mb h.2 (Nat.le_refl _) i
theorem bas_len {zs : List Int} (h : basB zs = true) : 1 ≤ zs.length ∧ zs.length ≤ 4 := by
  unfold basB at h
  simp only [Bool.and_eq_true, decide_eq_true_eq] at h
  exact h.1
theorem Arr.miss4 {w : World} {g g' : Nat} {xs : List Value} (h : Arr w g xs) (hg : g' ≠ g) (y0 y1 y2 y3 : Value) :
    Arr ((((w.setCell ⟨g', 0, none⟩ y0).setCell ⟨g', 1, none⟩ y1).setCell ⟨g', 2, none⟩ y2).setCell ⟨g', 3, none⟩ y3) g xs := (((h.miss hg 0 y0).miss hg 1 y1).miss hg 2 y2).miss hg 3 y3
theorem Arr.miss5 {w : World} {g g' : Nat} {xs : List Value} (h : Arr w g xs) (hg : g' ≠ g) (y0 y1 y2 y3 y4 : Value) :
    Arr (((((w.setCell ⟨g', 0, none⟩ y0).setCell ⟨g', 1, none⟩ y1).setCell ⟨g', 2, none⟩ y2).setCell ⟨g', 3, none⟩ y3).setCell ⟨g', 4, none⟩ y4) g xs := (h.miss4 hg y0 y1 y2 y3).miss hg 4 y4
set_option maxRecDepth 20000 in
set_option maxHeartbeats 4000000 in
theorem c_restsTold (s u : Option Addr) (n cap m cap2 : Nat) (zs ys : List Int) (hn : n ≤ 1048576) (hm : m ≤ 1048576) (w : World) (hz : Ints w s n zs) (hy : Ints w u m ys) : Calls Try.prog 55 #[.slice s n cap, .slice u m cap2] w fun e w' => e = .returned (.tuple #[basW (basB zs) zs, resV (okZ zs ys) ys, .bool (okZ zs ys)]) ∧ Below w.heap.size w w' := by
  have hcon := c_baseOf s n cap zs hn
  have hB : Below w.heap.size w _ := ba (ba (Below.refl _ _) (.cells #[.int .i64 0, .int .i64 0, .int .i64 0, .int .i64 0, .int .i64 0] 50)) (.cells #[.int .i64 0, .int .i64 0, .int .i64 0, .int .i64 0] 56)
  have hN0 := (Arr.newAt w #[.int .i64 0, .int .i64 0, .int .i64 0, .int .i64 0, .int .i64 0] 50 _ rfl).alloc (.cells #[.int .i64 0, .int .i64 0, .int .i64 0, .int .i64 0] 56)
  have hN1 : Arr _ (w.heap.size + 1) _ := Arr.newAt (w.alloc (.cells #[.int .i64 0, .int .i64 0, .int .i64 0, .int .i64 0, .int .i64 0] 50)) #[.int .i64 0, .int .i64 0, .int .i64 0, .int .i64 0] 56 _ (by simp)
  cases hb : basB zs
  · have ho : okZ zs ys = false := by rw [okZ, hb]; rfl
    simp only [ho, basW, resV, selI_f]
    rw [hb, basV_f hb] at hcon
    clear ho hb
    go_enter Try.func55, Try.ntmps55
    go_wp2_with (first | (go_at_call 46; refine (hcon _ (hz.keep hB)).mono ?_; rintro e w2 ⟨rfl, hb2⟩; have hN0 := hN0.keep hb2; have hN1 := hN1.keep hb2; obtain ⟨x0, x1, x2, x3, x4⟩ := Arr.get5 hN0; obtain ⟨y0, y1, y2, y3⟩ := Arr.get4 hN1; have f0 := hN0.f; have f1 := hN1.f; have l0 := hN0.lt; have l1 := hN1.lt; have hB := bt2 hB hb2) | fail)
    have hA0 := ((Arr.miss4 (ret5 hN0 (y0 := .int .i64 0) (y1 := .int .i64 0) (y2 := .int .i64 0) (y3 := .int .i64 0) (y4 := .int .i64 0)) (show w.heap.size + 1 ≠ w.heap.size by omega) (.int .i64 0) (.int .i64 0) (.int .i64 0) (.int .i64 0)).alloc (.cells #[.int .i64 0, .int .i64 0, .int .i64 0, .int .i64 0, .int .i64 0] 50))
    have hA1 := (ret4 (Arr.miss5 hN1 (show w.heap.size ≠ w.heap.size + 1 by omega) (.int .i64 0) (.int .i64 0) (.int .i64 0) (.int .i64 0) (.int .i64 0)) (y0 := .int .i64 0) (y1 := .int .i64 0) (y2 := .int .i64 0) (y3 := .int .i64 0)).alloc (.cells #[.int .i64 0, .int .i64 0, .int .i64 0, .int .i64 0, .int .i64 0] 50)
    obtain ⟨z0, z1, z2, z3, z4⟩ := Arr.get5 hA0
    obtain ⟨v0, v1, v2, v3⟩ := Arr.get4 hA1
    refine bodyPost_ret (v := .tuple #[baseV 0 0 0 0 0, restV 0 0 0 0, .bool false]) (by simp [results, Try.results55, go_sem, z0, z1, z2, z3, z4, v0, v1, v2, v3]) rfl ⟨rfl, ?_⟩
    exact ba (bel4 (bel5 hB (by omega) _ _ _ _ _) (by omega) _ _ _ _) _
  · obtain ⟨hl1, hl4⟩ := bas_len hb
    have ht := fun w hy => c_told (mo zs 0) (mo zs 1) (mo zs 2) (mo zs 3) zs.length hl1 hl4 (bas_mb hb 0) (bas_mb hb 1) (bas_mb hb 2) (bas_mb hb 3) u m cap2 ys hm w hy
    have ho : okZ zs ys = tolZ zs ys := by rw [okZ, hb]; rfl
    have hT : tolB (mo zs 0) (mo zs 1) (mo zs 2) (mo zs 3) zs.length ys = okZ zs ys := ho.symm
    rw [hT] at ht
    simp only [basW, resV, selI_t]
    rw [hb, basV_t hb] at hcon
    clear ho hb hT hl1 hl4
    generalize okZ zs ys = T at *
    generalize selI T (zA ys 0) = p at *
    generalize selI T (zA ys 1) = q at *
    generalize selI T (zA ys 2) = r at *
    generalize selI T (zA ys 3) = t at *
    generalize mo zs 0 = a at *
    generalize mo zs 1 = b at *
    generalize mo zs 2 = c at *
    generalize mo zs 3 = d at *
    generalize (zs.length : Int) = nn at *
    go_enter Try.func55, Try.ntmps55
    go_wp2_with (first
      | (go_at_call 46; refine (hcon _ (hz.keep hB)).mono ?_; rintro e w2 ⟨rfl, hb2⟩; have hN0 := hN0.keep hb2; have hN1 := hN1.keep hb2; have hB := bt2 hB hb2; have hM := Arr.newAt w2 #[.int .i64 a, .int .i64 b, .int .i64 c, .int .i64 d, .int .i64 nn] 50 _ rfl; have hN0 := hN0.alloc (.cells #[.int .i64 a, .int .i64 b, .int .i64 c, .int .i64 d, .int .i64 nn] 50); have hN1 := hN1.alloc (.cells #[.int .i64 a, .int .i64 b, .int .i64 c, .int .i64 d, .int .i64 nn] 50); have hB := ba hB (.cells #[.int .i64 a, .int .i64 b, .int .i64 c, .int .i64 d, .int .i64 nn] 50))
      | (go_at_call 70; refine (ht _ (hy.keep hB)).mono ?_; rintro e w3 ⟨rfl, hb3⟩; have hN0 := hN0.keep hb3; have hN1 := hN1.keep hb3; have hM := hM.keep hb3; have hB := bt2 hB hb3)
      | fail)
    have hB := ba hB (.cells #[.int .i64 p, .int .i64 q, .int .i64 r, .int .i64 t] 56)
    have hN0 := hN0.alloc (.cells #[.int .i64 p, .int .i64 q, .int .i64 r, .int .i64 t] 56)
    have hN1 := hN1.alloc (.cells #[.int .i64 p, .int .i64 q, .int .i64 r, .int .i64 t] 56)
    have hM := hM.alloc (.cells #[.int .i64 p, .int .i64 q, .int .i64 r, .int .i64 t] 56)
    have hR := Arr.newAt w3 #[.int .i64 p, .int .i64 q, .int .i64 r, .int .i64 t] 56 _ rfl
    clear hcon ht hz hy
    have e1 : w.heap.size ≠ w3.heap.size := by have := hb3.size; have := hb2.size; simp at *; omega
    have e2 : w3.heap.size ≠ w.heap.size := e1.symm
    have e3 : w.heap.size + 1 ≠ w3.heap.size := by have := hb3.size; have := hb2.size; simp at *; omega
    have e4 : w3.heap.size ≠ w.heap.size + 1 := e3.symm
    have e5 : w.heap.size ≠ w2.heap.size := by have := hb2.size; simp at *; omega
    have e6 : w2.heap.size ≠ w.heap.size := e5.symm
    have e7 : w.heap.size + 1 ≠ w2.heap.size := by have := hb2.size; simp at *; omega
    have e8 : w2.heap.size ≠ w.heap.size + 1 := e7.symm
    generalize (w3.alloc (.cells #[.int .i64 p, .int .i64 q, .int .i64 r, .int .i64 t] 56)) = w4 at *
    obtain ⟨x0, x1, x2, x3, x4⟩ := Arr.get5 hN0
    obtain ⟨y0, y1, y2, y3⟩ := Arr.get4 hN1
    obtain ⟨m0, m1, m2, m3, m4⟩ := Arr.get5 hM
    obtain ⟨r0, r1, r2, r3⟩ := Arr.get4 hR
    have f0 := hN0.f
    have f1 := hN1.f
    go_region
    go_wp2_with fail
    have hA0 := (Arr.miss4 (ret5 hN0 (y0 := .int .i64 a) (y1 := .int .i64 b) (y2 := .int .i64 c) (y3 := .int .i64 d) (y4 := .int .i64 nn)) (show w.heap.size + 1 ≠ w.heap.size by omega) (.int .i64 p) (.int .i64 q) (.int .i64 r) (.int .i64 t)).drew
    have hA1 := (ret4 (Arr.miss5 hN1 (show w.heap.size ≠ w.heap.size + 1 by omega) (.int .i64 a) (.int .i64 b) (.int .i64 c) (.int .i64 d) (.int .i64 nn)) (y0 := .int .i64 p) (y1 := .int .i64 q) (y2 := .int .i64 r) (y3 := .int .i64 t)).drew
    obtain ⟨z0, z1, z2, z3, z4⟩ := Arr.get5 hA0
    obtain ⟨v0, v1, v2, v3⟩ := Arr.get4 hA1
    refine bodyPost_ret (v := .tuple #[baseV a b c d nn, restV p q r t, .bool T]) (by simp [results, Try.results55, go_sem, z0, z1, z2, z3, z4, v0, v1, v2, v3]) rfl ⟨rfl, ?_⟩
    exact (bel4 (bel5 hB (by omega) _ _ _ _ _) (by omega) _ _ _ _).drew
def twoB (zs ys xs : List Int) : Bool := okZ zs ys && tolZ zs xs
set_option maxRecDepth 20000 in
set_option maxHeartbeats 4000000 in
theorem c_twoTold (s u x : Option Addr) (n cap m cap2 l cap3 : Nat) (zs ys xs : List Int) (hn : n ≤ 1048576) (hm : m ≤ 1048576) (hl : l ≤ 1048576) (w : World) (hz : Ints w s n zs) (hy : Ints w u m ys) (hx : Ints w x l xs) :
    Calls Try.prog 63 #[.slice s n cap, .slice u m cap2, .slice x l cap3] w fun e w' => e = .returned (.tuple #[basW (okZ zs ys) zs, resV (okZ zs ys) ys, resV (twoB zs ys xs) xs, .bool (twoB zs ys xs)]) ∧ Below w.heap.size w w' := by
  have hcon := c_restsTold s u n cap m cap2 zs ys hn hm
  have hB : Below w.heap.size w _ := ba (ba (ba (Below.refl _ _) (.cells #[.int .i64 0, .int .i64 0, .int .i64 0, .int .i64 0, .int .i64 0] 50)) (.cells #[.int .i64 0, .int .i64 0, .int .i64 0, .int .i64 0] 56)) (.cells #[.int .i64 0, .int .i64 0, .int .i64 0, .int .i64 0] 56)
  have hN0 := ((Arr.newAt w #[.int .i64 0, .int .i64 0, .int .i64 0, .int .i64 0, .int .i64 0] 50 _ rfl).alloc (.cells #[.int .i64 0, .int .i64 0, .int .i64 0, .int .i64 0] 56)).alloc (.cells #[.int .i64 0, .int .i64 0, .int .i64 0, .int .i64 0] 56)
  have hN1 := (Arr.newAt (w.alloc (.cells #[.int .i64 0, .int .i64 0, .int .i64 0, .int .i64 0, .int .i64 0] 50)) #[.int .i64 0, .int .i64 0, .int .i64 0, .int .i64 0] 56 (w.heap.size + 1) (by simp)).alloc (.cells #[.int .i64 0, .int .i64 0, .int .i64 0, .int .i64 0] 56)
  have hN2 := Arr.newAt ((w.alloc (.cells #[.int .i64 0, .int .i64 0, .int .i64 0, .int .i64 0, .int .i64 0] 50)).alloc (.cells #[.int .i64 0, .int .i64 0, .int .i64 0, .int .i64 0] 56)) #[.int .i64 0, .int .i64 0, .int .i64 0, .int .i64 0] 56 (w.heap.size + 1 + 1) (by simp)
  cases hb : okZ zs ys
  · have ho : twoB zs ys xs = false := by rw [twoB, hb]; rfl
    simp only [ho, basW, resV, selI_f]
    rw [hb] at hcon
    simp only [basW, resV, selI_f] at hcon
    clear ho hb
    generalize selI (basB zs) (mo zs 0) = a at *
    generalize selI (basB zs) (mo zs 1) = b at *
    generalize selI (basB zs) (mo zs 2) = c at *
    generalize selI (basB zs) (mo zs 3) = d at *
    generalize selI (basB zs) zs.length = nn at *
    go_enter Try.func63, Try.ntmps63
    go_wp2_with (first | (go_at_call 55; refine (hcon _ (hz.keep hB) (hy.keep hB)).mono ?_; rintro e w2 ⟨rfl, hb2⟩; have hN0 := hN0.keep hb2; have hN1 := hN1.keep hb2; have hN2 := hN2.keep hb2; obtain ⟨x0, x1, x2, x3, x4⟩ := Arr.get5 hN0; obtain ⟨y0, y1, y2, y3⟩ := Arr.get4 hN1; obtain ⟨y4, y5, y6, y7⟩ := Arr.get4 hN2; have f0 := hN0.f; have f1 := hN1.f; have f2 := hN2.f; have l0 := hN0.lt; have l1 := hN1.lt; have l2 := hN2.lt; have hB := bt2 hB hb2) | fail)
    have hA0 := (Arr.miss4 (Arr.miss4 (ret5 hN0 (y0 := .int .i64 0) (y1 := .int .i64 0) (y2 := .int .i64 0) (y3 := .int .i64 0) (y4 := .int .i64 0)) (show w.heap.size + 1 ≠ w.heap.size by omega) (.int .i64 0) (.int .i64 0) (.int .i64 0) (.int .i64 0)) (show w.heap.size + 1 + 1 ≠ w.heap.size by omega) (.int .i64 0) (.int .i64 0) (.int .i64 0) (.int .i64 0)).alloc (.cells #[.int .i64 a, .int .i64 b, .int .i64 c, .int .i64 d, .int .i64 nn] 50) |>.alloc (.cells #[.int .i64 0, .int .i64 0, .int .i64 0, .int .i64 0] 56)
    have hA1 := (Arr.miss4 (ret4 (Arr.miss5 hN1 (show w.heap.size ≠ w.heap.size + 1 by omega) (.int .i64 0) (.int .i64 0) (.int .i64 0) (.int .i64 0) (.int .i64 0)) (y0 := .int .i64 0) (y1 := .int .i64 0) (y2 := .int .i64 0) (y3 := .int .i64 0)) (show w.heap.size + 1 + 1 ≠ w.heap.size + 1 by omega) (.int .i64 0) (.int .i64 0) (.int .i64 0) (.int .i64 0)).alloc (.cells #[.int .i64 a, .int .i64 b, .int .i64 c, .int .i64 d, .int .i64 nn] 50) |>.alloc (.cells #[.int .i64 0, .int .i64 0, .int .i64 0, .int .i64 0] 56)
    have hA2 := (ret4 (Arr.miss4 (Arr.miss5 hN2 (show w.heap.size ≠ w.heap.size + 1 + 1 by omega) (.int .i64 0) (.int .i64 0) (.int .i64 0) (.int .i64 0) (.int .i64 0)) (show w.heap.size + 1 ≠ w.heap.size + 1 + 1 by omega) (.int .i64 0) (.int .i64 0) (.int .i64 0) (.int .i64 0)) (y0 := .int .i64 0) (y1 := .int .i64 0) (y2 := .int .i64 0) (y3 := .int .i64 0)).alloc (.cells #[.int .i64 a, .int .i64 b, .int .i64 c, .int .i64 d, .int .i64 nn] 50) |>.alloc (.cells #[.int .i64 0, .int .i64 0, .int .i64 0, .int .i64 0] 56)
    obtain ⟨z0, z1, z2, z3, z4⟩ := Arr.get5 hA0
    obtain ⟨v0, v1, v2, v3⟩ := Arr.get4 hA1
    obtain ⟨v4, v5, v6, v7⟩ := Arr.get4 hA2
    refine bodyPost_ret (v := .tuple #[baseV 0 0 0 0 0, restV 0 0 0 0, restV 0 0 0 0, .bool false]) (by simp [results, Try.results63, go_sem, z0, z1, z2, z3, z4, v0, v1, v2, v3, v4, v5, v6, v7]) rfl ⟨rfl, ?_⟩
    exact ba (ba (bel4 (bel4 (bel5 hB (by omega) _ _ _ _ _) (by omega) _ _ _ _) (by omega) _ _ _ _) _) _
  · have hbb : basB zs = true := by
      unfold okZ at hb; simp only [Bool.and_eq_true] at hb; exact hb.1
    obtain ⟨hl1, hl4⟩ := bas_len hbb
    have ht := fun w hy => c_told (mo zs 0) (mo zs 1) (mo zs 2) (mo zs 3) zs.length hl1 hl4 (bas_mb hbb 0) (bas_mb hbb 1) (bas_mb hbb 2) (bas_mb hbb 3) x l cap3 xs hl w hy
    have ho : twoB zs ys xs = tolZ zs xs := by rw [twoB, hb]; rfl
    have hT : tolB (mo zs 0) (mo zs 1) (mo zs 2) (mo zs 3) zs.length xs = twoB zs ys xs := ho.symm
    rw [hT] at ht
    simp only [basW, resV, selI_t]
    rw [hb, hbb] at hcon
    simp only [basW, resV, selI_t] at hcon
    clear ho hb hbb hT hl1 hl4
    generalize twoB zs ys xs = T at *
    generalize selI T (zA xs 0) = p at *
    generalize selI T (zA xs 1) = q at *
    generalize selI T (zA xs 2) = r at *
    generalize selI T (zA xs 3) = t at *
    generalize zA ys 0 = p' at *
    generalize zA ys 1 = q' at *
    generalize zA ys 2 = r' at *
    generalize zA ys 3 = t' at *
    generalize mo zs 0 = a at *
    generalize mo zs 1 = b at *
    generalize mo zs 2 = c at *
    generalize mo zs 3 = d at *
    generalize (zs.length : Int) = nn at *
    go_enter Try.func63, Try.ntmps63
    go_wp2_with (first
      | (go_at_call 55; refine (hcon _ (hz.keep hB) (hy.keep hB)).mono ?_; rintro e w2 ⟨rfl, hb2⟩; have hN0 := hN0.keep hb2; have hN1 := hN1.keep hb2; have hN2 := hN2.keep hb2; have hB := bt2 hB hb2; have hM := (Arr.newAt w2 #[.int .i64 a, .int .i64 b, .int .i64 c, .int .i64 d, .int .i64 nn] 50 _ rfl).alloc (.cells #[.int .i64 p', .int .i64 q', .int .i64 r', .int .i64 t'] 56); have hM2 := Arr.newAt (w2.alloc (.cells #[.int .i64 a, .int .i64 b, .int .i64 c, .int .i64 d, .int .i64 nn] 50)) #[.int .i64 p', .int .i64 q', .int .i64 r', .int .i64 t'] 56 (w2.heap.size + 1) (by simp); have hN0 := (hN0.alloc (.cells #[.int .i64 a, .int .i64 b, .int .i64 c, .int .i64 d, .int .i64 nn] 50)).alloc (.cells #[.int .i64 p', .int .i64 q', .int .i64 r', .int .i64 t'] 56); have hN1 := (hN1.alloc (.cells #[.int .i64 a, .int .i64 b, .int .i64 c, .int .i64 d, .int .i64 nn] 50)).alloc (.cells #[.int .i64 p', .int .i64 q', .int .i64 r', .int .i64 t'] 56); have hN2 := (hN2.alloc (.cells #[.int .i64 a, .int .i64 b, .int .i64 c, .int .i64 d, .int .i64 nn] 50)).alloc (.cells #[.int .i64 p', .int .i64 q', .int .i64 r', .int .i64 t'] 56); have hB := ba (ba hB (.cells #[.int .i64 a, .int .i64 b, .int .i64 c, .int .i64 d, .int .i64 nn] 50)) (.cells #[.int .i64 p', .int .i64 q', .int .i64 r', .int .i64 t'] 56))
      | (go_at_call 70; refine (ht _ (hx.keep hB)).mono ?_; rintro e w3 ⟨rfl, hb3⟩; have hN0 := hN0.keep hb3; have hN1 := hN1.keep hb3; have hN2 := hN2.keep hb3; have hM := hM.keep hb3; have hM2 := hM2.keep hb3; have hB := bt2 hB hb3)
      | fail)
    have hB := ba hB (.cells #[.int .i64 p, .int .i64 q, .int .i64 r, .int .i64 t] 56)
    have hN0 := hN0.alloc (.cells #[.int .i64 p, .int .i64 q, .int .i64 r, .int .i64 t] 56)
    have hN1 := hN1.alloc (.cells #[.int .i64 p, .int .i64 q, .int .i64 r, .int .i64 t] 56)
    have hN2 := hN2.alloc (.cells #[.int .i64 p, .int .i64 q, .int .i64 r, .int .i64 t] 56)
    have hM := hM.alloc (.cells #[.int .i64 p, .int .i64 q, .int .i64 r, .int .i64 t] 56)
    have hM2 := hM2.alloc (.cells #[.int .i64 p, .int .i64 q, .int .i64 r, .int .i64 t] 56)
    have hR := Arr.newAt w3 #[.int .i64 p, .int .i64 q, .int .i64 r, .int .i64 t] 56 _ rfl
    clear hcon ht hz hy hx
    have s2 : w.heap.size + 1 + 1 < w2.heap.size := by have := hb2.size; simp at this; omega
    have s3 : w2.heap.size + 1 < w3.heap.size := by have := hb3.size; simp at this; omega
    have e1 : w.heap.size ≠ w3.heap.size := by omega
    have e2 : w3.heap.size ≠ w.heap.size := e1.symm
    have e3 : w.heap.size + 1 ≠ w3.heap.size := by omega
    have e4 : w3.heap.size ≠ w.heap.size + 1 := e3.symm
    have e5 : w.heap.size ≠ w2.heap.size := by omega
    have e6 : w2.heap.size ≠ w.heap.size := e5.symm
    have e7 : w.heap.size + 1 ≠ w2.heap.size := by omega
    have e8 : w2.heap.size ≠ w.heap.size + 1 := e7.symm
    have e9 : w.heap.size + 1 + 1 ≠ w3.heap.size := by omega
    have ea : w3.heap.size ≠ w.heap.size + 1 + 1 := e9.symm
    have eb : w.heap.size + 1 + 1 ≠ w2.heap.size := by omega
    have ec : w2.heap.size ≠ w.heap.size + 1 + 1 := eb.symm
    have ed : w.heap.size ≠ w2.heap.size + 1 := by omega
    have ee : w2.heap.size + 1 ≠ w.heap.size := ed.symm
    have ef : w.heap.size + 1 ≠ w2.heap.size + 1 := by omega
    have eg : w2.heap.size + 1 ≠ w.heap.size + 1 := ef.symm
    have eh : w.heap.size + 1 + 1 ≠ w2.heap.size + 1 := by omega
    have ei : w2.heap.size + 1 ≠ w.heap.size + 1 + 1 := eh.symm
    generalize (w3.alloc (.cells #[.int .i64 p, .int .i64 q, .int .i64 r, .int .i64 t] 56)) = w4 at *
    obtain ⟨x0, x1, x2, x3, x4⟩ := Arr.get5 hN0
    obtain ⟨y0, y1, y2, y3⟩ := Arr.get4 hN1
    obtain ⟨y4, y5, y6, y7⟩ := Arr.get4 hN2
    obtain ⟨m0, m1, m2, m3, m4⟩ := Arr.get5 hM
    obtain ⟨m5, m6, m7, m8⟩ := Arr.get4 hM2
    obtain ⟨r0, r1, r2, r3⟩ := Arr.get4 hR
    have f0 := hN0.f
    have f1 := hN1.f
    have f2 := hN2.f
    clear s2 s3 hb2 hb3
    go_region
    go_wp2_with fail
    have hA0 := (Arr.miss4 (Arr.miss4 (ret5 hN0 (y0 := .int .i64 a) (y1 := .int .i64 b) (y2 := .int .i64 c) (y3 := .int .i64 d) (y4 := .int .i64 nn)) (show w.heap.size + 1 ≠ w.heap.size by omega) (.int .i64 p') (.int .i64 q') (.int .i64 r') (.int .i64 t')) (show w.heap.size + 1 + 1 ≠ w.heap.size by omega) (.int .i64 p) (.int .i64 q) (.int .i64 r) (.int .i64 t)).drew
    have hA1 := (Arr.miss4 (ret4 (Arr.miss5 hN1 (show w.heap.size ≠ w.heap.size + 1 by omega) (.int .i64 a) (.int .i64 b) (.int .i64 c) (.int .i64 d) (.int .i64 nn)) (y0 := .int .i64 p') (y1 := .int .i64 q') (y2 := .int .i64 r') (y3 := .int .i64 t')) (show w.heap.size + 1 + 1 ≠ w.heap.size + 1 by omega) (.int .i64 p) (.int .i64 q) (.int .i64 r) (.int .i64 t)).drew
    have hA2 := (ret4 (Arr.miss4 (Arr.miss5 hN2 (show w.heap.size ≠ w.heap.size + 1 + 1 by omega) (.int .i64 a) (.int .i64 b) (.int .i64 c) (.int .i64 d) (.int .i64 nn)) (show w.heap.size + 1 ≠ w.heap.size + 1 + 1 by omega) (.int .i64 p') (.int .i64 q') (.int .i64 r') (.int .i64 t')) (y0 := .int .i64 p) (y1 := .int .i64 q) (y2 := .int .i64 r) (y3 := .int .i64 t)).drew
    obtain ⟨z0, z1, z2, z3, z4⟩ := Arr.get5 hA0
    obtain ⟨v0, v1, v2, v3⟩ := Arr.get4 hA1
    obtain ⟨v4, v5, v6, v7⟩ := Arr.get4 hA2
    refine bodyPost_ret (v := .tuple #[baseV a b c d nn, restV p' q' r' t', restV p q r t, .bool T]) (by simp [results, Try.results63, go_sem, z0, z1, z2, z3, z4, v0, v1, v2, v3, v4, v5, v6, v7]) rfl ⟨rfl, ?_⟩
    exact (bel4 (bel4 (bel5 hB (by omega) _ _ _ _ _) (by omega) _ _ _ _) (by omega) _ _ _ _).drew
end Go.Proofs.Ytnbejgbkabaleaa
