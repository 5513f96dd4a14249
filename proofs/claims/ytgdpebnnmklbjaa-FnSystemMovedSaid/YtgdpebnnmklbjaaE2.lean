/- Contracts of the search for a common number, in the model and in the program. -/
import Derived.Test.YtgdpebnnmklbjaaC2
import Derived.Test.YtgdpebnnmklbjaaE1
namespace Go.Proofs.Ytgdpebnnmklbjaa
open Go.RowKit
def lcmI (a b : Int) : Int := a / gcdI a b * b
/-- the first of x, x + m, x + 2 m .. below M that has the rest s by n -/
def findX (m s n M : Int) : Nat → Int → Option Int
  | 0, _ => none
  | k + 1, x => if x < M then (if x % n = s then some x else findX m s n M k (x + m)) else none
def metO (m s n r : Int) : Option Int := findX m s n (lcmI m n) 1001 r
def metB (m s n r : Int) : Bool := decide (lcmI m n ≤ 1000) && (metO m s n r).isSome
def metX (m s n r : Int) : Int := (metO m s n r).getD 0
theorem gcdI_bd {a b : Int} (ha : 1 ≤ a) (hb : 0 ≤ b) : 1 ≤ gcdI a b ∧ gcdI a b ≤ a := by
  obtain ⟨x, rfl⟩ := Int.eq_ofNat_of_zero_le (show 0 ≤ a by omega)
  obtain ⟨y, rfl⟩ := Int.eq_ofNat_of_zero_le hb
  unfold gcdI
  simp only [Int.toNat_natCast]
  have h1 := Nat.gcd_pos_of_pos_left y (show 0 < x by omega)
  have h2 := Nat.gcd_le_left y (show 0 < x by omega)
  omega
theorem lcmI_bd {a b : Int} (ha : 1 ≤ a) (ha2 : a ≤ 1000) (hb : 1 ≤ b) (hb2 : b ≤ 1000) : 0 ≤ a / gcdI a b ∧ a / gcdI a b ≤ 1000 ∧ 0 ≤ a / gcdI a b * b ∧ a / gcdI a b * b ≤ 1000000 := by
  obtain ⟨g1, g2⟩ := gcdI_bd ha (show 0 ≤ b by omega)
  have h1 := Int.ediv_nonneg (show 0 ≤ a by omega) (show 0 ≤ gcdI a b by omega)
  have h2 := Int.ediv_le_self (gcdI a b) (show 0 ≤ a by omega)
  refine ⟨h1, by omega, Int.mul_nonneg h1 (by omega), ?_⟩
  have := Int.mul_le_mul (show a / gcdI a b ≤ 1000 by omega) hb2 (by omega) (by omega)
  omega
theorem findX_end {m s n M x : Int} (k : Nat) (h : M ≤ x) : findX m s n M k x = none := by
  cases k with
  | zero => rfl
  | succ k => simp [findX]; omega
theorem findX_yes {m s n M x : Int} {k : Nat} (hk : 0 < k) (h : x < M) (he : x % n = s) : findX m s n M k x = some x := by
  cases k with
  | zero => omega
  | succ k => simp [findX, h, he]
theorem findX_no {m s n M x : Int} {k : Nat} (h : x < M) (he : ¬ x % n = s) : findX m s n M (k + 1) x = findX m s n M k (x + m) := by
  simp [findX, h, he]
theorem two_below {w w' : World} {A B C : Array Value} {t u v : TypeId} (h : Below (((w.alloc (.cells A t)).alloc (.cells B u)).alloc (.cells C v)).heap.size (((w.alloc (.cells A t)).alloc (.cells B u)).alloc (.cells C v)) w') :
    (∀ i, w'.cell? ⟨w.heap.size, i, none⟩ = A[i]?) ∧ (∀ i, w'.cell? ⟨w.heap.size + 1, i, none⟩ = B[i]?) ∧ (∀ i, w'.cell? ⟨w.heap.size + 1 + 1, i, none⟩ = C[i]?) ∧ (∀ i, w'.frozen? ⟨w.heap.size + 1 + 1, i, none⟩ = false) := by
  have h1 := fun i => kc (bt2 (ba (ba (Below.refl _ (w.alloc (.cells A t))) _) _) h) i
  have h2 := fun i => kc (w := w.alloc (.cells A t)) (bt2 (ba (Below.refl _ _) _) h) i
  have h3 := fun i => kc (w := (w.alloc (.cells A t)).alloc (.cells B u)) h i
  have h4 := fun i => kf (w := (w.alloc (.cells A t)).alloc (.cells B u)) h i
  exact ⟨h1, fun i => by simpa using h2 i, fun i => by simpa using h3 i, fun i => by simpa using h4 i⟩
theorem met_some {m s n r M X : Int} {k : Nat} (hM : lcmI m n = M) (hl : M ≤ 1000) (h : findX m s n M k X = metO m s n r) (hX : findX m s n M k X = some X) : metB m s n r = true ∧ metX m s n r = X := by
  have e : metO m s n r = some X := by rw [← h, hX]
  simp [metB, metX, e, hM, hl]
theorem met_none {m s n r M X : Int} {k : Nat} (h : findX m s n M k X = metO m s n r) (hX : findX m s n M k X = none) : metB m s n r = false := by
  have e : metO m s n r = none := by rw [← h, hX]
  simp [metB, e]
theorem c_l1Meet (r m s n : Int) (hc : inB r m = true) (hd : inB s n = true) (w : World) : Calls Try.prog 83 #[.agg #[.int .i64 r, .int .i64 m], .agg #[.int .i64 s, .int .i64 n]] w fun e w' => e = .returned (.tuple #[.agg #[.int .i64 (selI (metB m s n r) (metX m s n r)), .int .i64 (selI (metB m s n r) (lcmI m n))], .bool (metB m s n r)]) ∧ Below w.heap.size w w' := by
  obtain ⟨m1, m2, r1, r2⟩ := inB_iff.1 hc
  obtain ⟨n1, n2, s1, s2⟩ := inB_iff.1 hd
  obtain ⟨g1, g2⟩ := gcdI_bd m1 (show 0 ≤ n by omega)
  obtain ⟨l1, l2, l3, l4⟩ := lcmI_bd m1 m2 n1 n2
  by_cases hl : lcmI m n ≤ 1000
  · have hMe : lcmI m n = m / gcdI m n * n := rfl
    have hdec : decide (1000 < m / gcdI m n * n) = false := by rw [← hMe]; simp; omega
    have hmo : metO m s n r = findX m s n (m / gcdI m n * n) 1001 r := rfl
    have HMO := Lib.hid hmo
    have HME := Lib.hid hMe
    rw [hMe] at hl
    clear hmo hMe
    go_enter Try.func83, Try.ntmps83
    go_wp2
    go_quiet ((go_at_call 72; exact Calls.quiet_of_same ((c_l1Gcd _ _ (by omega) m2 (by omega) n2 _).mono fun e w' h => ⟨h.1, h.2.symm⟩)))
    generalize hM : m / gcdI m n * n = M at *
    have HM := Lib.hid hM
    clear hM
    go_wp2
    go_loopw [7] (fun x wr => ∃ (X : Int) (k : Nat), r ≤ X ∧ X ≤ 2000 ∧ x = .int .i64 X ∧ (M - X).toNat < k ∧ Hid (findX m s n M k X = metO m s n r) ∧ Below (((w.alloc (Obj.cells #[Value.int IntKind.i64 r, Value.int IntKind.i64 m] 34)).alloc (Obj.cells #[Value.int IntKind.i64 s, Value.int IntKind.i64 n] 34)).alloc (Obj.cells #[Value.int IntKind.i64 0, Value.int IntKind.i64 0] 34)).heap.size (((w.alloc (Obj.cells #[Value.int IntKind.i64 r, Value.int IntKind.i64 m] 34)).alloc (Obj.cells #[Value.int IntKind.i64 s, Value.int IntKind.i64 n] 34)).alloc (Obj.cells #[Value.int IntKind.i64 0, Value.int IntKind.i64 0] 34)) wr) (fun x _ => (M - intOf x).toNat)
    case atStart => exact ⟨r, 1001, by omega, by omega, rfl, by omega, HMO.out.symm, by repeat (first | exact Below.refl _ _ | assumption | refine Below.drew ?_ | refine bel_drewN ?_ _ | refine ba ?_ _ | refine bt2 ?_ (by assumption) | refine Below.setCell ?_ (by simp <;> omega) _)⟩
    case round =>
      obtain ⟨X, k, hX1, hX2, rfl, hk, hF, hW⟩ := hrel
      obtain ⟨A, B, C, D⟩ := two_below hW
      have a1 := A 1
      have b0 := B 0
      have b1 := B 1
      have c0 := C 0
      have c1 := C 1
      have d0 := D 0
      have d1 := D 1
      clear A B C D
      have hz : w.heap.size + 1 + 1 < wr.heap.size := by have := hW.size; simp at this; omega
      by_cases hlt : X < M
      · go_wp2_with fail
        refine (c_l1Has s n X n1 n2 _).mono ?_
        rintro e w5 ⟨rfl, hb5⟩
        have hW5 := bt2 hW hb5
        obtain ⟨A, B, C, D⟩ := two_below hW5
        have a1' := A 1
        have c0' := C 0
        have c1' := C 1
        have d0' := D 0
        have d1' := D 1
        clear A B C D a1 b0 b1 c0 c1 d0 d1
        have hz5 : w.heap.size + 1 + 1 < w5.heap.size := by have := hW5.size; simp at this; omega
        cases he : (X % n == s)
        · have he' : ¬ X % n = s := by simpa using he
          obtain ⟨k', rfl⟩ : ∃ k', k = k' + 1 := ⟨k - 1, by omega⟩
          have hF' : Hid (findX m s n M k' (X + m) = metO m s n r) := by show _ = _; rw [← findX_no hlt he']; exact hF.out
          clear hF he'
          go_wp2
          go_roundw
          case rel => exact ⟨X + m, k', by omega, by omega, rfl, by omega, hF', hW5⟩
          case measure => simp [intOf]; omega
        · have he' : X % n = s := by simpa using he
          obtain ⟨hB, hX⟩ := met_some HME.out hl hF.out (findX_yes (by omega) hlt he')
          have HB := Lib.hid hB
          have HX := Lib.hid hX
          have HL := Lib.hid HME.out
          clear hF he' hB hX
          go_wp2
          refine bodyPost_ret (v := .tuple #[.agg #[.int .i64 X, .int .i64 M], .bool true]) (by simp [results, Try.results83, go_sem, c0', c1']) rfl ⟨by rw [HB.out, HX.out, HL.out]; rfl, ?_⟩
          refine Below.setCell (Below.setCell ?_ (by simp; omega) _) (by simp; omega) _
          exact bt2 (ba (ba (ba (Below.refl _ _) _) _) _) hW5
      · have hB := met_none hF.out (findX_end k (by omega))
        have HB := Lib.hid hB
        clear hF hB
        go_wp2_with (go_at_call 94; refine (c_l1None _).mono ?_; rintro e w1 ⟨rfl, rfl⟩)
        refine bodyPost_ret (v := .tuple #[.agg #[.int .i64 0, .int .i64 0], .bool false]) (by simp [results, Try.results83, go_sem, cell_ret0 c0 c1, cell_ret1 c0 c1]) rfl ⟨by rw [HB.out]; rfl, ?_⟩
        have hWw := bt2 (ba (ba (ba (Below.refl _ w) _) _) _) hW
        repeat (first | exact Below.refl _ _ | assumption | refine Below.drew ?_ | refine bel_drewN ?_ _ | refine ba ?_ _ | refine bt2 ?_ (by assumption) | refine Below.setCell ?_ (by simp <;> omega) _)
  · have hf : metB m s n r = false := by simp [metB, hl]
    simp only [hf, selI_f]
    unfold lcmI at hl
    clear hf
    go_enter Try.func83, Try.ntmps83
    go_wp2
    go_quiet ((go_at_call 72; exact Calls.quiet_of_same ((c_l1Gcd _ _ (by omega) m2 (by omega) n2 _).mono fun e w' h => ⟨h.1, h.2.symm⟩)))
    go_wp2_with (go_at_call 94; refine (c_l1None _).mono ?_; rintro e w1 ⟨rfl, rfl⟩)
    refine bodyPost_ret (v := .tuple #[.agg #[.int .i64 0, .int .i64 0], .bool false]) (by simp [results, Try.results83, go_sem]) rfl ⟨rfl, ?_⟩
    repeat (first | exact Below.refl _ _ | assumption | refine Below.drew ?_ | refine bel_drewN ?_ _ | refine ba ?_ _ | refine bt2 ?_ (by assumption) | refine Below.setCell ?_ (by simp <;> omega) _)
end Go.Proofs.Ytgdpebnnmklbjaa
