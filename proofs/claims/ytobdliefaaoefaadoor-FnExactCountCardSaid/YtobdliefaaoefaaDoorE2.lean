/- Contracts of the search for a common number, in the model and in the program. -/
import Derived.Test.YtobdliefaaoefaaDoorC2
import Derived.Test.YtobdliefaaoefaaDoorE1
namespace Go.Proofs.YtobdliefaaoefaaDoor
open Go.RowKit
def lcmI (a b : Int) : Int := a / gcdI a b * b
/-- the first of x, x + m, x + 2 m .. below M that has the rest s by n -/
def findX (m s n M : Int) : Nat → Int → Option Int
  | 0, _ => none
  | k + 1, x => if x < M then (if x % n = s then some x else findX m s n M k (x + m)) else none
def metO (m s n r : Int) : Option Int := findX m s n (lcmI m n) 1001 r
def metB (m s n r : Int) : Bool := decide (lcmI m n ≤ 1000) && (metO m s n r).isSome
def metX (m s n r : Int) : Int := (metO m s n r).getD 0
theorem gcdI_bd {a b : Int} (ha : 1 ≤ a) (hb : 0 ≤ b) : 1 ≤ gcdI a b ∧ gcdI a b ≤ a := by
  obtain ⟨x, rfl⟩ := Int.eq_ofNat_of_zero_le (show 0 ≤ a by omega)
  obtain ⟨y, rfl⟩ := Int.eq_ofNat_of_zero_le hb
  unfold gcdI
  simp only [Int.toNat_natCast]
  have h1 := Nat.gcd_pos_of_pos_left y (show 0 < x by omega)
  have h2 := Nat.gcd_le_left y (show 0 < x by omega)
  omega
theorem lcmI_bd {a b : Int} (ha : 1 ≤ a) (ha2 : a ≤ 1000) (hb : 1 ≤ b) (hb2 : b ≤ 1000) : 0 ≤ a / gcdI a b ∧ a / gcdI a b ≤ 1000 ∧ 0 ≤ a / gcdI a b * b ∧ a / gcdI a b * b ≤ 1000000 := by
  obtain ⟨g1, g2⟩ := gcdI_bd ha (show 0 ≤ b by omega)
  have h1 := Int.ediv_nonneg (show 0 ≤ a by omega) (show 0 ≤ gcdI a b by omega)
  have h2 := Int.ediv_le_self (gcdI a b) (show 0 ≤ a by omega)
  refine ⟨h1, by omega, Int.mul_nonneg h1 (by omega), ?_⟩
  have := Int.mul_le_mul (show a / gcdI a b ≤ 1000 by omega) hb2 (by omega) (by omega)
  omega
theorem findX_end {m s n M x : Int} (k : Nat) (h : M ≤ x) : findX m s n M k x = none := by
  cases k with
  | zero => rfl
  | succ k => simp [findX]; omega
theorem findX_yes {m s n M x : Int} {k : Nat} (hk : 0 < k) (h : x < M) (he : x % n = s) : findX m s n M k x = some x := by
  cases k with
  | zero => omega
  | succ k => simp [findX, h, he]
theorem findX_no {m s n M x : Int} {k : Nat} (h : x < M) (he : ¬ x % n = s) : findX m s n M (k + 1) x = findX m s n M k (x + m) := by
  simp [findX, h, he]
theorem two_below {w w' : World} {A B C : Array Value} {t u v : TypeId} (h : Below (((w.alloc (.cells A t)).alloc (.cells B u)).alloc (.cells C v)).heap.size (((w.alloc (.cells A t)).alloc (.cells B u)).alloc (.cells C v)) w') :
    (∀ i, w'.cell? ⟨w.heap.size, i, none⟩ = A[i]?) ∧ (∀ i, w'.cell? ⟨w.heap.size + 1, i, none⟩ = B[i]?) ∧ (∀ i, w'.cell? ⟨w.heap.size + 1 + 1, i, none⟩ = C[i]?) ∧ (∀ i, w'.frozen? ⟨w.heap.size + 1 + 1, i, none⟩ = false) := by
  have h1 := fun i => kc (bt2 (ba (ba (Below.refl _ (w.alloc (.cells A t))) _) _) h) i
  have h2 := fun i => kc (w := w.alloc (.cells A t)) (bt2 (ba (Below.refl _ _) _) h) i
  have h3 := fun i => kc (w := (w.alloc (.cells A t)).alloc (.cells B u)) h i
  have h4 := fun i => kf (w := (w.alloc (.cells A t)).alloc (.cells B u)) h i
  exact ⟨h1, fun i => by simpa using h2 i, fun i => by simpa using h3 i, fun i => by simpa using h4 i⟩
theorem met_some {m s n r M X : Int} {k : Nat} (hM : lcmI m n = M) (hl : M ≤ 1000) (h : findX m s n M k X = metO m s n r) (hX : findX m s n M k X = some X) : metB m s n r = true ∧ metX m s n r = X := by
  have e : metO m s n r = some X := by rw [← h, hX]
  simp [metB, metX, e, hM, hl]
theorem met_none {m s n r M X : Int} {k : Nat} (h : findX m s n M k X = metO m s n r) (hX : findX m s n M k X = none) : metB m s n r = false := by
  have e : metO m s n r = none := by rw [← h, hX]
  simp [metB, e]
end Go.Proofs.YtobdliefaaoefaaDoor
