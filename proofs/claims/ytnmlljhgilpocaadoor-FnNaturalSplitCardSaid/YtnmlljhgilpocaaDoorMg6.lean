/- Contracts of the two functions that give the greatest common divisor. -/
import Derived.Test.YtnmlljhgilpocaaDoorMgK
import Derived.LoopTactic
namespace Go.Proofs.YtnmlljhgilpocaaDoor
open Go.RowKit
def gcdI (a b : Int) : Int := ((a.toNat.gcd b.toNat : Nat) : Int)
theorem gcdI_zero {a : Int} (h : 0 ≤ a) : gcdI a 0 = a := by simp [gcdI]; omega
theorem gcdI_step {a b : Int} (ha : 0 ≤ a) (hb : 0 < b) : gcdI b (a % b) = gcdI a b := by
  obtain ⟨x, rfl⟩ := Int.eq_ofNat_of_zero_le ha
  obtain ⟨y, rfl⟩ := Int.eq_ofNat_of_zero_le (show 0 ≤ b by omega)
  have e : ((x : Int) % (y : Int)).toNat = x % y := by rw [← Int.natCast_emod]; exact Int.toNat_natCast _
  unfold gcdI
  rw [e]
  simp only [Int.toNat_natCast]
  rw [Nat.gcd_comm x y, Nat.gcd_rec y x, Nat.gcd_comm]
theorem c_l1Gcd (a b : Int) (ha : 0 ≤ a) (ha2 : a ≤ 1000) (hb : 0 ≤ b) (hb2 : b ≤ 1000) (w : World) : Calls Tryd.prog 40 #[.int .i64 a, .int .i64 b] w fun e w' => e = .returned (.int .i64 (gcdI a b)) ∧ w = w' := by
  go_enter Tryd.func40, Tryd.ntmps40
  go_wp2
  go_loop [0, 1] (fun x y => ∃ p q : Int, 0 ≤ p ∧ p ≤ 1000 ∧ 0 ≤ q ∧ q ≤ 1000 ∧ Hid (gcdI p q = gcdI a b) ∧ x = .int .i64 p ∧ y = .int .i64 q) (fun _ y => (intOf y).toNat)
  case atStart => exact ⟨a, b, ha, ha2, hb, hb2, rfl, rfl, rfl⟩
  case round =>
    obtain ⟨p, q, p1, p2, q1, q2, hg, rfl, rfl⟩ := hrel
    by_cases hq : q = 0
    · have hq0 : (q != 0) = false := by simp [hq]
      have hgo : p = gcdI a b := by have := hg.out; rw [hq, gcdI_zero p1] at this; exact this
      have HG := Lib.hid hgo
      clear hgo hg hq
      go_wp2
      go_ret
      exact ⟨ri HG.out, rfl⟩
    · have hq0 : (q != 0) = true := by simpa using hq
      have hm := emod_bd p q (by omega)
      have hs : Hid (gcdI q (p % q) = gcdI a b) := by show _ = _; rw [gcdI_step p1 (by omega)]; exact hg.out
      clear hg
      go_wp2
      go_round
      case rel => exact ⟨q, p % q, by omega, by omega, hm.1, by omega, hs, rfl, rfl⟩
      case measure => simp [intOf]; omega
theorem c_commonDivisor (a b : Int) (ha : 0 ≤ a) (ha2 : a ≤ 1000) (hb : 0 ≤ b) (hb2 : b ≤ 1000) (w : World) : Calls Tryd.prog 42 #[.int .i64 a, .int .i64 b] w fun e w' => ∃ n, e = .returned (.int .i64 (gcdI a b)) ∧ w' = w.drewN n := by
  go_enter Tryd.func42, Tryd.ntmps42
  go_wp2
  go_loopw [0, 1] (fun x y wr => ∃ (p q : Int) (n : Nat), 0 ≤ p ∧ p ≤ 1000 ∧ 0 ≤ q ∧ q ≤ 1000 ∧ Hid (gcdI p q = gcdI a b) ∧ x = .int .i64 p ∧ y = .int .i64 q ∧ wr = w.drewN n) (fun _ y _ => (intOf y).toNat)
  case atStart => exact ⟨a, b, 0, ha, ha2, hb, hb2, rfl, rfl, rfl, rfl⟩
  case round =>
    obtain ⟨p, q, n, p1, p2, q1, q2, hg, rfl, rfl, rfl⟩ := hrel
    by_cases hq : q = 0
    · have hq0 : (q != 0) = false := by simp [hq]
      have hgo : p = gcdI a b := by have := hg.out; rw [hq, gcdI_zero p1] at this; exact this
      have HG := Lib.hid hgo
      clear hgo hg hq
      go_wp2
      go_ret
      exact ⟨n, ri HG.out, rfl⟩
    · have hq0 : (q != 0) = true := by simpa using hq
      have hm := emod_bd p q (by omega)
      have hs : Hid (gcdI q (p % q) = gcdI a b) := by show _ = _; rw [gcdI_step p1 (by omega)]; exact hg.out
      clear hg
      go_wp2
      go_quiet (fail)
      go_wp2
      go_roundw
      case rel => exact ⟨q, p % q, n + nq, by omega, by omega, hm.1, by omega, hs, rfl, rfl, by simp [World.drewN, Nat.add_assoc]⟩
      case measure => simp [intOf]; omega
end Go.Proofs.YtnmlljhgilpocaaDoor
namespace Go.Proofs.YtnmlljhgilpocaaDoor
open Go.RowKit
def lcmI (a b : Int) : Int := a / gcdI a b * b
/-- the first of x, x + m, x + 2 m .. below M that has the rest s by n -/
def findX (m s n M : Int) : Nat → Int → Option Int
  | 0, _ => none
  | k + 1, x => if x < M then (if x % n = s then some x else findX m s n M k (x + m)) else none
def metO (m s n r : Int) : Option Int := findX m s n (lcmI m n) 1001 r
def metB (m s n r : Int) : Bool := decide (lcmI m n ≤ 1000) && (metO m s n r).isSome
def metX (m s n r : Int) : Int := (metO m s n r).getD 0
theorem gcdI_bd {a b : Int} (ha : 1 ≤ a) (hb : 0 ≤ b) : 1 ≤ gcdI a b ∧ gcdI a b ≤ a := by
  obtain ⟨x, rfl⟩ := Int.eq_ofNat_of_zero_le (show 0 ≤ a by omega)
  obtain ⟨y, rfl⟩ := Int.eq_ofNat_of_zero_le hb
  unfold gcdI
  simp only [Int.toNat_natCast]
  have h1 := Nat.gcd_pos_of_pos_left y (show 0 < x by omega)
  have h2 := Nat.gcd_le_left y (show 0 < x by omega)
  omega
theorem lcmI_bd {a b : Int} (ha : 1 ≤ a) (ha2 : a ≤ 1000) (hb : 1 ≤ b) (hb2 : b ≤ 1000) : 0 ≤ a / gcdI a b ∧ a / gcdI a b ≤ 1000 ∧ 0 ≤ a / gcdI a b * b ∧ a / gcdI a b * b ≤ 1000000 := by
  obtain ⟨g1, g2⟩ := gcdI_bd ha (show 0 ≤ b by omega)
  have h1 := Int.ediv_nonneg (show 0 ≤ a by omega) (show 0 ≤ gcdI a b by omega)
  have h2 := Int.ediv_le_self (gcdI a b) (show 0 ≤ a by omega)
  refine ⟨h1, by omega, Int.mul_nonneg h1 (by omega), ?_⟩
  have := Int.mul_le_mul (show a / gcdI a b ≤ 1000 by omega) hb2 (by omega) (by omega)
  omega
theorem findX_end {m s n M x : Int} (k : Nat) (h : M ≤ x) : findX m s n M k x = none := by
  cases k with
  | zero => rfl
  | succ k => simp [findX]; omega
theorem findX_yes {m s n M x : Int} {k : Nat} (hk : 0 < k) (h : x < M) (he : x % n = s) : findX m s n M k x = some x := by
  cases k with
  | zero => omega
  | succ k => simp [findX, h, he]
theorem findX_no {m s n M x : Int} {k : Nat} (h : x < M) (he : ¬ x % n = s) : findX m s n M (k + 1) x = findX m s n M k (x + m) := by
  simp [findX, h, he]
theorem two_below {w w' : World} {A B C : Array Value} {t u v : TypeId} (h : Below (((w.alloc (.cells A t)).alloc (.cells B u)).alloc (.cells C v)).heap.size (((w.alloc (.cells A t)).alloc (.cells B u)).alloc (.cells C v)) w') :
    (∀ i, w'.cell? ⟨w.heap.size, i, none⟩ = A[i]?) ∧ (∀ i, w'.cell? ⟨w.heap.size + 1, i, none⟩ = B[i]?) ∧ (∀ i, w'.cell? ⟨w.heap.size + 1 + 1, i, none⟩ = C[i]?) ∧ (∀ i, w'.frozen? ⟨w.heap.size + 1 + 1, i, none⟩ = false) := by
  have h1 := fun i => kc (bt2 (ba (ba (Below.refl _ (w.alloc (.cells A t))) _) _) h) i
  have h2 := fun i => kc (w := w.alloc (.cells A t)) (bt2 (ba (Below.refl _ _) _) h) i
  have h3 := fun i => kc (w := (w.alloc (.cells A t)).alloc (.cells B u)) h i
  have h4 := fun i => kf (w := (w.alloc (.cells A t)).alloc (.cells B u)) h i
  exact ⟨h1, fun i => by simpa using h2 i, fun i => by simpa using h3 i, fun i => by simpa using h4 i⟩
theorem met_some {m s n r M X : Int} {k : Nat} (hM : lcmI m n = M) (hl : M ≤ 1000) (h : findX m s n M k X = metO m s n r) (hX : findX m s n M k X = some X) : metB m s n r = true ∧ metX m s n r = X := by
  have e : metO m s n r = some X := by rw [← h, hX]
  simp [metB, metX, e, hM, hl]
theorem met_none {m s n r M X : Int} {k : Nat} (h : findX m s n M k X = metO m s n r) (hX : findX m s n M k X = none) : metB m s n r = false := by
  have e : metO m s n r = none := by rw [← h, hX]
  simp [metB, e]
end Go.Proofs.YtnmlljhgilpocaaDoor
