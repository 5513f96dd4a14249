/- What the numbers that come from the iterator say of the first common number. -/
import Derived.Test.YtgdpebnnmklbjaaR1
import Derived.Test.YtgdpebnnmklbjaaE2
namespace Go.Proofs.Ytgdpebnnmklbjaa
open Go.RowKit
theorem numK0 {r m : Int} (h0 : 0 ≤ r) (h1 : r < m) (k : Nat) : numK r m 0 k = r + (k : Int) * m := by
  unfold numK firI
  rw [Int.sub_zero, Int.emod_eq_of_lt h0 h1]; omega
theorem findX_steps {m s n M r : Int} (k : Nat) : ∀ K, (∀ j : Nat, j < k → r + (j : Int) * m < M ∧ ¬ (r + (j : Int) * m) % n = s) → findX m s n M (K + k) r = findX m s n M K (r + (k : Int) * m) := by
  induction k with
  | zero => intro K _; simp
  | succ k ih =>
    intro K h
    have e : K + (k + 1) = (K + 1) + k := by omega
    obtain ⟨h1, h2⟩ := h k (by omega)
    rw [e, ih (K + 1) (fun j hj => h j (by omega)), findX_no h1 h2]
    congr 1
    rw [Int.natCast_add, Int.add_mul]; omega
theorem steps_le {m M r : Int} (hm : 1 ≤ m) (h0 : 0 ≤ r) (hM : M ≤ 1000) (k : Nat) (h : ∀ j : Nat, j < k → r + (j : Int) * m < M) : k ≤ 1000 := by
  rcases Nat.eq_zero_or_pos k with hk | hk
  · omega
  · have := h (k - 1) (by omega)
    have := Int.mul_le_mul_of_nonneg_left hm (Int.natCast_nonneg (k - 1)); omega
theorem met_all {r m s n M : Int} {ys : List Int} (hm : 1 ≤ m) (h0 : 0 ≤ r) (h1 : r < m) (hM : lcmI m n = M) (hl : M ≤ 1000) (hy : NumAll r m 0 M ys) (hn : ∀ y ∈ ys, ¬ y % n = s) : metB m s n r = false := by
  obtain ⟨k, rfl, hk, hj⟩ := hy
  simp only [numK0 h0 h1] at hk hj
  have hk2 := steps_le hm h0 hl k hj
  have e := findX_steps (m := m) (s := s) (n := n) (M := M) (r := r) k (1001 - k) (fun j hjk => ⟨hj j hjk, fun he => hn (numK r m 0 j) (by simp [seqTo]; exact ⟨j, hjk, rfl⟩) (by rw [numK0 h0 h1]; exact he)⟩)
  rw [show 1001 - k + k = 1001 by omega, findX_end _ hk] at e
  exact met_none (k := 1001) (X := r) (M := M) (by unfold metO; rw [hM]) e
theorem met_part {r m s n M x : Int} {ys p : List Int} (hm : 1 ≤ m) (h0 : 0 ≤ r) (h1 : r < m) (hM : lcmI m n = M) (hl : M ≤ 1000) (hy : NumPart r m 0 M ys) (hp : ys = p ++ [x]) (hx : x % n = s) (hn : ∀ y ∈ p, ¬ y % n = s) : metB m s n r = true ∧ metX m s n r = x := by
  obtain ⟨k, rfl, hj⟩ := hy
  rw [seqTo_succ] at hp
  obtain ⟨rfl, h2⟩ := List.append_inj' hp rfl
  obtain rfl : numK r m 0 k = x := by simpa using h2
  simp only [numK0 h0 h1] at hj hx ⊢
  have hk2 := steps_le hm h0 hl (k + 1) hj
  have e := findX_steps (m := m) (s := s) (n := n) (M := M) (r := r) k (1001 - k) (fun j hjk => ⟨hj j (by omega), fun he => hn (numK r m 0 j) (by simp [seqTo]; exact ⟨j, hjk, rfl⟩) (by rw [numK0 h0 h1]; exact he)⟩)
  rw [show 1001 - k + k = 1001 by omega, findX_yes (by omega) (hj k (by omega)) hx] at e
  have e2 : metO m s n r = some (r + (k : Int) * m) := by unfold metO; rw [hM]; exact e
  simp [metB, metX, e2, hM, hl]
end Go.Proofs.Ytgdpebnnmklbjaa
