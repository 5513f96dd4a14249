/- What the program's covers answers. -/
import Derived.Test.YtgdpebnnmklbjaaS9
namespace Go.Proofs.Ytgdpebnnmklbjaa
open Go.RowKit
/-- one of the first k classes has x -/
def covK (zs : List Cl) (x : Int) : Nat → Bool
  | 0 => false
  | k + 1 => covK zs x k || (x % mAt zs k == rAt zs k)
def covB (zs : List Cl) (x : Int) : Bool := covK zs x zs.length
theorem covK_cnt (zs : List Cl) (x : Int) (k : Nat) : covK zs x k = !(cntK zs x k == 0) := by
  induction k with
  | zero => rfl
  | succ k ih =>
    have := cntK_bd zs x k
    simp only [covK, cntK, ih]
    by_cases h2 : x % mAt zs k = rAt zs k
    · have h3 : ¬ cntK zs x k + 1 = 0 := by omega
      simp [h2, h3]
    · simp [h2]
theorem covB_cnt (zs : List Cl) (x : Int) : covB zs x = !(cntN zs x == 0) := covK_cnt zs x _
theorem covK_mono (zs : List Cl) (x : Int) {k n : Nat} (h : k ≤ n) (hk : covK zs x k = true) : covK zs x n = true := by
  induction n with
  | zero =>
    obtain rfl : k = 0 := by omega
    exact hk
  | succ n ih =>
    by_cases he : k = n + 1
    · exact he ▸ hk
    · simp only [covK, ih (by omega), Bool.true_or]
set_option maxHeartbeats 400000 in
theorem c_covers (s : Option Addr) (n cap : Nat) (zs : List Cl) (x : Int) (hn : n ≤ 1048576) (ha : allB zs = true) (w : World) (hc : Cls w s n zs) : Calls Try.prog 75 #[.slice s n cap, .int .i64 x] w fun e w' => e = .returned (.bool (covB zs x)) ∧ Below w.heap.size w w' := by
  have hlen := hc.len
  have HL := Lib.hid hlen
  have HR := Lib.hid (show covB zs x = covK zs x n by rw [← hlen]; rfl)
  clear hlen
  go_enter Try.func75, Try.ntmps75
  go_wp2_with fail
  go_loopw [9] (fun i wr => ∃ (k : Nat), k ≤ n ∧ i = .int .i64 k ∧ covK zs x k = false ∧ Below w.heap.size w wr) (fun i _ => n - (intOf i).toNat)
  case atStart => exact ⟨0, Nat.zero_le _, rfl, rfl, Below.refl _ _⟩
  case round =>
    obtain ⟨k, hk, rfl, hq, hB⟩ := hrel
    have HQ := Lib.hid hq
    clear hq
    by_cases hlt : k < n
    · obtain ⟨m1, m2, _, _⟩ := inB_iff.1 (allB_at ha k (by rw [HL.out]; exact hlt))
      rcases (hc.keep hB).lies with h0 | ⟨b, off, rfl, hb', hcells⟩
      · omega
      obtain ⟨hx, hy⟩ := hcells k hlt
      clear hcells
      cases he : (x % mAt zs k == rAt zs k)
      · have HE := Lib.hid (show covK zs x (k + 1) = false by simp only [covK, HQ.out, he, Bool.false_or])
        go_wp2_with fail
        refine (c_has _ _ _ m1 m2 _).mono ?_
        rintro e w5 ⟨rfl, rfl⟩
        rw [he]
        go_wp2_with fail
        go_roundw
        case rel => exact ⟨k + 1, by omega, by go_num, HE.out, (ba (ba (ba hB _) _) _).drew⟩
        case measure => simp [intOf]; omega
      · have HE := Lib.hid (show covB zs x = true by rw [HR.out]; exact covK_mono zs x (show k + 1 ≤ n by omega) (by simp only [covK, he, Bool.or_true]))
        go_wp2_with fail
        refine (c_has _ _ _ m1 m2 _).mono ?_
        rintro e w5 ⟨rfl, rfl⟩
        rw [he]
        go_wp2_with fail
        go_ret
        exact ⟨congrArg (fun b => Ending.returned (.bool b)) HE.out.symm, (ba (ba (ba hB _) _) _).drew⟩
    · have hk' : k = n := by omega
      subst hk'
      go_wp2_with fail
      go_ret
      exact ⟨congrArg (fun b => Ending.returned (.bool b)) (HR.out.trans HQ.out).symm, hB⟩
end Go.Proofs.Ytgdpebnnmklbjaa
