/- Chapter 7 in plain: a tile scaled without a common divisor tiles with the same second tile. -/
import Derived.Test.YtiplnfggiffngaaMathTj
import Derived.Test.YtiplnfggiffngaaMathTe
import Derived.Test.YtiplnfggiffngaaMathTg
namespace Go.Proofs.Ytiplnfggiffngaa
/-- how many of b stand at y on the circle -/
def gB (n : Int) (b : List Int) (y : Int) : Int := (b.countP fun z => decide (z % n = y % n) : Nat)
theorem gB_per (n : Nat) (b : List Int) (y : Int) : gB n b (y + n) = gB n b y := by
  unfold gB
  rw [Int.add_emod_right]
theorem mod_turn (n a y x : Int) : (a + y) % n = x % n ↔ y % n = (x + -a) % n := by
  rw [Int.emod_eq_emod_iff_emod_sub_eq_zero, Int.emod_eq_emod_iff_emod_sub_eq_zero, show a + y - x = y - (x + -a) by omega]
theorem shS_tsu (n : Int) (b : List Int) (x : Int) : ∀ a : List Int, shS (a.map fun u => -u) (gB n b) x = (((tsuL n a b).countP fun z => decide (z = x % n) : Nat) : Int)
  | [] => rfl
  | u :: t => by
    have e : tsuL n (u :: t) b = (b.map fun y => (u + y) % n) ++ tsuL n t b := by simp [tsuL]
    rw [e, List.countP_append, List.countP_map]
    simp only [List.map_cons, shS]
    rw [shS_tsu n b x t, Int.natCast_add]
    congr 1
    unfold gB
    congr 1
    refine List.countP_congr fun y _ => ?_
    simp only [Function.comp, decide_eq_true_eq]
    exact (mod_turn n u y x).symm
theorem one_of {l : List Int} (hd : l.Nodup) {x : Int} (hx : x ∈ l) : l.countP (fun z => decide (z = x)) = 1 := by
  have h1 : l.count x = 1 := by
    have q1 := List.nodup_iff_count.1 hd x
    have q2 := List.count_pos_iff.2 hx
    omega
  rw [← h1, List.count]
  exact List.countP_congr fun y _ => by simp
theorem tbo_scl {n : Int} {a b : List Int} {k : Int} (h : tboB n a b = true) (hk : tscB n a k = true) (hc : Nat.Coprime k.toNat a.length) :
    tboB n (tscR n a k) b = true ∧ (tscR n a k).length = a.length := by
  obtain ⟨hTa, hTb, hnd, hl⟩ := tboB_til h
  have hk1 : 1 ≤ k ∧ decide (tscL n a k).Nodup = true := by
    simp only [tscB, Bool.and_eq_true] at hk
    refine ⟨?_, hk.2.2⟩
    have := hk.2.1
    simp [l6B] at this
    exact this.1
  have hkd : (tscL n a k).Nodup := of_decide_eq_true hk1.2
  have hR : tscR n a k = plc n (tscL n a k) := by simp [tscR, hk]
  have hp : (plc n (tscL n a k)).Perm (tscL n a k) := by rw [← plc_srt hTa.1 (tscL_bd a k hTa.1) hkd]; exact srtI_perm _
  have hlen : (tscR n a k).length = a.length := by rw [hR, hp.length_eq]; simp [tscL]
  obtain ⟨N, rfl⟩ := Int.eq_ofNat_of_zero_le (show 0 ≤ n by have := hTa.1; omega)
  have hN : 0 < N := by have := hTa.1; omega
  have hT : Til (N : Int) (tscR N a k) := by
    rw [hR]
    refine plc_til hTa.1 hTa.2.1 (tscL_bd a k hTa.1) ?_
    unfold tscL
    intro e
    exact hTa.2.2.1 (List.map_eq_nil_iff.1 e)
  refine ⟨?_, hlen⟩
  simp only [tboB, tilB_t.2 hT, tilB_t.2 hTb, Bool.true_and, Bool.and_eq_true, decide_eq_true_eq]
  refine ⟨?_, by rw [hlen]; exact hl⟩
  have hall : ∀ x, shS (a.map fun u => -u) (gB N b) x = 1 := by
    intro x
    rw [shS_tsu, one_of hnd]
    · rfl
    · refine nodup_all (N := N) (tsuL_bd a b hTa.1) hnd ?_ _ (Int.emod_nonneg _ (by omega)) (Int.emod_lt_of_pos _ (by omega))
      rw [tsuL_length]
      exact Int.natCast_inj.1 (by rw [Int.natCast_mul]; exact hl)
  have hs := tij hN (gB_per N b) (fun x => Int.natCast_nonneg _) hall k.toNat (by omega) (by rw [List.length_map]; exact hc)
  rw [show ((k.toNat : Nat) : Int) = k by omega, List.map_map] at hs
  have e1 : (a.map ((fun u => k * u) ∘ fun u => -u)) = (a.map fun u => u * k).map fun u => -u := by
    rw [List.map_map]
    refine List.map_congr_left fun u _ => ?_
    simp only [Function.comp]
    rw [Int.mul_neg, Int.mul_comm]
  rw [e1] at hs
  have e2 : tsuL N (a.map fun u => u * k) b = tsuL N (tscL N a k) b := by
    unfold tsuL tscL
    rw [List.flatMap_map, List.flatMap_map]
    congr 1
    funext u
    refine List.map_congr_left fun y _ => ?_
    rw [Int.emod_add_emod]
  rw [hR, (tsu_perm hp).nodup_iff, ← e2, List.nodup_iff_count]
  intro x
  rcases Classical.em (x ∈ tsuL N (a.map fun u => u * k) b) with hx | hx
  · have hb := tsuL_bd _ _ hTa.1 x hx
    have := hs x
    rw [shS_tsu, Int.emod_eq_of_lt hb.1 hb.2] at this
    have h2 : (tsuL N (a.map fun u => u * k) b).count x = (tsuL N (a.map fun u => u * k) b).countP fun z => decide (z = x) := by
      rw [List.count]
      exact List.countP_congr fun y _ => by simp
    rw [h2]
    omega
  · rw [List.count_eq_zero.2 hx]
    omega
end Go.Proofs.Ytiplnfggiffngaa
