/- Chapter 7 in plain: both ways, and moved. -/
import Derived.Test.YtiplnfggiffngaaMathTb
namespace Go.Proofs.Ytiplnfggiffngaa
theorem flat_app {α β : Type} (u : α → β) (G : α → List β) (b : List α) : (b.flatMap fun y => u y :: G y).Perm (b.map u ++ b.flatMap G) := by
  induction b with
  | nil => exact .refl _
  | cons y t ih =>
    simp only [List.flatMap_cons, List.map_cons, List.cons_append]
    refine .cons _ ((List.Perm.append_left _ ih).trans ?_)
    rw [← List.append_assoc, ← List.append_assoc]
    exact List.Perm.append_right _ List.perm_append_comm
/-- sums the other way round -/
theorem tsu_swap (n : Int) (a b : List Int) : (tsuL n b a).Perm (tsuL n a b) := by
  unfold tsuL
  induction a with
  | nil => simp
  | cons x t ih =>
    rw [List.flatMap_cons]
    have e : (b.flatMap fun y => (x :: t).map fun z => (y + z) % n) = b.flatMap fun y => (y + x) % n :: (t.map fun z => (y + z) % n) := rfl
    rw [e]
    refine (flat_app _ _ b).trans ?_
    have e2 : (b.map fun y => (y + x) % n) = b.map fun y => (x + y) % n := List.map_congr_left fun y _ => by rw [Int.add_comm]
    rw [e2]
    exact List.Perm.append_left _ ih
theorem tbo_swap {n : Int} {a b : List Int} (h : tboB n a b = true) : tboB n b a = true := by
  obtain ⟨h1, h2, h3, h4⟩ := tboB_til h
  simp only [tboB, tilB_t.2 h1, tilB_t.2 h2, Bool.true_and, Bool.and_eq_true, decide_eq_true_eq]
  exact ⟨(tsu_swap n a b).nodup_iff.2 h3, by rw [Int.mul_comm]; exact h4⟩
theorem tsu_perm {n : Int} {a a' b : List Int} (h : a.Perm a') : (tsuL n a b).Perm (tsuL n a' b) := h.flatMap_right _
theorem tsu_mov (n : Int) (a b : List Int) (t : Int) : tsuL n (tmvL n a t) b = (tsuL n a b).map fun x => (x + t) % n := by
  unfold tsuL tmvL
  rw [List.flatMap_map, List.map_flatMap]
  congr 1
  funext x
  rw [List.map_map]
  refine List.map_congr_left fun y _ => ?_
  simp only [Function.comp]
  rw [Int.emod_add_emod, Int.emod_add_emod]
  congr 1
  omega
theorem tbo_mov {n : Int} {a b : List Int} (h : tboB n a b = true) (t : Int) : tboB n (tmvR n a t) b = true := by
  obtain ⟨h1, h2, h3, h4⟩ := tboB_til h
  have hm := tmvR_til h1 t
  simp only [tboB, tilB_t.2 hm, tilB_t.2 h2, Bool.true_and, Bool.and_eq_true, decide_eq_true_eq]
  refine ⟨?_, by rw [tmvR_len h1]; exact h4⟩
  have hp : (tmvR n a t).Perm (tmvL n a t) := by rw [← tmvR_srt h1]; exact srtI_perm _
  rw [(tsu_perm hp).nodup_iff, tsu_mov, List.Nodup, List.pairwise_map]
  have hb := tsuL_bd a b h1.1
  refine h3.imp_of_mem ?_
  intro x y hx hy hxy e
  have hx := hb x hx
  have hy := hb y hy
  exact hxy (mod_inj (n := n) (t := t) (by omega) (by omega) e)
end Go.Proofs.Ytiplnfggiffngaa
