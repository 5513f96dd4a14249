/- Chapter 7 in plain: what is found for a tile, for the moved one, for the scaled one. -/
import Derived.Test.YtiplnfggiffngaaMathTk
import Derived.Test.YtiplnfggiffngaaMathTh
import Derived.Test.YtiplnfggiffngaaTm
namespace Go.Proofs.Ytiplnfggiffngaa
theorem til_nat {n : Int} {a : List Int} (h : Til n a) : ∃ N : Nat, n = (N : Int) := Int.eq_ofNat_of_zero_le (by have := h.1; omega)
theorem fndQ_ex {N : Nat} {a : List Int} (hT : Til (N : Int) a) : fndQ N a = true ↔ ∃ C, C ∈ allS N a := by
  unfold fndQ
  rw [tilB_t.2 hT, Int.toNat_natCast, Bool.true_and]
  cases h : allS N a with
  | nil => simp
  | cons x t => simp only [List.isEmpty_cons, Bool.not_false, true_iff]; exact ⟨x, by simp⟩
/-- what is found tiles, and has the place 0 first -/
theorem fnd_facts {n : Int} {a : List Int} (h : fndQ n a = true) : tboB n a (fndL n a) = true ∧ gZ (fndL n a) 0 = 0 ∧ 0 < (fndL n a).length ∧ 0 < cntR n a ∧ tilB n a = true := by
  have ht : tilB n a = true := by simp only [fndQ, Bool.and_eq_true] at h; exact h.1
  have hT := tilB_t.1 ht
  obtain ⟨N, rfl⟩ := til_nat hT
  have hq := (fndQ_ex hT).1 h
  obtain ⟨C, hC⟩ := hq
  have hp : 0 < (allS N a).length := List.length_pos_of_mem hC
  have hL : fndL N a = (allS N a)[0] := by
    unfold fndL
    rw [h, cond_true, Int.toNat_natCast]
    simp [hp]
  have hm : fndL N a ∈ allS N a := by rw [hL]; exact List.getElem_mem hp
  obtain ⟨h1, h2⟩ := (allS_mem hT _).1 hm
  have hF := (tboB_til h1).2.1
  have hl : 0 < (fndL (N : Int) a).length := List.length_pos_of_mem h2
  refine ⟨h1, ?_, hl, ?_, ht⟩
  · obtain ⟨j, hj, e⟩ := List.mem_iff_getElem.1 h2
    have h0 := hF.2.2.2.2 _ (gZ_mem (fndL N a) 0 hl)
    rcases Nat.eq_zero_or_pos j with hz | hz
    · subst hz
      rw [gZ_get _ 0 hl, e]
    · have := asc_lt hF.2.2.2.1 hz hj
      rw [gZ_get _ j hj, e] at this
      omega
  · unfold cntR
    rw [ht, Int.toNat_natCast]
    show 0 < ((allS N a).length : Int)
    omega
theorem fndQ_cnt {n : Int} {a : List Int} (h : tilB n a = true) : fndQ n a = decide (0 < cntR n a) := by
  have hT := tilB_t.1 h
  unfold fndQ cntR
  rw [h]
  show (true && !(allS n.toNat a).isEmpty) = decide ((0 : Int) < ((allS n.toNat a).length : Int))
  cases allS n.toNat a with
  | nil => simp
  | cons x t => simp
/-- a moved tile has as many -/
theorem allS_mov {N : Nat} {a : List Int} (hT : Til (N : Int) a) (t : Int) : allS N (tmvR N a t) = allS N a := by
  have hM := tmvR_til hT t
  refine ltL_ext (allS_sorted hM) (allS_sorted hT) fun C => ?_
  rw [allS_mem hM, allS_mem hT]
  constructor
  · rintro ⟨h1, h2⟩
    have := tbo_mov h1 (0 - t)
    rw [tmv_back hT] at this
    exact ⟨this, h2⟩
  · rintro ⟨h1, h2⟩
    exact ⟨tbo_mov h1 t, h2⟩
theorem cnt_mov {n : Int} {a : List Int} (h : tilB n a = true) (t : Int) : cntR n (tmvR n a t) = cntR n a := by
  have hT := tilB_t.1 h
  obtain ⟨N, rfl⟩ := til_nat hT
  unfold cntR
  rw [h, tilB_t.2 (tmvR_til hT t), Int.toNat_natCast, allS_mov hT]
/-- a scaled tile tiles as well -/
theorem fnd_scl {n : Int} {a : List Int} {k : Int} (hk : tscB n a k = true) (hc : Nat.Coprime k.toNat a.length) (h : fndQ n a = true) : fndQ n (tscR n a k) = true := by
  have hT := tilB_t.1 (fnd_facts h).2.2.2.2
  obtain ⟨N, rfl⟩ := til_nat hT
  obtain ⟨C, hC⟩ := (fndQ_ex hT).1 h
  obtain ⟨h1, h2⟩ := (allS_mem hT C).1 hC
  have h3 := (tbo_scl h1 hk hc).1
  have hS := (tboB_til h3).1
  exact (fndQ_ex hS).2 ⟨C, (allS_mem hS C).2 ⟨h3, h2⟩⟩
theorem tsc_len {n : Int} {a : List Int} {k : Int} (hk : tscB n a k = true) : (tscR n a k).length = a.length := by
  have h1 := hk
  simp only [tscB, Bool.and_eq_true, decide_eq_true_eq] at h1
  have hT := tilB_t.1 h1.1
  have hR : tscR n a k = plc n (tscL n a k) := by simp [tscR, hk]
  have hp : (plc n (tscL n a k)).Perm (tscL n a k) := by rw [← plc_srt hT.1 (tscL_bd a k hT.1) h1.2.2]; exact srtI_perm _
  rw [hR, hp.length_eq]
  simp [tscL]
end Go.Proofs.Ytiplnfggiffngaa
