/- Chapter 7, the program: what each place and those behind it reach. -/
import Derived.Test.YtiplnfggiffngaaTn
import Derived.Test.YtiplnfggiffngaaMathTi
import Derived.Test.YtiplnfggiffngaaShelf
import Derived.Shelf.SlicesE.Clone
import Derived.Shelf.Small.Bits
namespace Go.Proofs.Ytiplnfggiffngaa
open Go.RowKit
open Go.Shelf
theorem frm_zero (N : Nat) (a : List Int) : frmM N a 0 = 0 := rfl
theorem frm_succ (N : Nat) (a : List Int) (k : Nat) : frmM N a (k + 1) = frmM N a k ||| setM N a ((N : Int) - (k + 1 : Nat)) := by
  unfold frmM setM
  have e : ((List.range (k + 1)).map fun j : Nat => ((N : Int) - (k + 1 : Nat) + j)) = ((N : Int) - (k + 1 : Nat)) :: (List.range k).map fun j : Nat => ((N : Int) - k + j) := by
    rw [List.range_succ_eq_map, List.map_cons, List.map_map]
    congr 1
    · simp
    · refine List.map_congr_left fun j _ => ?_
      simp only [Function.comp]
      omega
  rw [e]
  unfold sms
  rw [List.flatMap_cons, mskL_append, Nat.or_comm]
theorem frm_lt {N : Nat} {a : List Int} (hT : Til (N : Int) a) (hN : N ≤ 24) (k : Nat) : frmM N a k < 16777216 :=
  mskL_lt24 _ hN (sms_bd a _ hT.1)
/-- the row after k places, from the end on -/
def rowF (N : Nat) (a : List Int) (k : Nat) : List Value := (List.range (N + 1)).map fun j => .int .u32 (((if N - k ≤ j then frmM N a (N - j) else 0) : Nat) : Int)
theorem rowF_length (N : Nat) (a : List Int) (k : Nat) : (rowF N a k).length = N + 1 := by simp [rowF]
theorem rowF_get (N : Nat) (a : List Int) (k j : Nat) (h : j ≤ N) : (rowF N a k)[j]?.getD (.bool false) = .int .u32 (((if N - k ≤ j then frmM N a (N - j) else 0) : Nat) : Int) := by
  simp [rowF, show j < N + 1 by omega]
theorem rowF_zero (N : Nat) (a : List Int) : rowF N a 0 = List.replicate (N + 1) (.int .u32 0) := by
  apply List.ext_getElem?
  intro j
  by_cases hj : j < N + 1
  · rw [rowF, List.getElem?_map, List.getElem?_range hj, List.getElem?_replicate, if_pos hj]
    by_cases h0 : N - 0 ≤ j
    · rw [Option.map_some, if_pos h0, show N - j = 0 by omega, frm_zero]
      rfl
    · rw [Option.map_some, if_neg h0]
      rfl
  · simp [rowF, hj]
theorem rowF_set (N : Nat) (a : List Int) (k T : Nat) (hT : T + k + 1 = N) : (rowF N a k).set T (.int .u32 ((frmM N a (k + 1) : Nat) : Int)) = rowF N a (k + 1) := by
  apply List.ext_getElem?
  intro j
  rw [List.getElem?_set]
  by_cases hj : T = j
  · subst hj
    rw [if_pos rfl, if_pos (by rw [rowF_length]; omega), rowF, List.getElem?_map, List.getElem?_range (by omega), Option.map_some, if_pos (by omega), show N - T = k + 1 by omega]
  · rw [if_neg hj]
    by_cases hjn : j < N + 1
    · rw [rowF, rowF, List.getElem?_map, List.getElem?_map, List.getElem?_range hjn, Option.map_some, Option.map_some]
      by_cases h1 : N - k ≤ j
      · rw [if_pos h1, if_pos (by omega)]
      · rw [if_neg h1, if_neg (by omega)]
    · simp [rowF, hjn]
def FromPost (w : World) (N : Nat) (a : List Int) (e : Ending) (w' : World) : Prop := ∃ g, w.heap.size ≤ g ∧ e = .returned (.slice (some ⟨g, 0, none⟩) (N + 1) (N + 1)) ∧ OwnV w' w.heap.size 62 (.slice (some ⟨g, 0, none⟩) (N + 1) (N + 1)) (rowF N a N) ∧ Below w.heap.size w w'
set_option maxRecDepth 20000 in
set_option maxHeartbeats 2000000 in
theorem c_reachedFrom (N : Nat) (a : List Int) (hT : Til (N : Int) a) (gb base : Nat) (w : World) (hb : OwnV w base 62 (.slice (some ⟨gb, 0, none⟩) N N) (rowU N a N 0)) : Calls Try.prog 38 #[.slice (some ⟨gb, 0, none⟩) N N] w (FromPost w N a) := by
  have hN1 := hT.1
  have hN24 : N ≤ 24 := by have := hT.2.1; omega
  have HF := Lib.hid (fun k => frm_lt hT hN24 k)
  have HSm := Lib.hid (fun t => show setM N a t < 16777216 from mskL_lt24 _ hN24 (tmvL_bd a t hT.1))
  clear hT
  obtain ⟨i0, hi, hz0, hz1, hz2⟩ := info_parts infoU
  go_enter Try.func38, Try.ntmps38
  go_wp2_with (first | (at_make; refine wpList_make_full _ rfl _ _ 59 rfl w.heap.size 62 i0 (.int .u32 0) 1 Try.underlying59 hi hz0 hz1 .i64 .i64 _ _ (N + 1) rfl rfl (by simp) (by simp) (by rw [hz2]; omega) (by unfold maxLen; omega) (Nat.le_refl _) ?_; intro w1 hown hgrow) | fail)
  have h0 : OwnV w1 w.heap.size 62 (.slice (some ⟨w.heap.size, 0, none⟩) (N + 1) (N + 1)) (rowF N a 0) := by
    show w1.ownsRow _ _ _ _ _ _
    rw [rowF_zero, List.length_replicate, ← madeV]
    exact hown
  have hb0 : Below w.heap.size w w1 := (Below.refl _ _).grown hgrow (Nat.le_refl _) (fun k h => by cases h)
  clear hown hgrow
  go_loopw [4] (fun tt wr => ∃ k : Nat, tt = .int .i64 ((N : Int) - 1 - k) ∧ k ≤ N ∧ OwnV wr w.heap.size 62 (.slice (some ⟨w.heap.size, 0, none⟩) (N + 1) (N + 1)) (rowF N a k) ∧ Below w.heap.size w wr) (fun tt _ => (intOf tt + 1).toNat)
  case atStart => exact ⟨0, by simp, by omega, h0, hb0⟩
  case round =>
    clear h0 hb0
    obtain ⟨k, rfl, hk, hO, hB⟩ := hrel
    by_cases hlt : k < N
    · obtain ⟨T, hTk⟩ : ∃ T, T + k + 1 = N := ⟨N - 1 - k, by omega⟩
      have hTi : (N : Int) - 1 - k = (T : Int) := by omega
      rw [hTi]
      have hTz0 : (0 : Int) ≤ (T : Int) := by omega
      have hTz1 : (T : Int) < (N : Int) := by omega
      have hTN : T < N := by omega
      have hml := rowF_length N a k
      have x1 := hO.cell hml (T + 1) (by omega)
      rw [rowF_get N a k (T + 1) (by omega), if_pos (by omega), show N - (T + 1) = k by omega] at x1
      have x0 := hO.cell hml T (by omega)
      have f0 := hO.free hml T
      have y0 := (hb.keep hB).cell (rowU_length N a N 0) T hTN
      rw [rowU_get N a N 0 T hTN, show rowM N a N 0 T = setM N a (T : Int) by simp [rowM, hTN]] at y0
      have HP : Hid (∀ n, OwnV ((wr.setCell ⟨w.heap.size, T, none⟩ (.int .u32 ((frmM N a (k + 1) : Nat) : Int))).drewN n) w.heap.size 62 (.slice (some ⟨w.heap.size, 0, none⟩) (N + 1) (N + 1)) (rowF N a (k + 1))) := Lib.hid (fun n => by
        rw [← rowF_set N a k T hTk]
        exact ownV_drew (hO.store hml T _) n)
      have hfs := frm_succ N a k
      rw [show (N : Int) - (k + 1 : Nat) = (T : Int) by omega] at hfs
      rw [hfs] at HP
      have h1 := HF.out k
      have h2 := HSm.out (T : Int)
      have hor := or_u32 (frmM N a k) (setM N a (T : Int)) (by omega) (by omega)
      have hkn : (N : Int) - 1 - ((k + 1 : Nat) : Int) = (T : Int) - 1 := by omega
      have HKN := Lib.hid hkn
      clear hml hfs hO hTi hkn
      generalize frmM N a k = F at *
      generalize setM N a (T : Int) = M at *
      go_wp2_with fail
      go_region
      all_goals
        go_wp2_with fail
        go_roundw
        case rel => exact ⟨k + 1, by rw [HKN.out], by omega, HP.out 0, (hB.setCell (Nat.le_refl _) _).drew⟩
        case measure => simp [intOf]
    · have hk' : k = N := by omega
      subst hk'
      have hd : decide ((0 : Int) ≤ (k : Int) - 1 - k) = false := decide_eq_false (by omega)
      have hd2 : ¬ (0 : Int) ≤ (k : Int) - 1 - k := by omega
      go_wp2_with fail
      go_ret
      exact ⟨w.heap.size, Nat.le_refl _, rfl, hO, hB⟩
theorem infoSo : (Try.prog.info? 3).map (fun i => (i.zero, i.size, i.bytes)) = some (some (.int .i64 0), 1, 8) := by kernel_rfl
theorem c_cloneS (g n cap base : Nat) (zs : List Int) (hl : zs.length = n) (h0 : 0 < n) (hn : n ≤ 1000) (w : World) (hO : OwnI w base 3 (.slice (some ⟨g, 0, none⟩) n cap) zs) : Calls Try.prog 21 #[.slice (some ⟨g, 0, none⟩) n cap] w (RetL w zs) := by
  obtain ⟨j0, hj, hj0, hj1, hj2⟩ := info_parts infoSo
  have hcl : ∀ (j : Nat) (u : Value), (zs.map (Value.int .i64))[j]? = some u → w.cell? ⟨g, 0 + j, none⟩ = some u := by
    intro j u hju
    have := own_news hO hl j u hju
    have e : ((⟨g, 0, none⟩ : Addr).add j) = ⟨g, 0 + j, none⟩ := by unfold Addr.add; split <;> simp_all
    rw [← e]
    exact this
  have h := AnyE.slices_Clone Try.cloneI j0 _ 1 8 hj hj0 hj1 hj2 rfl (by decide) Try.sizeOf3 g 0 n cap (zs.map (Value.int .i64)) w (by rw [List.length_map, hl, Nat.mul_one]) (by unfold maxLen; omega) (by omega) hcl (ints_one zs)
  refine Calls.mono (f := 21) h ?_
  rintro e w' ⟨v, rfl, hO', _, hB⟩
  exact ⟨v, rfl, by unfold OwnI; rw [hl]; exact hO', hB⟩
end Go.Proofs.Ytiplnfggiffngaa
