/- Chapter 7, the model: TileFind, TileCount. -/
import Derived.Test.YtiplnfggiffngaaTl
namespace Go.Proofs.Ytiplnfggiffngaa
open Go.RowKit
def fndQ (n : Int) (z : List Int) : Bool := tilB n z && !(allS n.toNat z).isEmpty
def fndL (n : Int) (z : List Int) : List Int := bif fndQ n z then (allS n.toNat z)[0]?.getD [] else []
def cntR (n : Int) (z : List Int) : Int := selI (tilB n z) ((allS n.toNat z).length : Int)
theorem allS_length (N : Nat) (a : List Int) : (allS N a).length = (allT N a).length := srtLL_length _ _
theorem find_head {w : World} {base : Nat} {v : Value} {hs : List Value} {zss Z : List (List Int)} (hO : OwnV w base 23 v hs) (hH : Heads base w hs zss) (hz : zss = Z) (hp : 0 < Z.length) :
    ∃ g cv, v = .slice (some ⟨g, 0, none⟩) hs.length cv ∧ ∃ L, hs.length = L ∧ 0 < L ∧ ∃ hv, w.cell? ⟨g, 0, none⟩ = some hv ∧ OwnI w base 3 hv (Z[0]?.getD []) := by
  subst hz
  have hl := hH.1
  rcases hO.cases with ⟨_, h0⟩ | ⟨g, cv, rfl, _⟩
  · rw [h0] at hl; simp at hl; omega
  · exact ⟨g, cv, rfl, hs.length, rfl, by omega, _, hO.cell rfl 0 (by omega), hH.2 0 hp⟩
set_option maxRecDepth 20000 in
set_option maxHeartbeats 2000000 in
theorem c_specTileCount (n : Int) (s : Option Addr) (l cap : Nat) (z : List Int) (hl : l ≤ 1048576) (w : World) (hz : Ints w s l z) : Calls Try.prog 13 #[.int .i64 n, .slice s l cap] w fun e w' => e = .returned (.tuple #[.int .i64 (cntR n z), .bool (tilB n z)]) ∧ Below w.heap.size w w' := by
  have hca := c_specTileIn n s l cap z hl w hz
  cases h : tilB n z
  · have e1 : cntR n z = 0 := by simp [cntR, h, selI]
    rw [e1]
    rw [h] at hca
    clear h e1
    go_enter Try.func13, Try.ntmps13
    go_wp2_with (first | (go_at_call 22; refine hca.mono ?_; rintro e w2 ⟨rfl, hB⟩) | fail)
    go_ret2
    exact ⟨rfl, hB⟩
  · have e1 : cntR n z = ((allS n.toNat z).length : Int) := by simp [cntR, h, selI]
    rw [e1]
    rw [h] at hca
    have hT := tilB_t.1 h
    obtain ⟨n1, n2, _, _⟩ := tsizes hT hz.len
    obtain ⟨N, rfl⟩ : ∃ N : Nat, n = (N : Int) := ⟨n.toNat, by omega⟩
    rw [Int.toNat_natCast]
    have hcm := fun (w2 : World) (hB : Below w.heap.size w w2) => c_l7AllT N s l cap z hT w2 (hz.keep hB)
    have HLen := Lib.hid (allS_length N z)
    have HSl : Hid ((srtLL (allT N z) (allT N z).length) = allS N z) := Lib.hid rfl
    clear h e1 hT
    go_enter Try.func13, Try.ntmps13
    go_wp2_with (first | (go_at_call 22; refine hca.mono ?_; rintro e w2 ⟨rfl, hB⟩) | (go_at_call 23; refine (hcm w2 hB).mono ?_; rintro e w3 ⟨v, hs, rfl, hO, hH, hB3⟩; obtain ⟨sv, cv, rfl⟩ := row_slice hO) | fail)
    have hhl : hs.length = (allS N z).length := by rw [← HSl.out]; exact hH.1
    go_ret2
    exact ⟨by rw [← hhl]; rfl, bt2 hB hB3⟩
set_option maxRecDepth 20000 in
set_option maxHeartbeats 2000000 in
theorem c_specTileFind (n : Int) (s : Option Addr) (l cap : Nat) (z : List Int) (hl : l ≤ 1048576) (w : World) (hz : Ints w s l z) : Calls Try.prog 8 #[.int .i64 n, .slice s l cap] w (RetLB w (fndL n z) (fndQ n z)) := by
  have hca := c_specTileIn n s l cap z hl w hz
  cases h : tilB n z
  · have e2 : fndQ n z = false := by simp [fndQ, h]
    have e1 : fndL n z = [] := by simp [fndL, e2]
    rw [e1, e2]
    rw [h] at hca
    clear h e1 e2
    go_enter Try.func8, Try.ntmps8
    go_wp2_with (first | (go_at_call 22; refine hca.mono ?_; rintro e w2 ⟨rfl, hB⟩) | fail)
    have hO1 : OwnI (w2.alloc (.cells #[] 3)) w2.heap.size 3 (.slice (some ⟨w2.heap.size, 0, none⟩) 0 0) [] := World.ownsRow_lit w2 #[] 0 (Nat.le_refl _) (by unfold maxLen; omega) rfl
    go_ret2
    exact ⟨_, rfl, hO1.low hB.size, ba hB _⟩
  · rw [h] at hca
    have hT := tilB_t.1 h
    obtain ⟨n1, n2, _, _⟩ := tsizes hT hz.len
    obtain ⟨N, rfl⟩ : ∃ N : Nat, n = (N : Int) := ⟨n.toNat, by omega⟩
    have HQ := Lib.hid (show fndQ N z = !(allS N z).isEmpty by unfold fndQ; rw [h, Int.toNat_natCast]; rfl)
    have HL := Lib.hid (show fndL N z = bif fndQ N z then (allS N z)[0]?.getD [] else [] by unfold fndL; rw [Int.toNat_natCast])
    have hcm := fun (w2 : World) (hB : Below w.heap.size w w2) => c_l7AllT N s l cap z hT w2 (hz.keep hB)
    have HLen := Lib.hid (allS_length N z)
    have HSl : Hid ((srtLL (allT N z) (allT N z).length) = allS N z) := Lib.hid rfl
    clear h hT
    by_cases h0 : (allS N z).length = 0
    · have e0 := List.eq_nil_of_length_eq_zero h0
      have e2 : fndQ N z = false := by rw [HQ.out, e0]; rfl
      have e1 : fndL N z = [] := by rw [HL.out, e2]; rfl
      rw [e1, e2]
      clear e1 e2
      go_enter Try.func8, Try.ntmps8
      go_wp2_with (first | (go_at_call 22; refine hca.mono ?_; rintro e w2 ⟨rfl, hB⟩) | (go_at_call 23; refine (hcm w2 hB).mono ?_; rintro e w3 ⟨v, hs, rfl, hO, hH, hB3⟩; obtain ⟨sv, cv, rfl⟩ := row_slice hO; have hhl : hs.length = 0 := (by rw [← h0, ← HSl.out]; exact hH.1)) | fail)
      have hO1 : OwnI (w3.alloc (.cells #[] 3)) w3.heap.size 3 (.slice (some ⟨w3.heap.size, 0, none⟩) 0 0) [] := World.ownsRow_lit w3 #[] 0 (Nat.le_refl _) (by unfold maxLen; omega) rfl
      go_ret2
      exact ⟨_, rfl, hO1.low (bt2 hB hB3).size, ba (bt2 hB hB3) _⟩
    · have e2 : fndQ N z = true := by
        rw [HQ.out]
        cases hc : allS N z with
        | nil => rw [hc] at h0; exact absurd rfl h0
        | cons _ _ => rfl
      have e1 : fndL N z = (allS N z)[0]?.getD [] := by rw [HL.out, e2]; rfl
      rw [e1, e2]
      have hpos : 0 < (allS N z).length := by omega
      have HP := Lib.hid hpos
      clear e1 e2 h0 hpos
      go_enter Try.func8, Try.ntmps8
      go_wp2_with (first | (go_at_call 22; refine hca.mono ?_; rintro e w2 ⟨rfl, hB⟩) | (go_at_call 23; refine (hcm w2 hB).mono ?_; rintro e w3 ⟨v, hs, rfl, hO, hH, hB3⟩; obtain ⟨g, cv, rfl, L, hhl, hL0, hv, hcell, hO0⟩ := find_head hO hH HSl.out HP.out; have hLz : ((L : Int) == 0) = false := beq_eq_false_iff_ne.2 (by omega)) | fail)
      go_ret2
      exact ⟨_, rfl, hO0.low hB.size, bt2 hB hB3⟩
end Go.Proofs.Ytiplnfggiffngaa
