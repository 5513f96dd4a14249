/- Chapter 7, the program: the bits that each moved tile reaches. -/
import Derived.Test.YtiplnfggiffngaaTh
import Derived.RegionTactic
import Derived.BigRegion
namespace Go.Proofs.Ytiplnfggiffngaa
open Go.RowKit
theorem infoU : (Try.prog.info? 62).map (fun i => (i.zero, i.size, i.bytes)) = some (some (.int .u32 0), 1, 4) := by kernel_rfl
theorem or_u32 (x y : Nat) (hx : x < 2 ^ 31) (hy : y < 2 ^ 31) : bits .or .u32 (x : Int) (y : Int) = ((x ||| y : Nat) : Int) := by
  have hx' : x % 2 ^ 32 = x := Nat.mod_eq_of_lt (by omega)
  have hy' : y % 2 ^ 32 = y := Nat.mod_eq_of_lt (by omega)
  have hz : x ||| y < 2 ^ 31 := Nat.or_lt_two_pow hx hy
  simp only [bits, BitVec.ofInt_natCast, BitVec.toNat_or, BitVec.toNat_ofNat]
  simp only [IntKind.bits, hx', hy']
  rw [IntKind.wrap_u32]
  omega
/-- the bits after i moved tiles, and k places of the next one -/
def rowM (N : Nat) (a : List Int) (i k t : Nat) : Nat := if t < i then setM N a t else if t = i then mskL ((tmvL N a t).take k) else 0
def rowU (N : Nat) (a : List Int) (i k : Nat) : List Value := (List.range N).map fun t => .int .u32 ((rowM N a i k t : Nat) : Int)
theorem rowU_length (N : Nat) (a : List Int) (i k : Nat) : (rowU N a i k).length = N := by simp [rowU]
theorem rowU_get (N : Nat) (a : List Int) (i k t : Nat) (h : t < N) : (rowU N a i k)[t]?.getD (.bool false) = .int .u32 ((rowM N a i k t : Nat) : Int) := by simp [rowU, h]
theorem rowU_zero (N : Nat) (a : List Int) : rowU N a 0 0 = List.replicate N (.int .u32 0) := by
  apply List.ext_getElem?
  intro j
  by_cases hj : j < N
  · rw [rowU, List.getElem?_map, List.getElem?_range hj, List.getElem?_replicate, if_pos hj]
    by_cases h0 : j = 0
    · subst h0; rfl
    · simp [rowM, h0]
  · simp [rowU, hj]
theorem rowU_row (N : Nat) (a : List Int) (i : Nat) : rowU N a i a.length = rowU N a (i + 1) 0 := by
  unfold rowU
  refine List.map_congr_left fun t _ => ?_
  congr 2
  unfold rowM
  by_cases h : t < i
  · rw [if_pos h, if_pos (by omega)]
  · rw [if_neg h]
    by_cases h2 : t = i
    · rw [if_pos h2, if_pos (by omega), List.take_of_length_le (by simp [tmvL])]
      rfl
    · rw [if_neg h2, if_neg (by omega)]
      by_cases h3 : t = i + 1
      · rw [if_pos h3]; rfl
      · rw [if_neg h3]
theorem rowU_set (N : Nat) (a : List Int) (i k : Nat) (h : i < N) : (rowU N a i k).set i (.int .u32 ((mskL ((tmvL N a i).take (k + 1)) : Nat) : Int)) = rowU N a i (k + 1) := by
  apply List.ext_getElem?
  intro j
  rw [List.getElem?_set]
  by_cases hj : i = j
  · subst hj
    simp [rowU, rowM, h]
  · rw [if_neg hj]
    by_cases hjn : j < N
    · have hne : ¬ j = i := fun e => hj e.symm
      simp [rowU, rowM, hjn, hne]
    · simp [rowU, hjn]
def ReachPost (w : World) (N : Nat) (a : List Int) (e : Ending) (w' : World) : Prop := ∃ g, w.heap.size ≤ g ∧ e = .returned (.slice (some ⟨g, 0, none⟩) N N) ∧ OwnV w' w.heap.size 62 (.slice (some ⟨g, 0, none⟩) N N) (rowU N a N 0) ∧ Below w.heap.size w w'
set_option maxRecDepth 20000 in
set_option maxHeartbeats 2000000 in
theorem c_reached (N : Nat) (s : Option Addr) (l cap : Nat) (a : List Int) (hT : Til (N : Int) a) (w : World) (hz : Ints w s l a) : Calls Try.prog 37 #[.int .i64 (N : Int), .slice s l cap] w (ReachPost w N a) := by
  obtain ⟨n1, n2, l1, l2⟩ := tsizes hT hz.len
  obtain rfl := hz.len
  have hN24 : N ≤ 24 := by omega
  have HX := Lib.hid hT.2.2.2.2
  have HMb := Lib.hid (fun (t k : Nat) => mskL_lt24 ((tmvL N a t).take k) hN24 (fun x hx => tmvL_bd a t n1 x (List.mem_of_mem_take hx)))
  have HMn := Lib.hid (fun (t k2 : Nat) (h : k2 < a.length) (X : Nat) hX => msk_next (N := N) (a := a) (t := (t : Int)) (k := k2) h (X := X) hX)
  clear hT
  obtain ⟨i0, hi, hz0, hz1, hz2⟩ := info_parts infoU
  go_enter Try.func37, Try.ntmps37
  go_wp2_with (first | (at_make; refine wpList_make_full _ rfl _ _ 59 rfl w.heap.size 62 i0 (.int .u32 0) 1 Try.underlying59 hi hz0 hz1 .i64 .i64 _ _ N rfl rfl rfl rfl (by rw [hz2]; omega) (by unfold maxLen; omega) (Nat.le_refl _) ?_; intro w1 hown hgrow) | fail)
  have h0 : OwnV w1 w.heap.size 62 (.slice (some ⟨w.heap.size, 0, none⟩) N N) (rowU N a 0 0) := by
    show w1.ownsRow _ _ _ _ _ _
    rw [rowU_zero, List.length_replicate, ← madeV]
    exact hown
  have hb0 : Below w.heap.size w w1 := (Below.refl _ _).grown hgrow (Nat.le_refl _) (fun k h => by cases h)
  clear hown hgrow
  go_loopw [13] (fun ii wr => ∃ i : Nat, ii = .int .i64 i ∧ i ≤ N ∧ OwnV wr w.heap.size 62 (.slice (some ⟨w.heap.size, 0, none⟩) N N) (rowU N a i 0) ∧ Below w.heap.size w wr) (fun ii _ => N - (intOf ii).toNat)
  case atStart => exact ⟨0, rfl, by omega, h0, hb0⟩
  case round =>
    clear h0 hb0
    obtain ⟨i, rfl, hi', hO, hB⟩ := hrel
    by_cases hlt : i < N
    · have hrow := Lib.hid (rowU_row N a i)
      go_wp2_with fail
      go_loopw [18] (fun kk wr => ∃ k : Nat, kk = .int .i64 k ∧ k ≤ a.length ∧ OwnV wr w.heap.size 62 (.slice (some ⟨w.heap.size, 0, none⟩) N N) (rowU N a i k) ∧ Below w.heap.size w wr) (fun kk _ => a.length - (intOf kk).toNat)
      case atStart => exact ⟨0, rfl, by omega, hO, hB⟩
      case round =>
        clear hO hB
        obtain ⟨k, rfl, hk, hO, hB⟩ := hrel
        by_cases hlt2 : k < a.length
        · rcases (hz.keep hB).lies with h0 | ⟨b1, o1, rfl, hbw, hcells⟩
          · omega
          have hx : wr.cell? ⟨b1, o1 + k, none⟩ = some (.int .i64 (gZ a k)) := hcells k hlt2
          obtain ⟨p0, p1⟩ := HX.out _ (gZ_mem a k hlt2)
          have hkz : (k : Int) < (a.length : Int) := by omega
          have hiz : (i : Int) < (N : Int) := by omega
          have hiz0 : (0 : Int) ≤ (i : Int) := by omega
          have r0 := Int.emod_nonneg (gZ a k + (i : Int)) (show (N : Int) ≠ 0 by omega)
          have r1 := Int.emod_lt_of_pos (gZ a k + (i : Int)) (show (0 : Int) < N by omega)
          have hcr := fun w => c_restOf (gZ a k + (i : Int)) N n1 (by omega) w
          obtain ⟨X, hX⟩ : ∃ X : Nat, (gZ a k + (i : Int)) % (N : Int) = (X : Int) := ⟨((gZ a k + (i : Int)) % (N : Int)).toNat, by omega⟩
          have HM := Lib.hid (HMn.out i k hlt2 X hX)
          rw [hX] at hcr r0 r1
          have hMl := HMb.out i k
          obtain ⟨P', hP'⟩ : ∃ P', P' = 2 ^ X := ⟨_, rfl⟩
          have hPi' := int_pow hP'
          have hP24' : P' ≤ 16777216 := by rw [hP']; exact pow_le24 (by omega)
          rw [← hP'] at HM
          have hml := rowU_length N a i k
          have x0 := hO.cell hml i hlt
          rw [rowU_get N a i k i hlt, show rowM N a i k i = mskL ((tmvL N a i).take k) by simp [rowM]] at x0
          have f0 := hO.free hml i
          have HP : Hid (∀ n, OwnV ((wr.setCell ⟨w.heap.size, i, none⟩ (.int .u32 ((mskL ((tmvL N a i).take (k + 1)) : Nat) : Int))).drewN n) w.heap.size 62 (.slice (some ⟨w.heap.size, 0, none⟩) N N) (rowU N a i (k + 1))) := Lib.hid (fun n => by
            rw [← rowU_set N a i k hlt]
            exact ownV_drew (hO.store hml i _) n)
          have hor := or_u32 (mskL ((tmvL N a i).take k)) P' (by omega) (by omega)
          rw [HM.out] at HP
          clear hP' hX hcells hml HM hO
          generalize gZ a k = x at *
          generalize mskL ((tmvL N a i).take k) = M at *
          have hwu : IntKind.u32.wrap (P' : Int) = (P' : Int) := by rw [IntKind.wrap_u32]; omega
          have hwx : IntKind.i64.wrap (x + (i : Int)) = x + (i : Int) := IntWalk.i64_in _ (by omega)
          go_wp2_with fail
          go_region_with (go_at_call 24; refine (hcr _).mono ?_; rintro e w5 ⟨rfl, rfl⟩)
          all_goals
            go_wp2_with fail
            go_roundw
            case rel => exact ⟨k + 1, by go_num, by omega, HP.out 0, (hB.setCell (Nat.le_refl _) _).drew⟩
            case measure => simp [intOf]; omega
        · have hk' : k = a.length := by omega
          subst hk'
          go_wp2_with fail
          go_roundw
          case rel => exact ⟨i + 1, by go_num, by omega, by rw [← hrow.out]; exact hO, hB⟩
          case measure => simp [intOf]; omega
    · have hk' : i = N := by omega
      subst hk'
      go_wp2_with fail
      go_ret
      exact ⟨w.heap.size, Nat.le_refl _, rfl, hO, hB⟩
end Go.Proofs.Ytiplnfggiffngaa
