/- leaves: the classes of a node's parts, in order. -/
import Derived.Test.YtobdliefaaoefaaDoorS46
import Derived.Test.YtobdliefaaoefaaDoorMathO
namespace Go.Proofs.YtobdliefaaoefaaDoor
open Go.RowKit
theorem NodeO.keep {w w' : World} {b : Nat} {c : Cl} {f q : Value} (h : NodeO w b c f q) (k : Below w.heap.size w w') : NodeO w' b c f q := (k.block b h.lt).trans h
theorem PartsK.first {w : World} {B W0 n : Nat} {c : Cl} {q0 : Value} {zs : List Cl} (h : PartsK w B W0 c q0 zs n) (hn : 0 < n) : NodeO w B c (.pointer (some ⟨W0 + 1, 0, none⟩)) q0 := by
  have := h.2.1
  rwa [if_neg (by omega)] at this
theorem own_one (w : World) (r m : Int) : OwnC (w.alloc (.cells #[.int .i64 r, .int .i64 m] 31)) w.heap.size 31 (.slice (some ⟨w.heap.size, 0, none⟩) 1 1) [(r, m)] := World.ownsRow_lit w #[.int .i64 r, .int .i64 m] 1 (Nat.le_refl _) (by unfold maxLen; omega) rfl
theorem c_leaf (b : Nat) (r m : Int) (q : Value) (w : World) (hN : NodeO w b (r, m) (.pointer none) q) :
    Calls Tryd.prog 29 #[.pointer (some ⟨b, 0, none⟩)] w fun e w' => ∃ v, e = .returned v ∧ OwnC w' w.heap.size 31 v [(r, m)] ∧ Below w.heap.size w w' := by
  obtain ⟨h0, h1, h2, h3, _, _⟩ := hN.cells
  simp only at h0 h1
  have hbl := hN.lt
  go_enter Tryd.func29, Tryd.ntmps29
  go_wp2_with fail
  go_ret
  exact ⟨_, rfl, own_one w r m, ba (Below.refl _ _) _⟩
def ptrK (W0 n k : Nat) : Value := if k < n then .pointer (some ⟨W0 + 2 * k + 1, 0, none⟩) else .pointer none
set_option maxRecDepth 20000 in
set_option maxHeartbeats 1000000 in
theorem c_leaves (B W0 n : Nat) (c : Cl) (q0 : Value) (zs : List Cl) (w : World) (hP : PartsK w B W0 c q0 zs n) (hl : zs.length = n) (h1 : 1 ≤ n) (h2 : n ≤ 12) :
    Calls Tryd.prog 29 #[.pointer (some ⟨B, 0, none⟩)] w fun e w' => ∃ v, e = .returned v ∧ OwnC w' w.heap.size 31 v zs ∧ Below w.heap.size w w' := by
  have hF := hP.first (by omega)
  obtain ⟨_, _, g2, _, _, _⟩ := hF.cells
  have hNs := hP.2.2
  have HE := Lib.hid (show zs.take n = zs by rw [← hl]; exact List.take_length)
  have HT := Lib.hid (fun k (h : k < n) => show zs.take (k + 1) = zs.take k ++ [(rAt zs k, mAt zs k)] by
    rw [List.take_succ_eq_append_getElem (by omega), ← at_eq (by omega)])
  have HL := Lib.hid (fun k (h : k ≤ n) => show (zs.take k).length = k by rw [List.length_take]; omega)
  have hp0 : (Value.pointer (some ⟨W0 + 1, 0, none⟩)) = ptrK W0 n 0 := by unfold ptrK; rw [if_pos (by omega)]
  replace hNs := Lib.hid hNs
  replace hp0 := Lib.hid hp0
  clear hP hF hl
  go_enter Tryd.func29, Tryd.ntmps29
  go_wp2_with fail
  go_loopw [3, 4] (fun v p wr => ∃ k : Nat, k ≤ n ∧ p = ptrK W0 n k ∧ OwnC wr w.heap.size 31 v (zs.take k) ∧ Below w.heap.size w wr) (fun v _ _ => n - (match v with | .slice _ k _ => k | _ => 0))
  case atStart => exact ⟨0, Nat.zero_le _, hp0.out, by simpa using OwnC.nil _ _ _, Below.refl _ _⟩
  case round =>
    obtain ⟨k, hk, rfl, hO, hB⟩ := hrel
    by_cases hlt : k < n
    · have hN := hNs.out k hlt
      have hNr := hN.keep hB
      obtain ⟨_, _, _, e3, _, _⟩ := hN.cells
      have e3' : w.cell? ⟨W0 + 2 * k + 1, 3, none⟩ = some (ptrK W0 n (k + 1)) := by
        rw [e3]
        unfold ptrK
        by_cases e : k + 1 = n
        · rw [if_pos e, if_neg (by omega)]
        · rw [if_neg e, if_pos (by omega)]
      have hlf := c_leaf _ _ _ _ wr hNr
      have ep : ptrK W0 n k = .pointer (some ⟨W0 + 2 * k + 1, 0, none⟩) := by unfold ptrK; rw [if_pos hlt]
      have HT := Lib.hid (HT.out k hlt)
      have hLk := HL.out k hk
      have hLk1 := HL.out (k + 1) (by omega)
      rw [ep]
      obtain ⟨s3, c3, hv3, _, _⟩ := hO.spread
      rw [hLk] at hv3
      subst hv3
      have hbs := hB.size
      go_wp2_with fail
      refine hlf.mono ?_
      rintro e w5 ⟨v5, rfl, hO5, hb5⟩
      obtain ⟨s5, c5, rfl, hC5, _⟩ := hO5.spread
      have hB5 := bt2 hB hb5
      have hOk := hO.keep hb5
      have hs5 := hB5.size
      go_wp2_with (first | (at_builtin; refine wpList_append_cls rfl (.tmp 25) (.tmp 27) rfl w.heap.size _ _ rfl hOk s5 1 c5 _ rfl hC5 (by rw [hLk]; omega) hs5 ?_; intro v7 w7 hO7 hg7; have hB7 : Below w.heap.size w w7 := hB5.grown hg7 hs5 (fun g e => (World.ownsRow.lt hOk g e).1); have e7 := keepc hB7 e3'; rw [← HT.out] at hO7; obtain ⟨s7, c7, hv7, _, _⟩ := hO7.spread; rw [hLk1] at hv7; subst hv7) | fail)
      go_roundw
      case rel => exact ⟨k + 1, by omega, rfl, hO7, hB7⟩
      case measure => simp only; omega
    · have hkn : n = k := by omega
      subst hkn
      have ep : ptrK W0 n n = .pointer none := by unfold ptrK; rw [if_neg (by omega)]
      rw [HE.out] at hO
      rw [ep]
      go_wp2_with fail
      go_ret
      exact ⟨_, rfl, hO, hB⟩
end Go.Proofs.YtobdliefaaoefaaDoor
