/- slices.Grow of nothing, and slices.Concat of three lists of classes. -/
import Derived.Test.YtobdliefaaoefaaDoorStepC
import Derived.Test.YtobdliefaaoefaaDoorShelf2
import Derived.Shelf.Spec.SlicesGrow
namespace Go.Proofs.YtobdliefaaoefaaDoor
open Go.RowKit Go.Shelf
theorem c_grow (n : Nat) (h1 : 1 ≤ n) (h2 : n ≤ 1000) (w : World) : Calls Tryd.prog 40 #[.slice none 0 0, .int .i64 n] w fun e w' => ∃ v, e = .returned v ∧ OwnC w' w.heap.size 31 v [] ∧ Below w.heap.size w w' := by
  obtain ⟨i0, hi, hz0, hz1, hz2⟩ := info_parts infoC
  have h := Any8.slices_Grow_grow Tryd.growA i0 _ hi hz0 (by rw [hz1]; omega) none 0 0 n [] w (Nat.le_refl _) (by omega) (by rw [hz2]; omega) (by omega) (by simp) (fun _ => rfl) (fun a h => by cases h)
  refine Calls.mono (f := 40) h ?_
  rintro e w' ⟨rfl, rfl⟩
  have hG1 := grownCap_ge w (0 + n) 0 (Tryd.growA_ren.t 25)
  have hG2 := grownCap_le_maxLen w (0 + n) 0 (Tryd.growA_ren.t 25) (by unfold maxLen; omega)
  have ht : Tryd.growA_ren.t 25 = 31 := rfl
  rw [ht] at hG1 hG2 ⊢
  generalize grownCap w (0 + n) 0 31 = G at *
  refine ⟨_, rfl, ⟨by simp [cells2], .inr ⟨w.heap.size, G, _, rfl, Nat.le_refl _, Array.getElem?_push_size, Nat.zero_le _, hG2, ?_, by simp [cells2]⟩⟩, ba ((Below.refl _ _).drew) _⟩
  have hz : (Value.agg #[.int .i64 0, .int .i64 0]).cells.size = 2 := rfl
  simp only [Array.size_append, size_zeroCells, hz]
  simp
  omega
structure Three (w : World) (p : Nat) (s0 s1 s2 : Option Addr) (n0 n1 n2 c0 c1 c2 : Nat) : Prop where
  a0 : w.cell? ⟨p, 0, none⟩ = some (.slice s0 n0 c0)
  a1 : w.cell? ⟨p, 1, none⟩ = some (.slice s1 n1 c1)
  a2 : w.cell? ⟨p, 2, none⟩ = some (.slice s2 n2 c2)
set_option maxRecDepth 20000 in
set_option maxHeartbeats 2000000 in
theorem c_concat (p : Nat) (s0 s1 s2 : Option Addr) (n0 n1 n2 c0 c1 c2 : Nat) (y0 y1 y2 : List Cl) (w : World) (hT : Three w p s0 s1 s2 n0 n1 n2 c0 c1 c2) (h0 : Cls w s0 n0 y0) (h1 : Cls w s1 n1 y1) (h2 : Cls w s2 n2 y2) (l0 : n0 ≤ 100) (l1 : n1 ≤ 100) (l2 : n2 ≤ 100) (hpos : 1 ≤ n0 + n1 + n2) :
    Calls Tryd.prog 28 #[.slice (some ⟨p, 0, none⟩) 3 3] w fun e w' => ∃ v, e = .returned v ∧ OwnC w' w.heap.size 31 v (y0 ++ y1 ++ y2) ∧ Below w.heap.size w w' := by
  obtain ⟨a0, a1, a2⟩ := hT
  have hpl := World.block_lt_of_cell? _ _ a0
  go_enter Tryd.func28, Tryd.ntmps28
  go_wp2_with fail
  go_loopw [3, 11] (fun z i wr => ∃ k : Nat, i = .int .i64 k ∧ ((k = 0 ∧ z = .int .i64 0) ∨ (k = 1 ∧ z = .int .i64 n0) ∨ (k = 2 ∧ z = .int .i64 ((n0 : Int) + n1)) ∨ (k = 3 ∧ z = .int .i64 ((n0 : Int) + n1 + n2))) ∧ Below w.heap.size w wr) (fun _ i _ => 3 - (intOf i).toNat)
  case atStart => exact ⟨0, rfl, .inl ⟨rfl, rfl⟩, Below.refl _ _⟩
  case round =>
    obtain ⟨k, rfl, hk, hB⟩ := hrel
    have b0 := keepc hB a0
    have b1 := keepc hB a1
    have b2 := keepc hB a2
    rcases hk with ⟨rfl, rfl⟩ | ⟨rfl, rfl⟩ | ⟨rfl, rfl⟩ | ⟨rfl, rfl⟩
    · go_wp2_with fail
      go_roundw
      case rel => exact ⟨1, rfl, .inr (.inl ⟨rfl, by go_num⟩), hB⟩
      case measure => simp [intOf]
    · go_wp2_with fail
      go_roundw
      case rel => exact ⟨2, rfl, .inr (.inr (.inl ⟨rfl, by go_num⟩)), hB⟩
      case measure => simp [intOf]
    · go_wp2_with fail
      go_roundw
      case rel => exact ⟨3, rfl, .inr (.inr (.inr ⟨rfl, by go_num⟩)), hB⟩
      case measure => simp [intOf]
    · have hgr := c_grow (n0 + n1 + n2) hpos (by omega) wr
      rw [show ((n0 + n1 + n2 : Nat) : Int) = (n0 : Int) + n1 + n2 by omega] at hgr
      go_wp2_with fail
      refine hgr.mono ?_
      rintro e w5 ⟨v5, rfl, hO5, hb5⟩
      have hB5 := bt2 hB hb5
      have hOs := hO5.low hB.size
      clear hgr hO5
      go_wp2_with fail
      go_loopw [6, 27] (fun v i wq => ∃ (k : Nat) (zs : List Cl), i = .int .i64 k ∧ ((k = 0 ∧ zs = []) ∨ (k = 1 ∧ zs = y0) ∨ (k = 2 ∧ zs = y0 ++ y1) ∨ (k = 3 ∧ zs = y0 ++ y1 ++ y2)) ∧ OwnC wq w.heap.size 31 v zs ∧ Below w.heap.size w wq) (fun _ i _ => 3 - (intOf i).toNat)
      case atStart => exact ⟨0, [], rfl, .inl ⟨rfl, rfl⟩, hOs, hB5⟩
      case round =>
        obtain ⟨k, zs, rfl, hk, hO, hB'⟩ := hrel
        have b0 := keepc hB' a0
        have b1 := keepc hB' a1
        have b2 := keepc hB' a2
        have k0 := h0.keep hB'
        have k1 := h1.keep hB'
        have k2 := h2.keep hB'
        have hs' := hB'.size
        have e0 := h0.len
        have e1 := h1.len
        have e2 := h2.len
        rcases hk with ⟨rfl, hz⟩ | ⟨rfl, hz⟩ | ⟨rfl, hz⟩ | ⟨rfl, hz⟩
        · rw [hz] at hO
          clear hz e1 e2
          go_wp2_with (first | (at_builtin; refine wpList_append_cls rfl (.tmp 31) (.tmp 32) rfl w.heap.size _ _ rfl hO s0 n0 c0 _ rfl k0 (by simp; omega) hs' ?_; intro v7 w7 hO7 hg7; have hB7 : Below w.heap.size w w7 := hB'.grown hg7 hs' (fun g e => (World.ownsRow.lt hO g e).1)) | fail)
          go_roundw
          case rel => exact ⟨1, _, rfl, .inr (.inl ⟨rfl, rfl⟩), by simpa using hO7, hB7⟩
          case measure => simp [intOf]
        · rw [hz] at hO
          clear hz e2
          go_wp2_with (first | (at_builtin; refine wpList_append_cls rfl (.tmp 31) (.tmp 32) rfl w.heap.size _ _ rfl hO s1 n1 c1 _ rfl k1 (by omega) hs' ?_; intro v7 w7 hO7 hg7; have hB7 : Below w.heap.size w w7 := hB'.grown hg7 hs' (fun g e => (World.ownsRow.lt hO g e).1)) | fail)
          go_roundw
          case rel => exact ⟨2, _, rfl, .inr (.inr (.inl ⟨rfl, rfl⟩)), hO7, hB7⟩
          case measure => simp [intOf]
        · rw [hz] at hO
          clear hz
          go_wp2_with (first | (at_builtin; refine wpList_append_cls rfl (.tmp 31) (.tmp 32) rfl w.heap.size _ _ rfl hO s2 n2 c2 _ rfl k2 (by rw [List.length_append]; omega) hs' ?_; intro v7 w7 hO7 hg7; have hB7 : Below w.heap.size w w7 := hB'.grown hg7 hs' (fun g e => (World.ownsRow.lt hO g e).1)) | fail)
          go_roundw
          case rel => exact ⟨3, _, rfl, .inr (.inr (.inr ⟨rfl, rfl⟩)), hO7, hB7⟩
          case measure => simp [intOf]
        · rw [hz] at hO
          go_wp2_with fail
          go_ret
          exact ⟨_, rfl, hO, hB'⟩
end Go.Proofs.YtobdliefaaoefaaDoor
