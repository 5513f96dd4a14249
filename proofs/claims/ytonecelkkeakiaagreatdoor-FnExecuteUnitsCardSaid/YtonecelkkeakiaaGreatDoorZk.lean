/- Chapter 8: a script's lines; the script of the law FnExecuteUnits, run. -/
import Derived.Test.YtonecelkkeakiaaGreatDoorZj
import Derived.Test.YtonecelkkeakiaaGreatDoorZb
import Derived.Test.YtonecelkkeakiaaGreatDoorWh
import Derived.Lib.SplitLaws
namespace Go.Proofs.YtonecelkkeakiaaGreatDoor
open Go.RowKit Go.Shelf
/-- lines, each with its end -/
def scr : List ByteArray → ByteArray
  | [] => ⟨#[]⟩
  | l :: r => l ++ (⟨#[10]⟩ ++ scr r)
theorem scr_hit (l S : ByteArray) (h : ∀ b ∈ l.data.toList, b ≠ 10) : Lib.indexB (l ++ (⟨#[10]⟩ ++ S)) ⟨#[10]⟩ = (l.size : Nat) := by
  show Lib.index (l ++ (⟨#[10]⟩ ++ S)).data.toList [10] = _
  rw [Lib.index_one]
  have e : (l ++ (⟨#[10]⟩ ++ S)).data.toList = l.data.toList ++ 10 :: S.data.toList := by simp [ByteArray.data_append]
  rw [e, idx_some 10 _ _ h]
  rfl
theorem scr_miss : Lib.indexB ⟨#[]⟩ ⟨#[10]⟩ = -1 := by decide
theorem scr_tail (l S : ByteArray) : (l ++ (⟨#[10]⟩ ++ S)).extract (l.size + 1) (l ++ (⟨#[10]⟩ ++ S)).size = S := by
  have h := ex_right (l ++ ⟨#[10]⟩) S
  rw [ByteArray.append_assoc, ByteArray.size_append] at h
  rw [ByteArray.size_append, ByteArray.size_append, ← Nat.add_assoc]
  exact h
theorem scr_count : ∀ ls : List ByteArray, (∀ l ∈ ls, ∀ b ∈ l.data.toList, b ≠ 10) → Lib.countB (scr ls) ⟨#[10]⟩ = ls.length
  | [], _ => Lib.countB_miss _ _ scr_miss
  | l :: r, h => by
    have hi := scr_hit l (scr r) (h l (List.mem_cons_self ..))
    show Lib.countB (l ++ (⟨#[10]⟩ ++ scr r)) ⟨#[10]⟩ = _
    rw [Lib.countB_hit _ _ _ (by decide) hi]
    show 1 + Lib.countB ((l ++ (⟨#[10]⟩ ++ scr r)).extract (l.size + 1) _) _ = _
    rw [scr_tail, scr_count r fun x hx => h x (List.mem_cons_of_mem _ hx)]
    simp only [List.length_cons]
    omega
theorem scr_split : ∀ ls : List ByteArray, (∀ l ∈ ls, ∀ b ∈ l.data.toList, b ≠ 10) → Lib.splitB ⟨#[10]⟩ 0 ls.length (scr ls) = ls ++ [⟨#[]⟩]
  | [], _ => rfl
  | l :: r, h => by
    have hi := scr_hit l (scr r) (h l (List.mem_cons_self ..))
    show Lib.splitB ⟨#[10]⟩ 0 (r.length + 1) (l ++ (⟨#[10]⟩ ++ scr r)) = _
    rw [Lib.splitB_hit _ _ _ _ _ hi]
    show (l ++ (⟨#[10]⟩ ++ scr r)).extract 0 l.size :: Lib.splitB ⟨#[10]⟩ 0 r.length ((l ++ (⟨#[10]⟩ ++ scr r)).extract (l.size + 1) _) = _
    rw [scr_tail, ex_left, scr_split r fun x hx => h x (List.mem_cons_of_mem _ hx)]
    rfl
theorem c_split (ls : List ByteArray) (h : ∀ l ∈ ls, ∀ b ∈ l.data.toList, b ≠ 10) (hs : (scr ls).size ≤ 100000) (w : World) (hE : Env w) :
    Calls Tryz.prog 27 #[.string (scr ls), .string ⟨#[10]⟩] w fun e w' => e = .returned (.slice (some ⟨w.heap.size, 0, none⟩) (ls.length + 1) (ls.length + 1)) ∧ w.alloc (.cells ((ls ++ [(⟨#[]⟩ : ByteArray)]).map Value.string).toArray 9) = w' := by
  obtain ⟨m, hm⟩ := hE.ml
  refine (Tryz.strings_Split (scr ls) ⟨#[10]⟩ m w (by omega) hm (by decide)).mono ?_
  rintro e w' ⟨rfl, rfl⟩
  rw [scr_count ls h, scr_split ls h]
  exact ⟨rfl, rfl⟩
theorem bld_keep {B b : Nat} {bs : List Value} {w w' : World} (h : Lib.IsBuilder 51 5 B b bs w) (hb : Below w.heap.size w w') : Lib.IsBuilder 51 5 B b bs w' := by
  have key : ∀ p, Lib.BuilderAt 51 5 B b p bs w → Lib.BuilderAt 51 5 B b p bs w' := by
    rintro p ⟨h1, v, h2, h3, h4⟩
    refine ⟨h1, v, (hb.block b (Array.getElem?_eq_some_iff.1 h2).1).trans h2, World.ownsRow.kept h3 (row := none) ⟨hb.os, hb.tape, hb.output, hb.size, fun k hk _ => hb.block k hk⟩ ?_, h4⟩
    rcases h3.2 with ⟨e, _⟩ | ⟨g, cap, cur, e, _⟩
    · exact .inl (by rw [e]; rfl)
    · exact .inr (by rw [e]; simp [Value.ownBlock])
  exact h.imp (key _) (key _)
set_option maxRecDepth 20000 in
set_option maxHeartbeats 1000000 in
theorem c_runUnits (m : Nat) (m1 : 1 ≤ m) (m2 : m ≤ 1000) (w : World) (hE : Env w) :
    Calls Tryz.prog 9 #[.string (scr [unitsL m])] w fun e w' => e = .returned (.string (txt (uniI m).toNat ++ ⟨#[10, 99, 108, 97, 115, 115, 101, 115, 32, 49, 10]⟩)) ∧ Below w.heap.size w w' := by
  have hl := txt_len (n := m) (by omega)
  have h10 : ∀ l ∈ [unitsL m], ∀ b ∈ l.data.toList, b ≠ 10 := by
    intro l hl b hb e
    obtain rfl := List.mem_singleton.1 hl
    have e2 : (unitsL m).data.toList = [117, 110, 105, 116, 115, 32] ++ Lib.decDigits m := by
      unfold unitsL
      simp [ByteArray.data_append, txt_list]
    rw [e2] at hb
    rcases List.mem_append.1 hb with hb | hb
    · rw [e] at hb; exact absurd hb (by decide)
    · have := dec_all m b hb
      rw [e] at this
      exact absurd this (by decide)
  have hs : (scr [unitsL m]).size ≤ 600 := by
    show (unitsL m ++ (⟨#[10]⟩ ++ ⟨#[]⟩)).size ≤ 600
    unfold unitsL
    rw [ByteArray.size_append, ByteArray.size_append]
    show 6 + (txt m).size + 1 ≤ 600
    omega
  have hsp := fun w hE => c_split [unitsL m] h10 (by omega) w hE
  have hA := fun R B w hE hR => c_ansUnits m R B m1 m2 w hE hR
  obtain ⟨u, hu⟩ : ∃ u, (uniI (m : Int)).toNat = u := ⟨_, rfl⟩
  have hul := txt_len (n := u) (by rw [← hu]; have := uniI_le (m := (m : Int)) (by omega) (by omega); omega)
  rw [hu]
  simp only [hu] at hA
  clear hu h10
  generalize scr [unitsL m] = S at *
  generalize unitsL m = T at *
  generalize txt u = A at *
  go_enter Tryz.func9, Tryz.ntmps9
  go_wp2_with (first
    | (go_at_call 25; refine (c_wholeClass _).mono ?_; rintro e w1 ⟨rfl, hb⟩)
    | (go_at_call 26; refine (c_commands _).mono ?_; rintro e w2 ⟨rfl, rfl⟩))
  obtain ⟨W2, hW2⟩ : ∃ W2, ((w1.alloc (.cells #[.int .i64 0, .int .i64 1] 41)).alloc (.cells #[.slice (some ⟨w1.heap.size, 0, none⟩) 1 1] 44)).alloc (cmdM 28) = W2 := ⟨_, rfl⟩
  have hB2 : Below w1.heap.size w1 W2 := by rw [← hW2]; exact ba (ba (ba (Below.refl _ _) _) _) _
  have hz2 : W2.heap.size = w1.heap.size + 3 := by rw [← hW2]; simp
  have hw2 : Boxed W2 (w1.heap.size + 1) 44 (.slice (some ⟨w1.heap.size, 0, none⟩) 1 1) := by
    rw [← hW2]
    have h := Boxed.new (w1.alloc (.cells #[.int .i64 0, .int .i64 1] 41)) 44 (.slice (some ⟨w1.heap.size, 0, none⟩) 1 1)
    rw [World.size_alloc] at h
    exact h.alloc _
  have hR2 : W2.heap[w1.heap.size + 1 + 1]? = some (cmdM 28) := by
    rw [← hW2]
    have h := heap_alloc_new ((w1.alloc (.cells #[.int .i64 0, .int .i64 1] 41)).alloc (.cells #[.slice (some ⟨w1.heap.size, 0, none⟩) 1 1] 44)) (cmdM 28)
    rw [World.size_alloc, World.size_alloc] at h
    exact h
  have hBw : Below w.heap.size w W2 := hb.trans (hB2.mono hb.size)
  have hE2 := hE.keep hBw
  rw [hW2]
  clear hW2
  refine (hsp W2 hE2).mono ?_
  rintro e W3 ⟨rfl, hW3⟩
  have hB3 : Below W2.heap.size W2 W3 := by rw [← hW3]; exact ba (Below.refl _ _) _
  have hz3 : W3.heap.size = W2.heap.size + 1 := by rw [← hW3]; simp
  have hln : W3.cell? ⟨W2.heap.size, 0, none⟩ = some (.string T) := by rw [← hW3]; exact World.cell?_alloc_mark W2 _ _ _ 0
  clear hW3 hsp
  generalize w1.heap.size = c at *
  have hB3 : Below (c + 3) W2 W3 := hz2 ▸ hB3
  have hz5 : W3.heap.size = c + 4 := by omega
  clear hz3
  have hln : W3.cell? ⟨c + 3, 0, none⟩ = some (.string T) := hz2 ▸ hln
  have hbd := Lib.fresh_isBuilder 51 5 W3
  have hB4 : Below W3.heap.size W3 (W3.alloc (.cells #[.pointer none, .slice none 0 0] 51)) := ba (Below.refl _ _) _
  have hln4 := keepc hB4 hln
  obtain ⟨W4, hW4⟩ : ∃ W4, W3.alloc (.cells #[.pointer none, .slice none 0 0] 51) = W4 := ⟨_, rfl⟩
  have hz4 : W4.heap.size = c + 5 := by rw [← hW4, World.size_alloc]; omega
  rw [hW4] at hbd hB4 hln4
  have HW4 := Lib.hid hW4
  clear hW4
  have hbd : Lib.IsBuilder 51 5 (c + 4) (c + 4) [] W4 := hz5 ▸ hbd
  have hB34 : Below (c + 3) W2 W4 := hB3.trans (hB4.mono (by omega))
  have hE4 := hE2.keep (by rw [hz2]; exact hB34)
  have hR4 : W4.heap[c + 1 + 1]? = some (cmdM 28) := (hB34.block _ (by omega)).trans hR2
  have hw4 : Boxed W4 (c + 1) 44 (.slice (some ⟨c, 0, none⟩) 1 1) := (hB34.block _ (by omega)).trans hw2
  have hBw4 : Below w.heap.size w W4 := hBw.trans (hB34.mono (by have := hBw.size; omega))
  have HZ2 := Lib.hid hz2
  have HZ3 := Lib.hid hz5
  have HZ4 := Lib.hid hz4
  rw [hz2]
  clear hz2 hz4 hB4 hB3 hB34 hln hw2 hR2 hE2 hE hB2
  simp only [List.length_cons, List.length_nil, Nat.reduceAdd, Nat.zero_add]
  go_wp2_with fail
  rw [HW4.out]
  clear hz5
  go_loopw [8, 25] (fun _ kk wr => (kk = .int .i64 0 ∧ wr = W4) ∨ (kk = .int .i64 1 ∧ Lib.IsBuilder 51 5 (c + 4) (c + 4) (Lib.strCells (A ++ ⟨#[10]⟩)) wr ∧ Below (c + 4) W4 wr)) (fun _ kk _ => 1 - (intOf kk).toNat)
  case atStart => exact .inl ⟨rfl, rfl⟩
  case round =>
    rcases hrel with ⟨rfl, rfl⟩ | ⟨rfl, hbd1, hB1⟩
    · have hans := hA (c + 1 + 1) (.pointer (some ⟨c + 1, 0, none⟩)) wr hE4 hR4
      have hsz : (A ++ ⟨#[10]⟩ : ByteArray).size = A.size + 1 := by rw [ByteArray.size_append]; rfl
      go_wp2_with (go_at_call 29; refine (hans).mono ?_; rintro e w1 ⟨rfl, hb⟩)
      have q1 := bld_keep hbd hb
      have q2 : ([] : List Value).length + (A ++ ⟨#[10]⟩ : ByteArray).size ≤ 140737488355328 := by rw [hsz, List.length_nil]; omega
      have q3 : c + 4 ≤ w1.heap.size := by have := hb.size; rw [HZ4.out] at this; omega
      have q4 := c_writeString (c + 4) (c + 4) [] (A ++ ⟨#[10]⟩) w1 q1 q2 q3
      refine q4.mono ?_
      rintro e w5 ⟨rfl, hbd2, hb2⟩
      have HB5 := Lib.hid (show Below (c + 4) wr w5 from (hb.mono (by rw [HZ4.out]; omega)).trans hb2)
      clear hans hb hb2
      go_wp2_with fail
      go_roundw
      case rel => exact .inr ⟨by go_num, .inr hbd2, HB5.out⟩
      case measure => simp [intOf]
    · have hE5 := hE4.low hB1 (by omega)
      have hc5 : wr.cell? ⟨c + 1, 0, none⟩ = some (.slice (some ⟨c, 0, none⟩) 1 1) := Boxed.cell ((hB1.block _ (by omega)).trans hw4)
      have hit : Calls Tryz.prog 30 #[.int .i64 1] wr fun e w' => e = .returned (.string ⟨#[49]⟩) ∧ Below wr.heap.size wr w' := by
        have h := c_itoa 1 (by omega) wr hE5
        rw [txt_small (by omega)] at h
        exact h
      have hw5 := hB1.size
      go_wp2_with (go_at_call 30; refine (hit).mono ?_; rintro e w1 ⟨rfl, hb⟩)
      have hK : (⟨#[99, 108, 97, 115, 115, 101, 115, 32]⟩ ++ ⟨#[49]⟩ ++ ⟨#[10]⟩ : ByteArray) = ⟨#[99, 108, 97, 115, 115, 101, 115, 32, 49, 10]⟩ := rfl
      rw [hK]
      have hsz : (A ++ ⟨#[10]⟩ : ByteArray).size = A.size + 1 := by rw [ByteArray.size_append]; rfl
      have q1 := bld_keep hbd1 hb
      have q2 : (Lib.strCells (A ++ ⟨#[10]⟩)).length + (⟨#[99, 108, 97, 115, 115, 101, 115, 32, 49, 10]⟩ : ByteArray).size ≤ 140737488355328 := by
        rw [Lib.strCells_length, hsz]
        show A.size + 1 + 10 ≤ _
        omega
      have q3 : c + 4 ≤ w1.heap.size := by have := hb.size; have := hB1.size; rw [HZ4.out] at this; omega
      have q4 := c_writeString (c + 4) (c + 4) (Lib.strCells (A ++ ⟨#[10]⟩)) ⟨#[99, 108, 97, 115, 115, 101, 115, 32, 49, 10]⟩ w1 q1 q2 q3
      refine q4.mono ?_
      clear q4
      rintro e w5 ⟨rfl, hbd2, hb2⟩
      have q5 : Lib.IsBuilder 51 5 (c + 4) (c + 4) (Lib.byteCells ((A ++ ⟨#[10]⟩ : ByteArray).data.toList ++ [99, 108, 97, 115, 115, 101, 115, 32, 49, 10])) w5 := by
        refine .inr ?_
        have e : Lib.byteCells ((A ++ ⟨#[10]⟩ : ByteArray).data.toList ++ [99, 108, 97, 115, 115, 101, 115, 32, 49, 10]) = Lib.strCells (A ++ ⟨#[10]⟩) ++ Lib.strCells ⟨#[99, 108, 97, 115, 115, 101, 115, 32, 49, 10]⟩ := by
          rw [Lib.strCells_eq, Lib.strCells_eq]
          unfold Lib.byteCells
          rw [List.map_append]
        rw [e]
        exact hbd2
      have q6 := Tryz.Builder_String (c + 4) (c + 4) _ w5 q5 (by simp)
      have e7 : (⟨((A ++ (⟨#[10]⟩ : ByteArray)).data.toList ++ [99, 108, 97, 115, 115, 101, 115, 32, 49, 10]).toArray⟩ : ByteArray) = A ++ ⟨#[10, 99, 108, 97, 115, 115, 101, 115, 32, 49, 10]⟩ := by
        apply ByteArray.ext
        simp [ByteArray.data_append]
      rw [e7] at q6
      have hbe : Below w.heap.size w w5 := by
        have h1 := hBw.size
        rw [HZ2.out] at h1
        have h2 := hB1.size
        rw [HZ4.out] at h2
        exact hBw4.trans ((hB1.mono (by omega)).trans ((hb.mono (by omega)).trans (hb2.mono (by omega))))
      clear q5 q1 q2 q3 hbd2
      go_wp2_with (first
        | (go_at_call 31; refine q6.mono ?_; rintro e w6 ⟨rfl, hb6⟩))
      go_ret
      exact ⟨rfl, hbe.trans (hb6.mono (by have := hBw.size; rw [HZ2.out] at this; omega))⟩
end Go.Proofs.YtonecelkkeakiaaGreatDoor
