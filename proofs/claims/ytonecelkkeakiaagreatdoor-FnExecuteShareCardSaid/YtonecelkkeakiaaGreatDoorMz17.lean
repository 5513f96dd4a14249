/- Chapter 8: the answers to the lines of the law FnExecuteShare. -/
import Derived.Test.YtonecelkkeakiaaGreatDoorMz16
import Derived.Test.YtonecelkkeakiaaGreatDoorZp
import Derived.Defers
import Derived.Recover
import Derived.Test.YtonecelkkeakiaaGreatDoorZo
import Derived.Test.YtonecelkkeakiaaGreatDoorMz13
namespace Go.Proofs.YtonecelkkeakiaaGreatDoor
open Go.RowKit Go.Shelf
theorem cut_bare (l : List UInt8) (h : Lib.index l [32] = -1) : Lib.cut l [32] = (l, [], false) := by
  unfold Lib.cut
  rw [h, if_neg (by decide)]
theorem cut_kw (k r : List UInt8) (h : ∀ b ∈ k, b ≠ 32) : Lib.cut (k ++ 32 :: r) [32] = (k, r, true) := by
  have hi : Lib.index (k ++ 32 :: r) [32] = (k.length : Nat) := by rw [Lib.index_one, idx_some 32 _ _ h]
  unfold Lib.cut
  rw [hi, if_pos (by omega)]
  simp
set_option maxRecDepth 20000 in
set_option maxHeartbeats 1000000 in
theorem c_ansShare (b B0 R H : Nat) (zs : List Cl) (hs : sysB zs = true) (hH : shrI zs = (H : Int)) (hH2 : H ≤ 8000) (w : World) (hE : Env w) (hR : w.heap[R]? = some (cmdM 28)) (hB : Ben w b B0 zs) :
    Calls Tryz.prog 29 #[.pointer (some ⟨b, 0, none⟩), .string ⟨#[115, 104, 97, 114, 101]⟩, .map (some R)] w fun e w' => e = .returned (.string (txt H)) ∧ Ben w' b B0 zs ∧ KpB w.heap.size b w w' := by
  have hmf : ∀ (fn : Fn) (first cap : Array Value) (w : World), (Instr.makeFunc fn first cap).run Tryz.prog w = .ok (.func fn first cap) w := fun _ _ _ _ => rfl
  have hT := fun w hE hR => c_toldBare ⟨#[115, 104, 97, 114, 101]⟩ 55 9 R ⟨#[115, 104, 97, 114, 101]⟩ (by decide) (cut_bare _ (by decide)) (by rfl) w hE hR
  go_enter_defers Tryz.func29, Tryz.ntmps29
  have hb0 : Below w.heap.size w (w.alloc (.cells #[.string ⟨#[]⟩] 9)) := ba (Below.refl _ _) _
  have hRl := (Array.getElem?_eq_some_iff.1 hR).1
  go_wp2_with fail
  refine (hT _ (hE.keep hb0) ((hb0.block R hRl).trans hR)).mono ?_
  rintro e w1 ⟨rfl, hb1⟩
  have hst := st_new w1 (.func 55) 0 75
  have hbW : Below w.heap.size w w1 := hb0.trans (hb1.mono hb0.size)
  have hb2 : Below w1.heap.size w1 (w1.alloc (.cells #[.int .i64 0, .func (.func 55) #[] #[]] 75)) := ba (Below.refl _ _) _
  have hE2 := (hE.keep hbW).keep hb2
  have hBn2 := (hB.keep hbW).keep hb2
  have hsz2 : w.heap.size ≤ (w1.alloc (.cells #[.int .i64 0, .func (.func 55) #[] #[]] 75)).heap.size := Nat.le_trans hbW.size hb2.size

  have hU := c_wShare b B0 H (.slice none 0 0) zs hs hH hH2 _ hE2 hBn2
  clear hT hE2 hBn2
  go_wp2_with fail
  refine hU.mono ?_
  rintro e w2 ⟨rfl, hb3⟩
  have hBn3 : Ben w2 b B0 zs := ((hB.keep hbW).keep hb2).keep hb3
  have hb3 := KpB.of_below (U := b) hb3
  have hkk : KpB w1.heap.size b w1 w2 := (KpB.of_below hb2).trans (hb3.mono hb2.size)
  have hk4 : KpB (w.heap.size + 1) b (w.alloc (.cells #[.string ⟨#[]⟩] 9)) w2 := (KpB.of_below (hb1.mono (by rw [World.size_alloc]; exact Nat.le_refl _))).trans (hkk.mono (by have := hb1.size; rw [World.size_alloc] at this; exact this))
  have hbl : b < w.heap.size := by obtain ⟨v, h1, _⟩ := hB; exact h1.lt
  have hbx : Boxed w2 w.heap.size 9 (.string ⟨#[]⟩) := (hk4.block w.heap.size (by omega) (by omega)).trans (Boxed.new w 9 (.string ⟨#[]⟩))
  have r0 := hbx.cell
  have r1 := hbx.frozen
  have hfin := (KpB.of_below (U := b) hb0).trans (hk4.mono (Nat.le_succ _))
  have r2 := set_hit (v := .string (txt H)) r0
  have hBf : Ben (w2.setCell ⟨w.heap.size, 0, none⟩ (.string (txt H))) b B0 zs := by
    obtain ⟨v, h1, h2⟩ := hBn3
    exact ⟨v, h1.other (by omega) _, World.ownsRow.kept h2 (row := some w.heap.size) ⟨rfl, rfl, rfl, by simp [World.setCell], fun k _ hk => Below.heap_setCell _ _ _ _ (fun e => hk (by simp [e]))⟩ (.inr fun e => Boxed.not_row hbx (by decide) h2 e.symm)⟩
  have hkf : KpB w.heap.size b w (w2.setCell ⟨w.heap.size, 0, none⟩ (.string (txt H))) :=
    ⟨hfin.os, hfin.tape, hfin.output, by have := hfin.size; simpa [World.setCell] using this, fun k hk hn => (Below.heap_setCell _ _ _ _ (show k ≠ w.heap.size by omega)).trans (hfin.block k hk hn)⟩
  clear hU hst hb1 hb2 hb3 hBn3 hbx hk4 hkk
  go_wp2_with fail
  refine leaves_cons (f := 76) (args := #[.pointer (some ⟨w.heap.size, 0, none⟩)]) (by simp) (by simp [go_sem]) ?_
  refine (c_caught (.pointer (some ⟨w.heap.size, 0, none⟩)) _).mono ?_
  rintro e u' w'' ⟨rfl, rfl, rfl⟩
  simp [Leaves, settle, results, Tryz.results29, go_sem, r2]
  exact ⟨hBf, hkf⟩
set_option maxRecDepth 20000 in
set_option maxHeartbeats 1000000 in
theorem c_ansSort (b B0 R : Nat) (zs : List Cl) (hs : sysB zs = true) (w : World) (hE : Env w) (hg : LaidE w) (hR : w.heap[R]? = some (cmdM 28)) (hB : Ben w b B0 zs) (hw : B0 ≤ w.heap.size) :
    Calls Tryz.prog 29 #[.pointer (some ⟨b, 0, none⟩), .string ⟨#[115, 111, 114, 116]⟩, .map (some R)] w fun e w' => e = .returned (.string ⟨#[111, 107]⟩) ∧ Ben w' b B0 (srtL zs) ∧ KpB w.heap.size b w w' := by
  have hmf : ∀ (fn : Fn) (first cap : Array Value) (w : World), (Instr.makeFunc fn first cap).run Tryz.prog w = .ok (.func fn first cap) w := fun _ _ _ _ => rfl
  have hT := fun w hE hR => c_toldBare ⟨#[115, 111, 114, 116]⟩ 52 6 R ⟨#[115, 111, 114, 116]⟩ (by decide) (cut_bare _ (by decide)) (by rfl) w hE hR
  go_enter_defers Tryz.func29, Tryz.ntmps29
  have hb0 : Below w.heap.size w (w.alloc (.cells #[.string ⟨#[]⟩] 9)) := ba (Below.refl _ _) _
  have hRl := (Array.getElem?_eq_some_iff.1 hR).1
  go_wp2_with fail
  refine (hT _ (hE.keep hb0) ((hb0.block R hRl).trans hR)).mono ?_
  rintro e w1 ⟨rfl, hb1⟩
  have hst := st_new w1 (.func 52) 0 75
  have hbW : Below w.heap.size w w1 := hb0.trans (hb1.mono hb0.size)
  have hb2 : Below w1.heap.size w1 (w1.alloc (.cells #[.int .i64 0, .func (.func 52) #[] #[]] 75)) := ba (Below.refl _ _) _
  have hE2 := (hE.keep hbW).keep hb2
  have hBn2 := (hB.keep hbW).keep hb2
  have hsz2 : w.heap.size ≤ (w1.alloc (.cells #[.int .i64 0, .func (.func 52) #[] #[]] 75)).heap.size := Nat.le_trans hbW.size hb2.size
  have hg2 := (hg.keep hbW).keep hb2
  have hU := c_wSort b B0 (.slice none 0 0) zs hs _ hg2 hBn2 (Nat.le_trans hw hsz2)
  clear hT hE2 hBn2
  go_wp2_with fail
  refine hU.mono ?_
  rintro e w2 ⟨rfl, hBn3, hb3⟩
  have hkk : KpB w1.heap.size b w1 w2 := (KpB.of_below hb2).trans (hb3.mono hb2.size)
  have hk4 : KpB (w.heap.size + 1) b (w.alloc (.cells #[.string ⟨#[]⟩] 9)) w2 := (KpB.of_below (hb1.mono (by rw [World.size_alloc]; exact Nat.le_refl _))).trans (hkk.mono (by have := hb1.size; rw [World.size_alloc] at this; exact this))
  have hbl : b < w.heap.size := by obtain ⟨v, h1, _⟩ := hB; exact h1.lt
  have hbx : Boxed w2 w.heap.size 9 (.string ⟨#[]⟩) := (hk4.block w.heap.size (by omega) (by omega)).trans (Boxed.new w 9 (.string ⟨#[]⟩))
  have r0 := hbx.cell
  have r1 := hbx.frozen
  have hfin := (KpB.of_below (U := b) hb0).trans (hk4.mono (Nat.le_succ _))
  have r2 := set_hit (v := .string ⟨#[111, 107]⟩) r0
  have hBf : Ben (w2.setCell ⟨w.heap.size, 0, none⟩ (.string ⟨#[111, 107]⟩)) b B0 (srtL zs) := by
    obtain ⟨v, h1, h2⟩ := hBn3
    exact ⟨v, h1.other (by omega) _, World.ownsRow.kept h2 (row := some w.heap.size) ⟨rfl, rfl, rfl, by simp [World.setCell], fun k _ hk => Below.heap_setCell _ _ _ _ (fun e => hk (by simp [e]))⟩ (.inr fun e => Boxed.not_row hbx (by decide) h2 e.symm)⟩
  have hkf : KpB w.heap.size b w (w2.setCell ⟨w.heap.size, 0, none⟩ (.string ⟨#[111, 107]⟩)) :=
    ⟨hfin.os, hfin.tape, hfin.output, by have := hfin.size; simpa [World.setCell] using this, fun k hk hn => (Below.heap_setCell _ _ _ _ (show k ≠ w.heap.size by omega)).trans (hfin.block k hk hn)⟩
  clear hU hst hb1 hb2 hb3 hBn3 hbx hk4 hkk
  go_wp2_with fail
  refine leaves_cons (f := 76) (args := #[.pointer (some ⟨w.heap.size, 0, none⟩)]) (by simp) (by simp [go_sem]) ?_
  refine (c_caught (.pointer (some ⟨w.heap.size, 0, none⟩)) _).mono ?_
  rintro e u' w'' ⟨rfl, rfl, rfl⟩
  simp [Leaves, settle, results, Tryz.results29, go_sem, r2]
  exact ⟨hBf, hkf⟩
set_option maxRecDepth 20000 in
set_option maxHeartbeats 1000000 in
theorem c_ansClasses (zs : List Cl) (hs : sysB zs = true) (hf : fitB zs) (b B0 R : Nat) (zs0 : List Cl) (w : World) (hE : Env w) (hR : w.heap[R]? = some (cmdM 28)) (hB : Ben w b B0 zs0) (hw : B0 ≤ w.heap.size) :
    Calls Tryz.prog 29 #[.pointer (some ⟨b, 0, none⟩), .string (⟨#[99, 108, 97, 115, 115, 101, 115]⟩ ++ bl (nsOf zs)), .map (some R)] w fun e w' => e = .returned (.string ⟨#[111, 107]⟩) ∧ Ben w' b B0 zs ∧ KpB w.heap.size b w w' := by
  have hmf : ∀ (fn : Fn) (first cap : Array Value) (w : World), (Instr.makeFunc fn first cap).run Tryz.prog w = .ok (.func fn first cap) w := fun _ _ _ _ => rfl
  have hlin : (⟨#[99, 108, 97, 115, 115, 101, 115]⟩ ++ bl (nsOf zs) : ByteArray) = ⟨#[99, 108, 97, 115, 115, 101, 115]⟩ ++ (⟨#[32]⟩ ++ line (nsOf zs)) := by
    have hne := (sysB_facts hs).1
    cases zs with
    | nil => simp at hne
    | cons c t => show ⟨#[99, 108, 97, 115, 115, 101, 115]⟩ ++ bl (_ :: _) = _; rw [bl_line]; rfl
  have hne : nsOf zs ≠ [] := by
    intro e
    have h1 := nsOf_length zs
    rw [e] at h1
    have := (sysB_facts hs).1
    simp at h1
    omega
  have hlen : (nsOf zs).length = 2 * zs.length := nsOf_length zs
  have hz8 := (sysB_facts hs).2.1
  have hbz := bl_size (nsOf zs) (nsOf_lt zs hf)
  have hlz : (line (nsOf zs)).size + 1 = (bl (nsOf zs)).size := by
    have := congrArg ByteArray.size hlin
    rw [ByteArray.size_append, ByteArray.size_append, ByteArray.size_append] at this
    have e1 : (⟨#[32]⟩ : ByteArray).size = 1 := rfl
    omega
  have hT := fun w hE hR => c_told ⟨#[99, 108, 97, 115, 115, 101, 115]⟩ (-1) 46 0 (nsOf zs) R hne (by omega) (nsOf_lt zs hf) (by omega) (⟨#[99, 108, 97, 115, 115, 101, 115]⟩ ++ bl (nsOf zs)) (by rw [ByteArray.size_append]; show 7 + _ ≤ _; omega) (by
    rw [hlin, ByteArray.data_append, ByteArray.data_append, Array.toList_append, Array.toList_append]
    exact cut_kw [99, 108, 97, 115, 115, 101, 115] _ (by decide)) (by decide) (.inl rfl) (by rfl) w hE hR
  have HU := Lib.hid (fun B1 g cap W (h1 : Ben W b B0 zs0) (h2 : OwnI W B1 3 (.slice (some ⟨g, 0, none⟩) (nsOf zs).length cap) (ints (nsOf zs))) (h3 : B0 ≤ W.heap.size) => c_wClasses b B0 B1 g cap zs zs0 hs hf W h1 h2 h3)
  clear hlin hs hf hlen hz8 hbz hlz hne
  generalize ⟨#[99, 108, 97, 115, 115, 101, 115]⟩ ++ bl (nsOf zs) = T at *
  generalize nsOf zs = ns at *
  go_enter_defers Tryz.func29, Tryz.ntmps29
  have hb0 : Below w.heap.size w (w.alloc (.cells #[.string ⟨#[]⟩] 9)) := ba (Below.refl _ _) _
  have hRl := (Array.getElem?_eq_some_iff.1 hR).1
  go_wp2_with fail
  refine (hT _ (hE.keep hb0) ((hb0.block R hRl).trans hR)).mono ?_
  rintro e w1 ⟨g, cap, rfl, hO1, hb1⟩
  have hst := st_new w1 (.func 46) (-1) 75
  have hbW : Below w.heap.size w w1 := hb0.trans (hb1.mono hb0.size)
  have hb2 : Below w1.heap.size w1 (w1.alloc (.cells #[.int .i64 (-1), .func (.func 46) #[] #[]] 75)) := ba (Below.refl _ _) _
  have hE2 := (hE.keep hbW).keep hb2
  have hBn2 := (hB.keep hbW).keep hb2
  have hsz2 : w.heap.size ≤ (w1.alloc (.cells #[.int .i64 (-1), .func (.func 46) #[] #[]] 75)).heap.size := Nat.le_trans hbW.size hb2.size
  have hO2 := hO1.keep hb2
  have hU := HU.out _ g cap _ hBn2 hO2 (Nat.le_trans hw hsz2)
  clear hO1 hO2
  clear hT hE2 hBn2
  go_wp2_with fail
  refine hU.mono ?_
  rintro e w2 ⟨rfl, hBn3, hb3⟩
  have hkk : KpB w1.heap.size b w1 w2 := (KpB.of_below hb2).trans (hb3.mono hb2.size)
  have hk4 : KpB (w.heap.size + 1) b (w.alloc (.cells #[.string ⟨#[]⟩] 9)) w2 := (KpB.of_below (hb1.mono (by rw [World.size_alloc]; exact Nat.le_refl _))).trans (hkk.mono (by have := hb1.size; rw [World.size_alloc] at this; exact this))
  have hbl : b < w.heap.size := by obtain ⟨v, h1, _⟩ := hB; exact h1.lt
  have hbx : Boxed w2 w.heap.size 9 (.string ⟨#[]⟩) := (hk4.block w.heap.size (by omega) (by omega)).trans (Boxed.new w 9 (.string ⟨#[]⟩))
  have r0 := hbx.cell
  have r1 := hbx.frozen
  have hfin := (KpB.of_below (U := b) hb0).trans (hk4.mono (Nat.le_succ _))
  have r2 := set_hit (v := .string ⟨#[111, 107]⟩) r0
  have hBf : Ben (w2.setCell ⟨w.heap.size, 0, none⟩ (.string ⟨#[111, 107]⟩)) b B0 zs := by
    obtain ⟨v, h1, h2⟩ := hBn3
    exact ⟨v, h1.other (by omega) _, World.ownsRow.kept h2 (row := some w.heap.size) ⟨rfl, rfl, rfl, by simp [World.setCell], fun k _ hk => Below.heap_setCell _ _ _ _ (fun e => hk (by simp [e]))⟩ (.inr fun e => Boxed.not_row hbx (by decide) h2 e.symm)⟩
  have hkf : KpB w.heap.size b w (w2.setCell ⟨w.heap.size, 0, none⟩ (.string ⟨#[111, 107]⟩)) :=
    ⟨hfin.os, hfin.tape, hfin.output, by have := hfin.size; simpa [World.setCell] using this, fun k hk hn => (Below.heap_setCell _ _ _ _ (show k ≠ w.heap.size by omega)).trans (hfin.block k hk hn)⟩
  clear hU hst hb1 hb2 hb3 hBn3 hbx hk4 hkk
  go_wp2_with fail
  refine leaves_cons (f := 76) (args := #[.pointer (some ⟨w.heap.size, 0, none⟩)]) (by simp) (by simp [go_sem]) ?_
  refine (c_caught (.pointer (some ⟨w.heap.size, 0, none⟩)) _).mono ?_
  rintro e u' w'' ⟨rfl, rfl, rfl⟩
  simp [Leaves, settle, results, Tryz.results29, go_sem, r2]
  exact ⟨hBf, hkf⟩
end Go.Proofs.YtonecelkkeakiaaGreatDoor
namespace Go.Proofs.YtonecelkkeakiaaGreatDoor
open Go.RowKit Go.Shelf
theorem bld_kpB {B b U : Nat} {bs : List Value} {w w' : World} (h : Lib.IsBuilder 51 5 B b bs w) (hb : KpB w.heap.size U w w') (hU : U < B) : Lib.IsBuilder 51 5 B b bs w' := by
  have key : ∀ p, Lib.BuilderAt 51 5 B b p bs w → Lib.BuilderAt 51 5 B b p bs w' := by
    rintro p ⟨h1, v, h2, h3, h4⟩
    refine ⟨h1, v, (hb.block b (Array.getElem?_eq_some_iff.1 h2).1 (by omega)).trans h2, World.ownsRow.kept h3 (row := some U) ⟨hb.os, hb.tape, hb.output, hb.size, fun k hk hn => hb.block k hk (fun e => hn (by rw [e]))⟩ ?_, h4⟩
    refine .inr fun e => ?_
    have := (World.ownsRow.lt h3 U e).1
    omega
  exact h.imp (key _) (key _)
theorem Ben.wrote {w w' : World} {b B0 x : Nat} {zs : List Cl} (h : Ben w b B0 zs) (hbx : b ≠ x) (hx : ∀ k cs f, w.heap[k]? = some (.cells cs 41 f) → k ≠ x) (hk : ∀ k, k < w.heap.size → k ≠ x → ¬ BytesAt w k → w'.heap[k]? = w.heap[k]?) : Ben w' b B0 zs := by
  obtain ⟨v, h1, h2⟩ := h
  refine ⟨v, (hk b h1.lt hbx ?_).trans h1, h2.1, ?_⟩
  · rintro ⟨cs, f, e⟩
    have e2 : w.heap[b]? = _ := h1
    rw [e2] at e
    simp at e
  · rcases h2.2 with h3 | ⟨g, cap, cur, hv, hg, hh, r⟩
    · exact .inl h3
    · refine .inr ⟨g, cap, cur, hv, hg, (hk g (Array.getElem?_eq_some_iff.1 hh).1 (hx g _ _ hh) ?_).trans hh, r⟩
      rintro ⟨cs, f, e⟩
      rw [hh] at e
      simp at e
theorem scr_take (an : List ByteArray) (i : Nat) (h : i < an.length) : scr (an.take (i + 1)) = scr (an.take i) ++ (an[i] ++ ⟨#[10]⟩) := by
  have key : ∀ a b : List ByteArray, scr (a ++ b) = scr a ++ scr b := by
    intro a b
    induction a with
    | nil => simp [scr, e_l]
    | cons x t ih => simp only [List.cons_append, scr, ih, ByteArray.append_assoc]
  rw [List.take_succ_eq_append_getElem h, key]
  simp [scr, e_r]
theorem scr_le (an : List ByteArray) (i : Nat) : (scr (an.take i)).size ≤ (scr an).size := by
  induction an generalizing i with
  | nil => simp
  | cons x t ih =>
    cases i with
    | zero => exact Nat.zero_le _
    | succ i =>
      have := ih i
      simp only [List.take_succ_cons, scr, ByteArray.size_append]
      omega
theorem scr_len : ∀ ls : List ByteArray, ls.length ≤ (scr ls).size
  | [] => Nat.zero_le _
  | l :: r => by
    have := scr_len r
    simp only [scr, ByteArray.size_append, List.length_cons]
    have e : (⟨#[10]⟩ : ByteArray).size = 1 := rfl
    omega
theorem strCells_append (a b : ByteArray) : Lib.strCells (a ++ b) = Lib.strCells a ++ Lib.strCells b := by
  unfold Lib.strCells
  simp [ByteArray.data_append]
set_option maxRecDepth 20000 in
set_option maxHeartbeats 2000000 in
theorem c_runLines (ls an : List ByteArray) (st : Nat → List Cl) (N : Nat) (hla : an.length = ls.length) (h10 : ∀ l ∈ ls, ∀ b ∈ l.data.toList, b ≠ 10) (hs : (scr ls).size ≤ 600) (has : (scr an).size ≤ 100000)
    (h0 : st 0 = [(0, 1)]) (hstN : (st ls.length).length = N) (hN : N < 10000) (w : World) (hE : Env w) (hg : LaidE w)
    (hA : ∀ (i : Nat) (hi : i < ls.length) (b B0 R : Nat) (w : World), Env w → LaidE w → w.heap[R]? = some (cmdM 28) → Ben w b B0 (st i) → B0 ≤ w.heap.size →
      Calls Tryz.prog 29 #[.pointer (some ⟨b, 0, none⟩), .string ls[i], .map (some R)] w fun e w' => e = .returned (.string (an[i]'(by omega))) ∧ Ben w' b B0 (st (i + 1)) ∧ KpB w.heap.size b w w') :
    Calls Tryz.prog 9 #[.string (scr ls)] w fun e w' => e = .returned (.string (scr an ++ (⟨#[99, 108, 97, 115, 115, 101, 115, 32]⟩ ++ txt N ++ ⟨#[10]⟩))) ∧ Below w.heap.size w w' := by
  have hsp := fun w hE => c_split ls h10 (by omega) w hE
  obtain ⟨n, hn⟩ : ∃ n, ls.length = n := ⟨_, rfl⟩
  have hTL := txt_len (n := N) hN
  have HT := Lib.hid (fun i (h : i < n) => scr_take an i (by omega))
  have HL := Lib.hid (fun i => scr_le an i)
  have HE := Lib.hid (show scr (an.take n) = scr an by rw [← hn, ← hla, List.take_length])
  have HAS := Lib.hid has
  have HA := Lib.hid hA
  clear hA
  have hnB : n ≤ 600 := by have := scr_len ls; omega
  have hwn : wrap64 (n : Int) = (n : Int) := by unfold wrap64; omega
  generalize scr ls = S at *
  clear h10
  go_enter Tryz.func9, Tryz.ntmps9
  go_wp2_with (first
    | (go_at_call 25; refine (c_wholeClass _).mono ?_; rintro e w1 ⟨rfl, hb⟩)
    | (go_at_call 26; refine (c_commands _).mono ?_; rintro e w2 ⟨rfl, rfl⟩))
  obtain ⟨W2, hW2⟩ : ∃ W2, ((w1.alloc (.cells #[.int .i64 0, .int .i64 1] 41)).alloc (.cells #[.slice (some ⟨w1.heap.size, 0, none⟩) 1 1] 44)).alloc (cmdM 28) = W2 := ⟨_, rfl⟩
  have hB2 : Below w1.heap.size w1 W2 := by rw [← hW2]; exact ba (ba (ba (Below.refl _ _) _) _) _
  have hz2 : W2.heap.size = w1.heap.size + 3 := by rw [← hW2]; simp
  have hw2 : Ben W2 (w1.heap.size + 1) w1.heap.size [(0, 1)] := by
    rw [← hW2]
    refine ⟨.slice (some ⟨w1.heap.size, 0, none⟩) 1 1, ?_, ?_⟩
    · have h := Boxed.new (w1.alloc (.cells #[.int .i64 0, .int .i64 1] 41)) 44 (.slice (some ⟨w1.heap.size, 0, none⟩) 1 1)
      rw [World.size_alloc] at h
      exact h.alloc _
    · exact World.ownsRow.alloc (World.ownsRow.alloc (World.ownsRow_lit (e := 41) (size := 2) w1 #[.int .i64 0, .int .i64 1] 1 (Nat.le_refl _) (by decide) rfl) _) _
  have hR2 : W2.heap[w1.heap.size + 1 + 1]? = some (cmdM 28) := by
    rw [← hW2]
    have h := heap_alloc_new ((w1.alloc (.cells #[.int .i64 0, .int .i64 1] 41)).alloc (.cells #[.slice (some ⟨w1.heap.size, 0, none⟩) 1 1] 44)) (cmdM 28)
    rw [World.size_alloc, World.size_alloc] at h
    exact h
  have hBw : Below w.heap.size w W2 := hb.trans (hB2.mono hb.size)
  have hE2 := hE.keep hBw
  have hg2 := hg.keep hBw
  rw [hW2]
  clear hW2
  refine (hsp W2 hE2).mono ?_
  rintro e W3 ⟨rfl, hW3⟩
  have hB3 : Below W2.heap.size W2 W3 := by rw [← hW3]; exact ba (Below.refl _ _) _
  have hz3 : W3.heap.size = W2.heap.size + 1 := by rw [← hW3]; simp
  have hln : ∀ i (h : i < n), W3.cell? ⟨W2.heap.size, i, none⟩ = some (.string (ls[i]'(by omega))) := fun i h => by
    rw [← hW3, World.cell?_alloc_mark W2 _ _ _ i]
    simp [List.getElem?_append_left, show i < ls.length by omega]
  clear hW3 hsp
  have HC2 : Hid (2 ≤ w1.heap.size) := Lib.hid (by have := hg.lt; have := hb.size; omega)
  have HCW := Lib.hid hb.size
  generalize w1.heap.size = c at *
  have hB3 : Below (c + 3) W2 W3 := hz2 ▸ hB3
  have hz5 : W3.heap.size = c + 4 := by omega
  clear hz3
  have hln : ∀ i (h : i < n), W3.cell? ⟨c + 3, i, none⟩ = some (.string (ls[i]'(by omega))) := hz2 ▸ hln
  have hbd := Lib.fresh_isBuilder 51 5 W3
  have hB4 : Below W3.heap.size W3 (W3.alloc (.cells #[.pointer none, .slice none 0 0] 51)) := ba (Below.refl _ _) _
  have hln4 := fun i h => keepc hB4 (hln i h)
  obtain ⟨W4, hW4⟩ : ∃ W4, W3.alloc (.cells #[.pointer none, .slice none 0 0] 51) = W4 := ⟨_, rfl⟩
  have hz4 : W4.heap.size = c + 5 := by rw [← hW4, World.size_alloc]; omega
  rw [hW4] at hbd hB4 hln4
  have HW4 := Lib.hid hW4
  clear hW4
  have hbd : Lib.IsBuilder 51 5 (c + 4) (c + 4) [] W4 := hz5 ▸ hbd
  have hB34 : Below (c + 3) W2 W4 := hB3.trans (hB4.mono (by omega))
  have hB34' : Below W2.heap.size W2 W4 := by rw [hz2]; exact hB34
  have hE4 := hE2.keep hB34'
  have hg4 := hg2.keep hB34'
  have hR4 : W4.heap[c + 1 + 1]? = some (cmdM 28) := (hB34.block _ (by omega)).trans hR2
  have hw4 : Ben W4 (c + 1) c (st 0) := by rw [h0]; exact hw2.keep hB34'
  have hBw4 : Below w.heap.size w W4 := hBw.trans (hB34.mono (by have := hBw.size; omega))
  have HZ2 := Lib.hid hz2
  have HZ3 := Lib.hid hz5
  have HZ4 := Lib.hid hz4
  have HLN := Lib.hid hln4
  rw [hz2]
  clear hz2 hz4 hB4 hB3 hB34 hB34' hln hln4 hw2 hR2 hE2 hE hB2 hg2
  rw [hn]
  have hc2 : 2 ≤ c := HC2.out
  go_wp2_with fail
  rw [HW4.out]
  clear hz5
  go_loopw [8, 25] (fun _ kk wr => ∃ i : Nat, i ≤ n ∧ kk = .int .i64 i ∧ Lib.IsBuilder 51 5 (c + 4) (c + 4) (Lib.strCells (scr (an.take i))) wr ∧ Ben wr (c + 1) c (st i) ∧ KpB (c + 4) (c + 1) W4 wr) (fun _ kk _ => n - (intOf kk).toNat)
  case atStart => exact ⟨0, Nat.zero_le _, rfl, hbd, hw4, KpB.refl _ _ _⟩
  case round =>
    obtain ⟨i, hi, rfl, hbd1, hB1, hk1⟩ := hrel
    have hE5 := hE4.kpB hk1 (by omega) (by omega)
    have hg5 : LaidE wr := hg4.kpB hk1 (by omega) (by omega)
    have hz1 := hk1.size
    rw [HZ4.out] at hz1
    by_cases hlt : i < n
    · have hans := HA.out i (by omega) (c + 1) c (c + 1 + 1) wr hE5 hg5 ((hk1.block _ (by omega) (by omega)).trans hR4) hB1 (by omega)
      have hcl : wr.cell? ⟨c + 3, i, none⟩ = some (.string (ls[i]'(by omega))) := by
        rw [← HLN.out i hlt]
        simp only [World.cell?, hk1.block (c + 3) (by omega) (by omega)]
      have ht := HT.out i hlt
      have hl1 := HL.out (i + 1)
      have hl2 := HAS.out
      have HI := Lib.hid hlt
      have HBD := Lib.hid hbd1
      have HK1 := Lib.hid hk1
      clear hE5 hg5 hB1 hi hbd1 hk1
      obtain ⟨A, hA⟩ : ∃ A, an[i]'(by omega) = A := ⟨_, rfl⟩
      obtain ⟨T, hT⟩ : ∃ T, ls[i]'(by omega) = T := ⟨_, rfl⟩
      rw [hA] at hans ht
      rw [hT] at hans hcl
      obtain ⟨O, hO⟩ : ∃ O, scr (an.take i) = O := ⟨_, rfl⟩
      have hsz : (A ++ ⟨#[10]⟩ : ByteArray).size = A.size + 1 := by rw [ByteArray.size_append]; rfl
      rw [ht, hO, ByteArray.size_append, hsz] at hl1
      have HT2 := Lib.hid ht
      have HO := Lib.hid hO
      clear hA hT hO ht
      go_wp2_with (go_at_call 29; refine hans.mono ?_; rintro e w1 ⟨rfl, hBn, hk2⟩)
      have hbd1 := HBD.out
      rw [HO.out] at hbd1
      have q1 := bld_kpB hbd1 hk2 (by omega)
      have q2 : (Lib.strCells O).length + (A ++ ⟨#[10]⟩ : ByteArray).size ≤ 140737488355328 := by rw [hsz, Lib.strCells_length]; omega
      have q3 : c + 4 ≤ w1.heap.size := by have := hk2.size; omega
      have q4 := c_writeString2 (c + 4) (c + 4) (Lib.strCells O) (A ++ ⟨#[10]⟩) w1 q1 q2 q3
      have hty : ∀ k cs f, w1.heap[k]? = some (.cells cs 41 f) → k ≠ c + 4 := by
        rintro k cs f h rfl
        rcases q1 with ⟨_, v, h2, _⟩ | ⟨_, v, h2, _⟩
        · rw [h] at h2; simp at h2
        · rw [h] at h2; simp at h2
      refine q4.mono ?_
      clear q4
      rintro e w5 ⟨rfl, hbd2, hb2, hkk⟩
      have HBN5 := Lib.hid (hBn.wrote (b := c + 1) (x := c + 4) (by omega) hty hkk)
      have HK5 := Lib.hid ((HK1.out.trans (hk2.mono (by omega))).trans (KpB.of_below (U := c + 1) hb2))
      have HBD2 := Lib.hid hbd2
      clear hans hkk hb2 hBn hk2 hbd2 hty q1 q2 q3 hbd1
      go_wp2_with fail
      go_roundw
      case rel => exact ⟨i + 1, HI.out, by go_num, .inr (by rw [HT2.out, HO.out, strCells_append]; exact HBD2.out), HBN5.out, HK5.out⟩
      case measure => have := HI.out; simp [intOf]; omega
    · have hin : i = n := by omega
      subst hin
      obtain ⟨v, hbx, hOv⟩ := hB1
      obtain ⟨s, cap, rfl, _⟩ := hOv.spread
      rw [← hn, hstN] at hbx
      have hc5 := hbx.cell
      have hit := c_itoa N (by omega) wr hE5
      have hE0 := HE.out
      rw [hE0] at hbd1
      have HBD := Lib.hid hbd1
      have HK1 := Lib.hid hk1
      clear hbd1 hE5 hg5 hOv hk1 hE0
      obtain ⟨O, hO⟩ : ∃ O, scr an = O := ⟨_, rfl⟩
      have hl2 := HAS.out
      rw [hO] at hl2
      obtain ⟨X, hX⟩ : ∃ X, (⟨#[99, 108, 97, 115, 115, 101, 115, 32]⟩ ++ txt N ++ ⟨#[10]⟩ : ByteArray) = X := ⟨_, rfl⟩
      have hXs : X.size = 9 + (txt N).size := by
        rw [← hX, ByteArray.size_append, ByteArray.size_append]
        show 8 + (txt N).size + 1 = _
        omega
      have HX := Lib.hid hX
      have HO := Lib.hid hO
      clear hX hO
      go_wp2_with (go_at_call 30; refine (hit).mono ?_; rintro e w1 ⟨rfl, hb⟩)
      rw [HX.out]
      have hbd1 := HBD.out
      rw [HO.out] at hbd1
      have q1 := bld_keep hbd1 hb
      have q2 : (Lib.strCells O).length + X.size ≤ 140737488355328 := by rw [Lib.strCells_length]; omega
      have q3 : c + 4 ≤ w1.heap.size := by have := hb.size; omega
      have q4 := c_writeString (c + 4) (c + 4) (Lib.strCells O) X w1 q1 q2 q3
      refine q4.mono ?_
      clear q4
      rintro e w5 ⟨rfl, hbd2, hb2⟩
      have q5 : Lib.IsBuilder 51 5 (c + 4) (c + 4) (Lib.byteCells (O.data.toList ++ X.data.toList)) w5 := by
        refine .inr ?_
        have e : Lib.byteCells (O.data.toList ++ X.data.toList) = Lib.strCells O ++ Lib.strCells X := by
          rw [Lib.strCells_eq, Lib.strCells_eq]
          unfold Lib.byteCells
          rw [List.map_append]
        rw [e]
        exact hbd2
      have hXne : O.data.toList ++ X.data.toList ≠ [] := by
        intro e
        have h1 : X.data.toList.length = X.size := by rw [Array.length_toList]; rfl
        have h2 : (O.data.toList ++ X.data.toList).length = 0 := by rw [e]; rfl
        rw [List.length_append, h1] at h2
        omega
      have q6 := Tryz.Builder_String (c + 4) (c + 4) _ w5 q5 hXne
      have e7 : (⟨(O.data.toList ++ X.data.toList).toArray⟩ : ByteArray) = O ++ X := by
        apply ByteArray.ext
        simp [ByteArray.data_append]
      rw [e7] at q6
      have hbe : Below w.heap.size w w5 := by
        have h1 := HCW.out
        exact hBw4.trans ((HK1.out.below (by omega) (by omega)).trans ((hb.mono (by omega)).trans (hb2.mono (by omega))))
      clear q5 q1 q2 q3 hbd2 hbd1
      go_wp2_with (first
        | (go_at_call 31; refine q6.mono ?_; rintro e w6 ⟨rfl, hb6⟩))
      go_ret
      exact ⟨by rw [← HO.out, ← HX.out]; rfl, hbe.trans (hb6.mono (by have := HCW.out; omega))⟩
end Go.Proofs.YtonecelkkeakiaaGreatDoor
namespace Go.Proofs.YtonecelkkeakiaaGreatDoor
open Go.RowKit
theorem fit_of_all {zs : List Cl} (h : allB zs = true) : fitB zs := fun k hk => by
  obtain ⟨h1, h2, h3, h4⟩ := inB_iff.1 (allB_at h k hk)
  omega
theorem no10_lit {l : ByteArray} (h : (l.data.toList.all fun b => b != 10) = true) : ∀ b ∈ l.data.toList, b ≠ 10 := fun b hb e => by
  have := List.all_eq_true.1 h b hb
  rw [e] at this
  exact absurd this (by decide)
theorem bl_no10 : ∀ ns : List Nat, ∀ b ∈ (bl ns).data.toList, b ≠ 10
  | [], b, hb => by simp [bl] at hb
  | n :: r, b, hb => by
    have e : (bl (n :: r)).data.toList = 32 :: (Lib.decDigits n ++ (bl r).data.toList) := by
      show (⟨#[32]⟩ ++ (txt n ++ bl r) : ByteArray).data.toList = _
      simp [ByteArray.data_append, txt_list]
    rw [e] at hb
    rcases List.mem_cons.1 hb with rfl | hb
    · decide
    · rcases List.mem_append.1 hb with hb | hb
      · intro e
        have := dec_all n b hb
        rw [e] at this
        exact absurd this (by decide)
      · exact bl_no10 r b hb
theorem c_runThree (l0 l1 l2 a0 a1 a2 : ByteArray) (z1 z2 z3 : List Cl) (N : Nat) (h10 : ∀ l ∈ [l0, l1, l2], ∀ b ∈ l.data.toList, b ≠ 10) (hs : (scr [l0, l1, l2]).size ≤ 600) (has : (scr [a0, a1, a2]).size ≤ 100000) (hz : z3.length = N) (hN : N < 10000) (w : World) (hE : Env w) (hg : LaidE w)
    (hA0 : ∀ (b B0 R : Nat) (w : World), Env w → LaidE w → w.heap[R]? = some (cmdM 28) → Ben w b B0 [(0, 1)] → B0 ≤ w.heap.size → Calls Tryz.prog 29 #[.pointer (some ⟨b, 0, none⟩), .string l0, .map (some R)] w fun e w' => e = .returned (.string a0) ∧ Ben w' b B0 z1 ∧ KpB w.heap.size b w w')
    (hA1 : ∀ (b B0 R : Nat) (w : World), Env w → LaidE w → w.heap[R]? = some (cmdM 28) → Ben w b B0 z1 → B0 ≤ w.heap.size → Calls Tryz.prog 29 #[.pointer (some ⟨b, 0, none⟩), .string l1, .map (some R)] w fun e w' => e = .returned (.string a1) ∧ Ben w' b B0 z2 ∧ KpB w.heap.size b w w')
    (hA2 : ∀ (b B0 R : Nat) (w : World), Env w → LaidE w → w.heap[R]? = some (cmdM 28) → Ben w b B0 z2 → B0 ≤ w.heap.size → Calls Tryz.prog 29 #[.pointer (some ⟨b, 0, none⟩), .string l2, .map (some R)] w fun e w' => e = .returned (.string a2) ∧ Ben w' b B0 z3 ∧ KpB w.heap.size b w w') :
    Calls Tryz.prog 9 #[.string (scr [l0, l1, l2])] w fun e w' => e = .returned (.string (scr [a0, a1, a2] ++ (⟨#[99, 108, 97, 115, 115, 101, 115, 32]⟩ ++ txt N ++ ⟨#[10]⟩))) ∧ Below w.heap.size w w' := by
  refine c_runLines [l0, l1, l2] [a0, a1, a2] (fun k => match k with | 0 => [(0, 1)] | 1 => z1 | 2 => z2 | _ => z3) N rfl h10 hs has rfl hz hN w hE hg ?_
  intro i hi b B0 R W hE hg hR hB hw
  match i, hi with
  | 0, _ => exact hA0 b B0 R W hE hg hR hB hw
  | 1, _ => exact hA1 b B0 R W hE hg hR hB hw
  | 2, _ => exact hA2 b B0 R W hE hg hR hB hw
  | i + 3, h => exact absurd h (by simp)
set_option maxRecDepth 20000 in
theorem c_runShare (zs : List Cl) (H : Nat) (hs : sysB zs = true) (hH : shrI zs = (H : Int)) (hH2 : H ≤ 8000) (w : World) (hE : Env w) (hg : LaidE w) :
    Calls Tryz.prog 9 #[.string (⟨#[99, 108, 97, 115, 115, 101, 115]⟩ ++ bl (nsOf zs) ++ ⟨#[10, 115, 104, 97, 114, 101, 10, 115, 111, 114, 116, 10]⟩)] w fun e w' =>
      e = .returned (.string (⟨#[111, 107, 10]⟩ ++ txt H ++ ⟨#[10, 111, 107, 10, 99, 108, 97, 115, 115, 101, 115, 32]⟩ ++ txt zs.length ++ ⟨#[10]⟩)) ∧ Below w.heap.size w w' := by
  obtain ⟨l1, l2, ha, _⟩ := sysB_facts hs
  have hf := fit_of_all ha
  have hz : (bl (nsOf zs)).size ≤ 80 := by
    have h := tld_size zs hf zs.length (Nat.le_refl _)
    unfold tld at h
    rw [List.take_length] at h
    omega
  have hHl := txt_len (n := H) (by omega)
  have e1 : (⟨#[99, 108, 97, 115, 115, 101, 115]⟩ ++ bl (nsOf zs) ++ ⟨#[10, 115, 104, 97, 114, 101, 10, 115, 111, 114, 116, 10]⟩ : ByteArray) = scr [⟨#[99, 108, 97, 115, 115, 101, 115]⟩ ++ bl (nsOf zs), ⟨#[115, 104, 97, 114, 101]⟩, ⟨#[115, 111, 114, 116]⟩] := by
    apply ByteArray.ext
    simp [scr, ByteArray.data_append]
  have e2 : (⟨#[111, 107, 10]⟩ ++ txt H ++ ⟨#[10, 111, 107, 10, 99, 108, 97, 115, 115, 101, 115, 32]⟩ ++ txt zs.length ++ ⟨#[10]⟩ : ByteArray) = scr [⟨#[111, 107]⟩, txt H, ⟨#[111, 107]⟩] ++ (⟨#[99, 108, 97, 115, 115, 101, 115, 32]⟩ ++ txt zs.length ++ ⟨#[10]⟩) := by
    have h1 : (⟨#[111, 107, 10]⟩ : ByteArray) = ⟨#[111, 107]⟩ ++ ⟨#[10]⟩ := rfl
    have h2 : (⟨#[10, 111, 107, 10, 99, 108, 97, 115, 115, 101, 115, 32]⟩ : ByteArray) = ⟨#[10]⟩ ++ (⟨#[111, 107]⟩ ++ (⟨#[10]⟩ ++ ⟨#[99, 108, 97, 115, 115, 101, 115, 32]⟩)) := rfl
    rw [h1, h2]
    simp only [scr, ByteArray.append_assoc, e_l]
  rw [e1, e2]
  have hA0 := fun b B0 R W hE (_ : LaidE W) hR hB hw => c_ansClasses zs hs hf b B0 R [(0, 1)] W hE hR hB hw
  have hA1 := fun b B0 R W hE (_ : LaidE W) hR hB (_ : B0 ≤ W.heap.size) => c_ansShare b B0 R H zs hs hH hH2 W hE hR hB
  have hA2 := fun b B0 R W hE hg hR hB hw => c_ansSort b B0 R zs hs W hE hg hR hB hw
  have hl0 : ∀ b ∈ (⟨#[99, 108, 97, 115, 115, 101, 115]⟩ ++ bl (nsOf zs) : ByteArray).data.toList, b ≠ 10 := by
    intro b hb
    rw [ByteArray.data_append, Array.toList_append] at hb
    rcases List.mem_append.1 hb with hb | hb
    · exact no10_lit (l := ⟨#[99, 108, 97, 115, 115, 101, 115]⟩) (by decide) b hb
    · exact bl_no10 _ b hb
  have hl1 : ∀ b ∈ (⟨#[115, 104, 97, 114, 101]⟩ : ByteArray).data.toList, b ≠ 10 := no10_lit (by decide)
  have hl2 : ∀ b ∈ (⟨#[115, 111, 114, 116]⟩ : ByteArray).data.toList, b ≠ 10 := no10_lit (by decide)
  have s0 : (⟨#[99, 108, 97, 115, 115, 101, 115]⟩ ++ bl (nsOf zs) : ByteArray).size ≤ 87 := by rw [ByteArray.size_append]; show 7 + _ ≤ _; omega
  have s1 : (⟨#[115, 104, 97, 114, 101]⟩ : ByteArray).size = 5 := rfl
  have s2 : (⟨#[115, 111, 114, 116]⟩ : ByteArray).size = 4 := rfl
  have s3 : (⟨#[111, 107]⟩ : ByteArray).size = 2 := rfl
  have s4 : (⟨#[10]⟩ : ByteArray).size = 1 := rfl
  have s5 : (⟨#[]⟩ : ByteArray).size = 0 := rfl
  clear e1 e2
  generalize (⟨#[99, 108, 97, 115, 115, 101, 115]⟩ ++ bl (nsOf zs) : ByteArray) = L0 at *
  generalize (⟨#[115, 104, 97, 114, 101]⟩ : ByteArray) = L1 at *
  generalize (⟨#[115, 111, 114, 116]⟩ : ByteArray) = L2 at *
  generalize (⟨#[111, 107]⟩ : ByteArray) = OK at *
  generalize txt H = TH at *
  refine c_runThree L0 L1 L2 OK TH OK zs zs (srtL zs) zs.length ?_ ?_ ?_ (srtL_length zs) (by omega) w hE hg hA0 hA1 hA2
  · intro l hl
    simp only [List.mem_cons, List.not_mem_nil, or_false] at hl
    rcases hl with rfl | rfl | rfl
    · exact hl0
    · exact hl1
    · exact hl2
  · simp only [scr, ByteArray.size_append, s4, s5]
    omega
  · simp only [scr, ByteArray.size_append, s4, s5]
    omega
set_option maxRecDepth 20000 in
set_option maxHeartbeats 4000000 in
theorem w_FnExecuteShare (s : Option Addr) (len cap : Nat) (w : World) (hE : Env w) (hg : LaidE w) (h : Code0 w s len cap) : Calls Tryz.prog 6 #[.slice s len cap] w fun e w' => e = .returned (.bool true) ∧ Below w.heap.size w w' := by
  have hlc := h.lc
  have hcm := h.cm
  unfold maxLen at hcm
  by_cases hlen : len ≤ 1048576
  · go_enter Tryz.func6, Tryz.ntmps6
    go_wp2_with fail
    refine (c_DrawSystemShare s len cap _ h).mono ?_
    rintro e w1 ⟨v, zs, rfl, hO, hl, hb1⟩
    obtain ⟨so, co, rfl, hC, hc1, hc2⟩ := hO.all
    obtain ⟨n, hn⟩ : ∃ n, zs.length = n := ⟨_, rfl⟩
    rw [hn] at hC hc1 hl ⊢
    clear hO
    have hcon := c_implSystemShare so n co zs (by omega) _ hC
    have hcos := fun w1 (h1 : Cls w1 so n zs) => c_specSystemShare so n co zs (by omega) w1 h1
    have hE1 := hE.keep hb1
    have hg1 := hg.keep hb1
    cases hs : sysB zs
    · rw [hs] at hcon hcos
      go_wp2_with fail
      refine hcon.mono ?_
      rintro e w2 ⟨rfl, hb2⟩
      go_wp2_with fail
      refine (hcos _ (hC.keep hb2)).mono ?_
      rintro e w3 ⟨rfl, hb3⟩
      go_wp2_with fail
      go_ret
      exact ⟨rfl, bt2 (bt2 hb1 hb2) hb3⟩
    · rw [hs] at hcon hcos
      obtain ⟨H, hH, hH2⟩ := shrI_nat hs
      have hrun := fun w hE hg => c_runShare zs H hs hH hH2 w hE hg
      have htld := fun w (h : Cls w so n zs) => c_told2 so n co zs (by omega) (fit_of_all (sysB_facts hs).2.2.1) w h
      have hsel : selI true (shrI zs) = (H : Int) := by rw [selI_t]; exact hH
      have hD1 := fun w => c_digits H (by omega) w
      have hD2 := fun w => c_digits n (by have := (sysB_facts hs).2.1; omega) w
      rw [hsel] at hcon hcos
      rw [hn] at hrun
      have hz : (bl (nsOf zs)).size ≤ 80 := by
        have h := tld_size zs (fit_of_all (sysB_facts hs).2.2.1) zs.length (Nat.le_refl _)
        unfold tld at h
        rw [List.take_length] at h
        have := (sysB_facts hs).2.1
        omega
      have hHl := txt_len (n := H) (by omega)
      have hNl := txt_len (n := n) (by have := (sysB_facts hs).2.1; omega)
      clear hsel hH
      generalize bl (nsOf zs) = TB at *
      generalize txt H = TH at *
      generalize txt n = TN at *
      go_wp2_with fail
      refine hcon.mono ?_
      rintro e w2 ⟨rfl, hb2⟩
      have hC2 := hC.keep hb2
      have hE2 := hE1.keep hb2
      have hg2 := hg1.keep hb2
      go_wp2_with fail
      refine (hcos _ hC2).mono ?_
      rintro e w3 ⟨rfl, hb3⟩
      have hC3 := hC2.keep hb3
      have hB3 := bt2 (bt2 hb1 hb2) hb3
      have hE3 := hE2.keep hb3
      have hg3 := hg2.keep hb3
      clear hcon hcos hC hC2 hE1 hE2 hg1 hg2
      go_wp2_with fail
      refine (htld _ hC3).mono ?_
      rintro e w4 ⟨rfl, hb4⟩
      have hE4 := hE3.keep hb4
      have hg4 := hg3.keep hb4
      have hB4 := bt2 hB3 hb4
      clear htld hE3 hg3 hC3
      go_wp2_with fail
      refine (hrun _ hE4 hg4).mono ?_
      rintro e w5 ⟨rfl, hb5⟩
      have hB5 := bt2 hB4 hb5
      clear hrun
      go_wp2_with fail
      refine (hD1 _).mono ?_
      rintro e w6 ⟨rfl, hb6⟩
      have hB6 := bt2 hB5 hb6
      go_wp2_with fail
      refine (hD2 _).mono ?_
      rintro e w7 ⟨rfl, hb7⟩
      have hB7 := bt2 hB6 hb7
      go_wp2_with fail
      go_ret
      exact ⟨rfl, hB7⟩
  · go_enter Tryz.func6, Tryz.ntmps6
    go_wp2_with fail
    go_ret
    exact ⟨rfl, Below.refl _ _⟩
end Go.Proofs.YtonecelkkeakiaaGreatDoor
