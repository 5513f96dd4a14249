/- What the numbers that come from the iterator say of the first common number. -/
import Derived.Test.YtonecelkkeakiaaGreatDoorMz4
import Derived.Test.YtonecelkkeakiaaGreatDoorE2
import Derived.RangeFuncLeaves
import Derived.RangeFuncBox
import Derived.WalkKit
import Derived.Below
import Derived.OwnWalkIn
namespace Go.Proofs.YtonecelkkeakiaaGreatDoor
open Go.RowKit
theorem numK0 {r m : Int} (h0 : 0 ≤ r) (h1 : r < m) (k : Nat) : numK r m 0 k = r + (k : Int) * m := by
  unfold numK firI
  rw [Int.sub_zero, Int.emod_eq_of_lt h0 h1]; omega
theorem findX_steps {m s n M r : Int} (k : Nat) : ∀ K, (∀ j : Nat, j < k → r + (j : Int) * m < M ∧ ¬ (r + (j : Int) * m) % n = s) → findX m s n M (K + k) r = findX m s n M K (r + (k : Int) * m) := by
  induction k with
  | zero => intro K _; simp
  | succ k ih =>
    intro K h
    have e : K + (k + 1) = (K + 1) + k := by omega
    obtain ⟨h1, h2⟩ := h k (by omega)
    rw [e, ih (K + 1) (fun j hj => h j (by omega)), findX_no h1 h2]
    congr 1
    rw [Int.natCast_add, Int.add_mul]; omega
theorem steps_le {m M r : Int} (hm : 1 ≤ m) (h0 : 0 ≤ r) (hM : M ≤ 1000) (k : Nat) (h : ∀ j : Nat, j < k → r + (j : Int) * m < M) : k ≤ 1000 := by
  rcases Nat.eq_zero_or_pos k with hk | hk
  · omega
  · have := h (k - 1) (by omega)
    have := Int.mul_le_mul_of_nonneg_left hm (Int.natCast_nonneg (k - 1)); omega
theorem met_all {r m s n M : Int} {ys : List Int} (hm : 1 ≤ m) (h0 : 0 ≤ r) (h1 : r < m) (hM : lcmI m n = M) (hl : M ≤ 1000) (hy : NumAll r m 0 M ys) (hn : ∀ y ∈ ys, ¬ y % n = s) : metB m s n r = false := by
  obtain ⟨k, rfl, hk, hj⟩ := hy
  simp only [numK0 h0 h1] at hk hj
  have hk2 := steps_le hm h0 hl k hj
  have e := findX_steps (m := m) (s := s) (n := n) (M := M) (r := r) k (1001 - k) (fun j hjk => ⟨hj j hjk, fun he => hn (numK r m 0 j) (by simp [seqTo]; exact ⟨j, hjk, rfl⟩) (by rw [numK0 h0 h1]; exact he)⟩)
  rw [show 1001 - k + k = 1001 by omega, findX_end _ hk] at e
  exact met_none (k := 1001) (X := r) (M := M) (by unfold metO; rw [hM]) e
theorem met_part {r m s n M x : Int} {ys p : List Int} (hm : 1 ≤ m) (h0 : 0 ≤ r) (h1 : r < m) (hM : lcmI m n = M) (hl : M ≤ 1000) (hy : NumPart r m 0 M ys) (hp : ys = p ++ [x]) (hx : x % n = s) (hn : ∀ y ∈ p, ¬ y % n = s) : metB m s n r = true ∧ metX m s n r = x := by
  obtain ⟨k, rfl, hj⟩ := hy
  rw [seqTo_succ] at hp
  obtain ⟨rfl, h2⟩ := List.append_inj' hp rfl
  obtain rfl : numK r m 0 k = x := by simpa using h2
  simp only [numK0 h0 h1] at hj hx ⊢
  have hk2 := steps_le hm h0 hl (k + 1) hj
  have e := findX_steps (m := m) (s := s) (n := n) (M := M) (r := r) k (1001 - k) (fun j hjk => ⟨hj j (by omega), fun he => hn (numK r m 0 j) (by simp [seqTo]; exact ⟨j, hjk, rfl⟩) (by rw [numK0 h0 h1]; exact he)⟩)
  rw [show 1001 - k + k = 1001 by omega, findX_yes (by omega) (hj k (by omega)) hx] at e
  have e2 : metO m s n r = some (r + (k : Int) * m) := by unfold metO; rw [hM]; exact e
  simp [metB, metX, e2, hM, hl]
end Go.Proofs.YtonecelkkeakiaaGreatDoor
namespace Go.Proofs.YtonecelkkeakiaaGreatDoor
open Go Go.RowKit
def mark (D : Nat) : Deferred := { target := .collected D, args := #[] }
/-- the blocks for deferred calls stand open, each once, from B on -/
def MarksOk (B : Nat) (Ds : List Nat) (w : World) : Prop := Ds.Nodup ∧ ∀ D ∈ Ds, B ≤ D ∧ w.heap[D]? = some (.deferred (some []))
theorem MarksOk.nil (B : Nat) (w : World) : MarksOk B [] w := ⟨List.nodup_nil, by simp⟩
theorem putObj_other {w : World} {l j : Nat} {o : Obj} (h : j < w.heap.size) (hne : j ≠ l) : (w.putObj l o).heap[j]? = w.heap[j]? :=
  (grownBy_putObj' w l o).block j h (fun e => hne (by cases e; rfl))
theorem MarksOk.kept {B : Nat} {Ds : List Nat} {w w' : World} {row : Option Nat} (h : MarksOk B Ds w) (hg : w.grownBy w' row) (hne : ∀ D ∈ Ds, some D ≠ row) : MarksOk B Ds w' :=
  ⟨h.1, fun D hD => ⟨(h.2 D hD).1, by
    have h2 := (h.2 D hD).2
    rw [hg.block D (Array.getElem?_eq_some_iff.1 h2).1 (hne D hD)]; exact h2⟩⟩
theorem MarksOk.cons {B D : Nat} {Ds : List Nat} {w : World} (h : MarksOk B Ds w) (hB : B ≤ D) (hD : w.heap[D]? = some (.deferred (some []))) (hne : D ∉ Ds) : MarksOk B (D :: Ds) w :=
  ⟨List.nodup_cons.2 ⟨hne, h.1⟩, fun D' hD' => by
    rcases List.mem_cons.1 hD' with rfl | h'
    · exact ⟨hB, hD⟩
    · exact h.2 D' h'⟩
theorem leaves_marks {F : Fence} {n : Nat} {P : Program} {fn : Func} {tmps : Array Value} {R : Ending → World → Prop} {B : Nat} (G : World → Prop)
    (hG : ∀ w D, B ≤ D → w.heap[D]? = some (.deferred (some [])) → G w → G (w.putObj D (.deferred none))) (hend : ∀ w, G w → LeavesInM F n P fn tmps R [] .returning w) :
    ∀ (Ds : List Nat) (w : World), MarksOk B Ds w → G w → LeavesInM F n P fn tmps R (Ds.map mark) .returning w := by
  intro Ds
  induction Ds with
  | nil => intro w _ h; exact hend w h
  | cons D Ds ih =>
    intro w hm h
    obtain ⟨hnd, hD⟩ := hm
    obtain ⟨h1, h2⟩ := hD D (List.mem_cons_self ..)
    obtain ⟨n1, n2⟩ := List.nodup_cons.1 hnd
    refine ⟨by simp, .inl ⟨D, _, rfl, run_takeDeferred h2, ih _ ⟨n2, fun D' hD' => ?_⟩ (hG w D h1 h2 h)⟩⟩
    obtain ⟨h3, h4⟩ := hD D' (List.mem_cons_of_mem _ hD')
    refine ⟨h3, ?_⟩
    rw [putObj_other (Array.getElem?_eq_some_iff.1 h4).1 (fun e : D' = D => n1 (by rw [← e]; exact hD'))]
    exact h4
theorem wpListIn_make_full {F : Fence} {n : Nat} {P : Program} (w : World) {ops : Array Oper} {rest : List Oper} {o : Oper} {a : Act} {Q : Exit → Act → World → Prop}
    (hg : o.guard = none) (l c : Operand) (t : TypeId) (hop : o.op = Op.makeSlice t l c)
    (base : Nat) (e : TypeId) (i : TypeInfo) (z : Value) (size : Nat) (h1 : P.underlying t = some (.slice e)) (h2 : P.info? e = some i) (h3 : i.zero = some z) (h4 : i.size = size)
    (kl kc : IntKind) (L C : Int) (m : Nat) (hl : a.eval l = .int kl L) (hc : a.eval c = .int kc C) (hL : L = (m : Int)) (hC : C = (m : Int)) (b2 : i.bytes * m ≤ 281474976710656) (b3 : m ≤ maxLen) (b4 : base ≤ w.heap.size)
    (hK : ∀ w', w'.ownsRow base e size (.slice (some ⟨w.heap.size, 0, none⟩) m m) m (madeCells z.cells (m * size)).toList → w.grownBy w' none → wpListIn F n P ops Q rest (a.put o.dst (.slice (some ⟨w.heap.size, 0, none⟩) m m)) w') :
    wpListIn F n P ops Q (o :: rest) a w := by
  refine wpListIn_plain hg fun K hK' => ?_
  obtain ⟨w', hrun, r1, r2⟩ := run_make_full (P := P) w base t e i z size h1 h2 h3 h4 kl kc m b2 b3 b4
  subst hL
  subst hC
  unfold Oper.wpIn
  refine ⟨?_, ?_⟩
  · simp [Oper.about, hop]
  · rw [Oper.semAt_plain F _ _ (by rw [hop]; intro c hc'; cases hc')]
    simp [execOp, hop, hl, hc, hrun, Result.andThen]
    exact hK' _ _ (hK w' r1 r2)
end Go.Proofs.YtonecelkkeakiaaGreatDoor
namespace Go.Proofs.YtonecelkkeakiaaGreatDoor
open Go.RowKit
/-- c does not stand behind d -/
def leC (c d : Cl) : Prop := c.2 < d.2 ∨ (c.2 = d.2 ∧ c.1 ≤ d.1)
instance (c d : Cl) : Decidable (leC c d) := inferInstanceAs (Decidable (_ ∨ _))
theorem leC_trans {a b c : Cl} (h : leC a b) (k : leC b c) : leC a c := by unfold leC at *; omega
theorem leC_total (a b : Cl) : leC a b ∨ leC b a := by unfold leC; omega
theorem leC_anti {a b : Cl} (h : leC a b) (k : leC b a) : a = b := by
  unfold leC at *
  exact Prod.ext (by omega) (by omega)
theorem leC_refl (a : Cl) : leC a a := by unfold leC; omega
def Asc (l : List Cl) : Prop := l.Pairwise leC
theorem asc_unique : ∀ {l k : List Cl}, Asc l → Asc k → List.Perm l k → l = k := by
  intro l
  induction l with
  | nil => intro k _ _ h; exact h.nil_eq
  | cons a t ih =>
    intro k ha hk h
    cases k with
    | nil => exact absurd h.symm.nil_eq (by simp)
    | cons b u =>
      have e : a = b := by
        obtain ⟨h1, _⟩ := List.pairwise_cons.1 ha
        obtain ⟨h2, _⟩ := List.pairwise_cons.1 hk
        have ma : a ∈ b :: u := h.subset (List.mem_cons_self)
        have mb : b ∈ a :: t := h.symm.subset (List.mem_cons_self)
        rcases List.mem_cons.1 ma with e | ma
        · exact e
        · rcases List.mem_cons.1 mb with e | mb
          · exact e.symm
          · exact leC_anti (h1 b mb) (h2 a ma)
      subst e
      rw [ih (List.pairwise_cons.1 ha).2 (List.pairwise_cons.1 hk).2 (List.Perm.cons_inv h)]
/-- the place of c in the first k of a list, from behind -/
def posI (c : Cl) (l : List Cl) : Nat → Nat
  | 0 => 0
  | k + 1 => if leC (rAt l k, mAt l k) c then k + 1 else posI c l k
theorem posI_le (c : Cl) (l : List Cl) (k : Nat) : posI c l k ≤ k := by
  induction k with
  | zero => exact Nat.le_refl _
  | succ k ih => simp only [posI]; split <;> omega
def insC (c : Cl) (l : List Cl) : List Cl := l.take (posI c l l.length) ++ c :: l.drop (posI c l l.length)
theorem insC_perm (c : Cl) (l : List Cl) : List.Perm (insC c l) (c :: l) := by
  unfold insC
  have := List.perm_middle (a := c) (l₁ := l.take (posI c l l.length)) (l₂ := l.drop (posI c l l.length))
  rwa [List.take_append_drop] at this
theorem insC_length (c : Cl) (l : List Cl) : (insC c l).length = l.length + 1 := by simpa using (insC_perm c l).length_eq
theorem posI_behind {c : Cl} {l : List Cl} (k : Nat) : ∀ j, posI c l k ≤ j → j < k → ¬ leC (rAt l j, mAt l j) c := by
  induction k with
  | zero => intro j _ h; omega
  | succ k ih =>
    intro j h1 h2
    simp only [posI] at h1
    split at h1
    · omega
    · by_cases e : j = k
      · subst e; assumption
      · exact ih j h1 (by omega)
theorem posI_ahead {c : Cl} {l : List Cl} (k : Nat) (h : 0 < posI c l k) : leC (rAt l (posI c l k - 1), mAt l (posI c l k - 1)) c := by
  induction k with
  | zero => simp [posI] at h
  | succ k ih =>
    simp only [posI] at h ⊢
    by_cases hb : leC (rAt l k, mAt l k) c
    · rw [if_pos hb] at h ⊢
      exact hb
    · rw [if_neg hb] at h ⊢
      exact ih h
theorem at_eq {l : List Cl} {j : Nat} (h : j < l.length) : (rAt l j, mAt l j) = l[j] := by simp [rAt, mAt, h]
theorem asc_get {l : List Cl} (h : Asc l) {i j : Nat} (hij : i < j) (hj : j < l.length) : leC (l[i]'(by omega)) l[j] := List.pairwise_iff_getElem.1 h i j (by omega) hj hij
theorem insC_asc {c : Cl} {l : List Cl} (h : Asc l) : Asc (insC c l) := by
  unfold insC Asc
  have hp := posI_le c l l.length
  rw [List.pairwise_append]
  refine ⟨h.sublist (List.take_sublist _ _), ?_, ?_⟩
  · refine List.pairwise_cons.2 ⟨fun d hd => ?_, h.sublist (List.drop_sublist _ _)⟩
    obtain ⟨j, hj, rfl⟩ := List.mem_iff_getElem.1 hd
    rw [List.length_drop] at hj
    rw [List.getElem_drop]
    have := posI_behind (c := c) (l := l) l.length (posI c l l.length + j) (by omega) (by omega)
    rw [at_eq (by omega)] at this
    exact (leC_total _ _).resolve_left this
  · intro a ha d hd
    obtain ⟨i, hi, rfl⟩ := List.mem_iff_getElem.1 ha
    rw [List.length_take] at hi
    rw [List.getElem_take]
    have hac : leC (l[i]'(by omega)) c := by
      have := posI_ahead (c := c) (l := l) l.length (by omega)
      rw [at_eq (by omega)] at this
      by_cases e : i = posI c l l.length - 1
      · simp only [← e] at this; exact this
      · exact leC_trans (asc_get h (show i < posI c l l.length - 1 by omega) (by omega)) this
    rcases List.mem_cons.1 hd with rfl | hd
    · exact hac
    · obtain ⟨j, hj, rfl⟩ := List.mem_iff_getElem.1 hd
      rw [List.length_drop] at hj
      rw [List.getElem_drop]
      exact asc_get h (by omega) (by omega)
/-- the first i put in order, one after another -/
def srtK (zs : List Cl) : Nat → List Cl
  | 0 => []
  | i + 1 => insC (rAt zs i, mAt zs i) (srtK zs i)
def srtL (zs : List Cl) : List Cl := srtK zs zs.length
theorem srtK_asc (zs : List Cl) (i : Nat) : Asc (srtK zs i) := by
  induction i with
  | zero => exact List.Pairwise.nil
  | succ i ih => exact insC_asc ih
theorem srtK_perm (zs : List Cl) (i : Nat) (hi : i ≤ zs.length) : List.Perm (srtK zs i) (zs.take i) := by
  induction i with
  | zero => exact List.Perm.nil
  | succ i ih =>
    simp only [srtK]
    rw [List.take_succ_eq_append_getElem (by omega), ← at_eq (by omega)]
    refine (insC_perm _ _).trans ?_
    exact ((ih (by omega)).cons _).trans (List.perm_append_comm (l₁ := [_]))
theorem srtK_length (zs : List Cl) (i : Nat) (hi : i ≤ zs.length) : (srtK zs i).length = i := by
  rw [(srtK_perm zs i hi).length_eq, List.length_take]
  omega
theorem srtL_perm (zs : List Cl) : List.Perm (srtL zs) zs := by
  have := srtK_perm zs zs.length (Nat.le_refl _)
  rwa [List.take_length] at this
theorem srtL_asc (zs : List Cl) : Asc (srtL zs) := srtK_asc zs _
theorem srtL_length (zs : List Cl) : (srtL zs).length = zs.length := (srtL_perm zs).length_eq
theorem srtL_of {zs ys : List Cl} (h : List.Perm zs ys) (k : Asc ys) : ys = srtL zs := asc_unique k (srtL_asc zs) (h.symm.trans (srtL_perm zs).symm)
end Go.Proofs.YtonecelkkeakiaaGreatDoor
