/- Plain facts on lists of classes as they lie in memory: two cells a class; no function of the program is named here. -/
import Derived.Test.YtgdpebnnmklbjaaMath
import Derived.Laws.OwnMore
import Derived.OwnWalk
namespace Go.Proofs.Ytgdpebnnmklbjaa
open Go.RowKit
/-- a class as a pair: its rest, its modulus -/
abbrev Cl := Int × Int
def rAt (zs : List Cl) (i : Nat) : Int := (zs.getD i (0, 0)).1
def mAt (zs : List Cl) (i : Nat) : Int := (zs.getD i (0, 0)).2
def cells2 : List Cl → List Value
  | [] => []
  | c :: t => .int .i64 c.1 :: .int .i64 c.2 :: cells2 t
theorem cells2_length (zs : List Cl) : (cells2 zs).length = zs.length * 2 := by
  induction zs with
  | nil => rfl
  | cons c t ih => simp [cells2, ih]; omega
theorem cells2_append (a b : List Cl) : cells2 (a ++ b) = cells2 a ++ cells2 b := by
  induction a with
  | nil => rfl
  | cons c t ih => simp [cells2, ih]
theorem cells2_0 (zs : List Cl) (i : Nat) (h : i < zs.length) : (cells2 zs)[i * 2]? = some (.int .i64 (rAt zs i)) := by
  induction zs generalizing i with
  | nil => simp at h
  | cons c t ih =>
    cases i with
    | zero => simp [cells2, rAt]
    | succ i =>
      have := ih i (by simpa using h)
      rw [show (i + 1) * 2 = i * 2 + 1 + 1 by omega]
      simpa [cells2, rAt] using this
theorem cells2_1 (zs : List Cl) (i : Nat) (h : i < zs.length) : (cells2 zs)[i * 2 + 1]? = some (.int .i64 (mAt zs i)) := by
  induction zs generalizing i with
  | nil => simp at h
  | cons c t ih =>
    cases i with
    | zero => simp [cells2, mAt]
    | succ i =>
      have := ih i (by simpa using h)
      rw [show (i + 1) * 2 + 1 = i * 2 + 1 + 1 + 1 by omega]
      simpa [cells2, mAt] using this
theorem cells2_set (zs : List Cl) (i : Nat) (r m : Int) (h : i < zs.length) : ((cells2 zs).set (i * 2) (.int .i64 r)).set (i * 2 + 1) (.int .i64 m) = cells2 (zs.set i (r, m)) := by
  induction zs generalizing i with
  | nil => simp at h
  | cons c t ih =>
    cases i with
    | zero => simp [cells2]
    | succ i =>
      have := ih i (by simpa using h)
      rw [show (i + 1) * 2 = i * 2 + 1 + 1 by omega]
      simpa [cells2] using this
theorem cells2_set0 (zs : List Cl) (i : Nat) (r : Int) (h : i < zs.length) : (cells2 zs).set (i * 2) (.int .i64 r) = cells2 (zs.set i (r, mAt zs i)) := by
  rw [← cells2_set zs i r _ h]
  symm
  have h1 : ((cells2 zs).set (i * 2) (.int .i64 r))[i * 2 + 1]? = some (.int .i64 (mAt zs i)) := by
    rw [List.getElem?_set_ne (by omega), cells2_1 zs i h]
  obtain ⟨hl, h2⟩ := List.getElem?_eq_some_iff.1 h1
  rw [← h2, List.set_getElem_self]
theorem cells2_set1 (zs : List Cl) (i : Nat) (m : Int) (h : i < zs.length) : (cells2 zs).set (i * 2 + 1) (.int .i64 m) = cells2 (zs.set i (rAt zs i, m)) := by
  rw [← cells2_set zs i _ m h]
  have h1 : (cells2 zs)[i * 2]? = some (.int .i64 (rAt zs i)) := cells2_0 zs i h
  obtain ⟨hl, h2⟩ := List.getElem?_eq_some_iff.1 h1
  rw [← h2, List.set_getElem_self]
/-- a slice of classes that is read: where its cells lie -/
structure Cls (w : World) (s : Option Addr) (n : Nat) (zs : List Cl) : Prop where
  len : zs.length = n
  lies : n = 0 ∨ ∃ b off, s = some ⟨b, off, none⟩ ∧ b < w.heap.size ∧ ∀ i, i < n → w.cell? ⟨b, off + i * 2, none⟩ = some (.int .i64 (rAt zs i)) ∧ w.cell? ⟨b, off + i * 2 + 1, none⟩ = some (.int .i64 (mAt zs i))
theorem Cls.keep {w w' : World} {s : Option Addr} {n : Nat} {zs : List Cl} (h : Cls w s n zs) (k : Below w.heap.size w w') : Cls w' s n zs := by
  refine ⟨h.len, ?_⟩
  rcases h.lies with h0 | ⟨b, off, hs, hb, hc⟩
  · exact .inl h0
  · refine .inr ⟨b, off, hs, Nat.lt_of_lt_of_le hb k.size, fun i hi => ?_⟩
    rw [k.cell (p := ⟨b, off + i * 2, none⟩) hb, k.cell (p := ⟨b, off + i * 2 + 1, none⟩) hb]
    exact hc i hi
theorem Cls.keepB {w w' : World} {s : Option Addr} {n B : Nat} {zs : List Cl} (h : Cls w s n zs) (k : Below B w w') (hB : ∀ b off, s = some ⟨b, off, none⟩ → b < B) : Cls w' s n zs := by
  refine ⟨h.len, ?_⟩
  rcases h.lies with h0 | ⟨b, off, hs, hb, hc⟩
  · exact .inl h0
  · refine .inr ⟨b, off, hs, Nat.lt_of_lt_of_le hb k.size, fun i hi => ?_⟩
    rw [k.cell (p := ⟨b, off + i * 2, none⟩) (hB b off hs), k.cell (p := ⟨b, off + i * 2 + 1, none⟩) (hB b off hs)]
    exact hc i hi
/-- a row of the call's own -/
def OwnC (w : World) (base : Nat) (e : TypeId) (v : Value) (zs : List Cl) : Prop := w.ownsRow base e 2 v zs.length (cells2 zs)
theorem block_lt {w : World} {g : Nat} {o : Obj} (h : w.heap[g]? = some o) : g < w.heap.size := (Array.getElem?_eq_some_iff.1 h).1
theorem OwnC.cls {w : World} {base g n cap : Nat} {e : TypeId} {zs : List Cl} (h : OwnC w base e (.slice (some ⟨g, 0, none⟩) n cap) zs) : Cls w (some ⟨g, 0, none⟩) n zs ∧ base ≤ g ∧ n ≤ cap := by
  have h' : w.ownsRow base e 2 (.slice (some ⟨g, 0, none⟩) n cap) zs.length (cells2 zs) := h
  rcases h'.2 with ⟨h1, _⟩ | ⟨g', cap', cur, h1, hb, hg, hn, _, _, _⟩
  · simp at h1
  · simp only [Value.slice.injEq, Option.some.injEq, Addr.mk.injEq, and_true] at h1
    obtain ⟨rfl, rfl, rfl⟩ := h1
    refine ⟨⟨rfl, .inr ⟨g, 0, rfl, block_lt hg, fun i hi => ?_⟩⟩, hb, hn⟩
    rw [Nat.zero_add]
    exact ⟨(h'.cellAt (i * 2) (by omega)).trans (cells2_0 zs i hi), (h'.cellAt (i * 2 + 1) (by omega)).trans (cells2_1 zs i hi)⟩
theorem row_keep {w w' : World} {base : Nat} {e : TypeId} {size n : Nat} {v : Value} {xs : List Value} (h : w.ownsRow base e size v n xs) (k : Below w.heap.size w w') : w'.ownsRow base e size v n xs := by
  obtain ⟨h1, h2⟩ := h
  refine ⟨h1, ?_⟩
  rcases h2 with h2 | ⟨g, cap, cur, hv, hg, hh, r⟩
  · exact .inl h2
  · exact .inr ⟨g, cap, cur, hv, hg, by rw [k.block g (block_lt hh)]; exact hh, r⟩
theorem OwnC.keep {w w' : World} {base : Nat} {e : TypeId} {v : Value} {zs : List Cl} (h : OwnC w base e v zs) (k : Below w.heap.size w w') : OwnC w' base e v zs := by
  obtain ⟨h1, h2⟩ := h
  refine ⟨h1, ?_⟩
  rcases h2 with h2 | ⟨g, cap, cur, hv, hg, hh, r⟩
  · exact .inl h2
  · exact .inr ⟨g, cap, cur, hv, hg, by rw [k.block g (block_lt hh)]; exact hh, r⟩
theorem OwnC.low {w : World} {base b2 : Nat} {e : TypeId} {v : Value} {zs : List Cl} (h : OwnC w base e v zs) (k : b2 ≤ base) : OwnC w b2 e v zs := by
  obtain ⟨h1, h2⟩ := h
  refine ⟨h1, ?_⟩
  rcases h2 with h2 | ⟨g, cap, cur, hv, hg, r⟩
  · exact .inl h2
  · exact .inr ⟨g, cap, cur, hv, Nat.le_trans k hg, r⟩
theorem OwnC.cell0 {w : World} {base g n cap : Nat} {e : TypeId} {zs : List Cl} (h : OwnC w base e (.slice (some ⟨g, 0, none⟩) n cap) zs) (hn : zs.length = n) (i : Nat) (hi : i < n) : w.cell? ⟨g, i * 2, none⟩ = some (.int .i64 (rAt zs i)) := by
  subst hn
  exact (World.ownsRow.cellAt h (i * 2) (by omega)).trans (cells2_0 zs i hi)
theorem OwnC.cell1 {w : World} {base g n cap : Nat} {e : TypeId} {zs : List Cl} (h : OwnC w base e (.slice (some ⟨g, 0, none⟩) n cap) zs) (hn : zs.length = n) (i : Nat) (hi : i < n) : w.cell? ⟨g, i * 2 + 1, none⟩ = some (.int .i64 (mAt zs i)) := by
  subst hn
  exact (World.ownsRow.cellAt h (i * 2 + 1) (by omega)).trans (cells2_1 zs i hi)
theorem OwnC.free {w : World} {base g n cap : Nat} {e : TypeId} {zs : List Cl} (h : OwnC w base e (.slice (some ⟨g, 0, none⟩) n cap) zs) (hn : zs.length = n) (j : Nat) : w.frozen? ⟨g, j, none⟩ = false := by
  subst hn
  exact World.ownsRow.frozenAt h j
theorem OwnC.store {w : World} {base g n cap : Nat} {e : TypeId} {zs : List Cl} (h : OwnC w base e (.slice (some ⟨g, 0, none⟩) n cap) zs) (hn : zs.length = n) (i : Nat) (hi : i < n) (r m : Int) :
    OwnC ((w.setCell ⟨g, i * 2, none⟩ (.int .i64 r)).setCell ⟨g, i * 2 + 1, none⟩ (.int .i64 m)) base e (.slice (some ⟨g, 0, none⟩) n cap) (zs.set i (r, m)) := by
  subst hn
  unfold OwnC
  rw [List.length_set, ← cells2_set zs i r m hi]
  exact (World.ownsRow.stored (World.ownsRow.stored h (i * 2) _).1 (i * 2 + 1) _).1
theorem OwnC.store0 {w : World} {base g n cap : Nat} {e : TypeId} {zs : List Cl} (h : OwnC w base e (.slice (some ⟨g, 0, none⟩) n cap) zs) (hn : zs.length = n) (i : Nat) (hi : i < n) (r : Int) :
    OwnC (w.setCell ⟨g, i * 2, none⟩ (.int .i64 r)) base e (.slice (some ⟨g, 0, none⟩) n cap) (zs.set i (r, mAt zs i)) := by
  subst hn
  unfold OwnC
  rw [List.length_set, ← cells2_set0 zs i r hi]
  exact (World.ownsRow.stored h (i * 2) _).1
theorem OwnC.store1 {w : World} {base g n cap : Nat} {e : TypeId} {zs : List Cl} (h : OwnC w base e (.slice (some ⟨g, 0, none⟩) n cap) zs) (hn : zs.length = n) (i : Nat) (hi : i < n) (m : Int) :
    OwnC (w.setCell ⟨g, i * 2 + 1, none⟩ (.int .i64 m)) base e (.slice (some ⟨g, 0, none⟩) n cap) (zs.set i (rAt zs i, m)) := by
  subst hn
  unfold OwnC
  rw [List.length_set, ← cells2_set1 zs i m hi]
  exact (World.ownsRow.stored h (i * 2 + 1) _).1
theorem cells2_rep (n j : Nat) (h : j < n * 2) : (cells2 (List.replicate n (0, 0)))[j]? = some (.int .i64 0) := by
  induction n generalizing j with
  | zero => omega
  | succ n ih =>
    match j, h with
    | 0, _ => simp [List.replicate_succ, cells2]
    | 1, _ => simp [List.replicate_succ, cells2]
    | j + 2, h => simpa [List.replicate_succ, cells2] using ih j (by omega)
theorem madeCells2 (n : Nat) : (madeCells #[.int .i64 0, .int .i64 0] (n * 2)).toList = cells2 (List.replicate n (0, 0)) := by
  apply List.ext_getElem?
  intro j
  by_cases hj : j < n * 2
  · rw [cells2_rep n j hj]
    have h2 : j % 2 = 0 ∨ j % 2 = 1 := by omega
    rcases h2 with h2 | h2 <;> simp [madeCells, hj, h2]
  · rw [List.getElem?_eq_none (by simp [madeCells]; omega), List.getElem?_eq_none (by rw [cells2_length]; simp; omega)]
/-- what toClassS has written after k rounds -/
def preC (zs : List Cl) (k : Nat) : List Cl := zs.take k ++ List.replicate (zs.length - k) (0, 0)
theorem preC_length (zs : List Cl) (k : Nat) (h : k ≤ zs.length) : (preC zs k).length = zs.length := by simp [preC]; omega
theorem preC_zero (zs : List Cl) : preC zs 0 = List.replicate zs.length (0, 0) := by simp [preC]
theorem preC_all (zs : List Cl) : preC zs zs.length = zs := by simp [preC]
theorem preC_succ (zs : List Cl) (k : Nat) (h : k < zs.length) : (preC zs k).set k (rAt zs k, mAt zs k) = preC zs (k + 1) := by
  unfold preC
  have e : zs.length - k = (zs.length - (k + 1)) + 1 := by omega
  rw [List.set_append_right _ _ (by simp; omega), e, List.replicate_succ, List.take_succ_eq_append_getElem h, List.append_assoc]
  have hk : k - (zs.take k).length = 0 := by simp; omega
  rw [hk]
  simp [rAt, mAt, h]
/-- what marking writes: k, k + 1; k + 2, k + 3; .. -/
def markL (K : Int) : Nat → List Cl
  | 0 => []
  | n + 1 => markL K n ++ [(K + 2 * (n : Int), K + 2 * (n : Int) + 1)]
theorem markL_length (K : Int) (n : Nat) : (markL K n).length = n := by
  induction n with
  | zero => rfl
  | succ n ih => simp [markL, ih]
theorem markL_step (K : Int) (zs : List Cl) (k : Nat) (h : k < zs.length) : (markL K k ++ zs.drop k).set k (K + 2 * (k : Int), K + 2 * (k : Int) + 1) = markL K (k + 1) ++ zs.drop (k + 1) := by
  rw [List.set_append_right _ _ (by rw [markL_length]; exact Nat.le_refl _), markL_length, Nat.sub_self, List.drop_eq_getElem_cons h, List.set_cons_zero]
  simp [markL]
theorem markL_lt (K : Int) (n k : Nat) (h : k < n) : (markL K n)[k]? = some (K + 2 * (k : Int), K + 2 * (k : Int) + 1) := by
  induction n with
  | zero => omega
  | succ n ih =>
    by_cases e : k = n
    · subst e
      simp [markL, markL_length]
    · rw [markL, List.getElem?_append_left (by rw [markL_length]; omega)]
      exact ih (by omega)
theorem markL_r (K : Int) (n k : Nat) (h : k < n) : rAt (markL K n) k = K + 2 * (k : Int) := by simp [rAt, markL_lt K n k h]
theorem markL_m (K : Int) (n k : Nat) (h : k < n) : mAt (markL K n) k = K + 2 * (k : Int) + 1 := by simp [mAt, markL_lt K n k h]
theorem OwnC.cases {w : World} {base : Nat} {e : TypeId} {v : Value} {zs : List Cl} (h : OwnC w base e v zs) : (v = .slice none 0 0 ∧ zs = []) ∨ ∃ g cap, v = .slice (some ⟨g, 0, none⟩) zs.length cap ∧ base ≤ g := by
  rcases h.2 with ⟨h1, h2⟩ | ⟨g, cap, cur, hv, hg, _⟩
  · exact .inl ⟨h1, List.eq_nil_of_length_eq_zero h2⟩
  · exact .inr ⟨g, cap, hv, hg⟩
theorem OwnC.nilAt (w : World) (base : Nat) (e : TypeId) : OwnC w base e (.slice none 0 0) [] := World.ownsRow_nil w base e 2
theorem OwnC.spread {w : World} {base : Nat} {e : TypeId} {v : Value} {zs : List Cl} (h : OwnC w base e v zs) : ∃ s cap, v = .slice s zs.length cap ∧ Cls w s zs.length zs ∧ (s = none ∨ ∃ g, s = some ⟨g, 0, none⟩ ∧ base ≤ g ∧ g < w.heap.size) := by
  rcases h.cases with ⟨rfl, rfl⟩ | ⟨g, cap, rfl, hg⟩
  · exact ⟨none, 0, rfl, ⟨rfl, .inl rfl⟩, .inl rfl⟩
  · obtain ⟨hc, _, _⟩ := h.cls
    refine ⟨_, cap, rfl, hc, .inr ⟨g, rfl, hg, ?_⟩⟩
    rcases h.2 with ⟨h1, _⟩ | ⟨g', cap', cur, h1, hb, hg', _⟩
    · simp at h1
    · simp only [Value.slice.injEq, Option.some.injEq, Addr.mk.injEq, and_true] at h1
      obtain ⟨rfl, _, _⟩ := h1
      exact block_lt hg'
theorem OwnC.other {w w' : World} {base : Nat} {e : TypeId} {v : Value} {row : Option Nat} {zs : List Cl} (h : OwnC w base e v zs) (k : w.grownBy w' row) (hne : v.ownBlock = none ∨ v.ownBlock ≠ row) : OwnC w' base e v zs := World.ownsRow.kept h k hne
theorem spreadC {w : World} {base n cap : Nat} {e : TypeId} {s : Option Addr} {zs : List Cl} (h : OwnC w base e (.slice s n cap) zs) : Cls w s zs.length zs := by
  obtain ⟨s', cap', hv, hc, _⟩ := h.spread
  simp only [Value.slice.injEq] at hv
  obtain ⟨rfl, _, _⟩ := hv
  exact hc
theorem spreadM {w : World} {base n cap : Nat} {K : Int} {e : TypeId} {s : Option Addr} (h : OwnC w base e (.slice s n cap) (markL K n)) : Cls w s n (markL K n) := by
  have := spreadC h
  rwa [markL_length] at this
theorem apart2 {base B n m c d g : Nat} {s : Option Addr} (h : s = none ∨ ∃ g, s = some ⟨g, 0, none⟩ ∧ base ≤ g ∧ g < B) (hg : B ≤ g) : (Value.slice s n c).ownBlock = none ∨ (Value.slice s n c).ownBlock ≠ (Value.slice (some ⟨g, 0, none⟩) m d).ownBlock := by
  rcases h with rfl | ⟨g', rfl, _, h⟩
  · exact .inl rfl
  · exact .inr (by simp [Value.ownBlock]; omega)
theorem apart4 {w : World} {B n m c d g x y : Nat} {s : Option Addr} {e : TypeId} {zs : List Cl} (h : s = none ∨ ∃ g, s = some ⟨g, 0, none⟩ ∧ w.heap.size ≤ g ∧ g < B) (hO : OwnC w x e (.slice (some ⟨g, 0, none⟩) m d) zs) : (Value.slice s n c).ownBlock = none ∨ (Value.slice s n c).ownBlock ≠ (Value.slice (some ⟨g, 0, none⟩) y d).ownBlock := by
  have hl := (World.ownsRow.lt hO g rfl).2
  rcases h with rfl | ⟨g', rfl, h, _⟩
  · exact .inl rfl
  · exact .inr (by simp [Value.ownBlock]; omega)
theorem apart24 {w : World} {base B n m c d x : Nat} {s t : Option Addr} {e : TypeId} {zs : List Cl} (h : s = none ∨ ∃ g, s = some ⟨g, 0, none⟩ ∧ base ≤ g ∧ g < B) (hO : OwnC w x e (.slice t m d) zs) (hB : B ≤ x) : (Value.slice s n c).ownBlock = none ∨ (Value.slice s n c).ownBlock ≠ (Value.slice t m d).ownBlock := by
  rcases h with rfl | ⟨g', rfl, _, h⟩
  · exact .inl rfl
  · refine .inr fun e => ?_
    have := (World.ownsRow.lt hO g' (by rw [← e]; rfl)).1
    omega
theorem keepc {W w1 : World} {a : Addr} {v : Value} (hb : Below W.heap.size W w1) (h : W.cell? a = some v) : w1.cell? a = some v := (hb.cell (World.block_lt_of_cell? _ _ h)).trans h
theorem keepf {W w1 : World} {a : Addr} {v : Value} (hb : Below W.heap.size W w1) (h : W.cell? a = some v) (hf : W.frozen? a = false) : w1.frozen? a = false := (hb.frozen (World.block_lt_of_cell? _ _ h)).trans hf
theorem keeps {W w1 : World} {a : Addr} {v : Value} (hb : Below W.heap.size W w1) (h : W.cell? a = some v) : a.block < w1.heap.size := Nat.lt_of_lt_of_le (World.block_lt_of_cell? _ _ h) hb.size
theorem newbox2 {X w1 : World} {a b : Value} {t : TypeId} (hb : Below (X.alloc (.cells #[a, b] t)).drew.heap.size (X.alloc (.cells #[a, b] t)).drew w1) :
    w1.cell? ⟨X.heap.size, 0, none⟩ = some a ∧ w1.cell? ⟨X.heap.size, 1, none⟩ = some b ∧ w1.frozen? ⟨X.heap.size, 0, none⟩ = false ∧ w1.frozen? ⟨X.heap.size, 1, none⟩ = false ∧ X.heap.size < w1.heap.size := by
  have hb' : Below (X.alloc (.cells #[a, b] t)).heap.size (X.alloc (.cells #[a, b] t)) w1 := ⟨hb.os, hb.tape, hb.output, hb.size, hb.block⟩
  exact ⟨kc hb' 0, kc hb' 1, kf hb' 0, kf hb' 1, kz hb'⟩
theorem grown_set {w wr : World} {g : Nat} (h : w.grownBy wr (some g)) (j : Nat) (u : Value) : w.grownBy (wr.setCell ⟨g, j, none⟩ u) (some g) :=
  ⟨h.os, h.tape, h.output, by have := h.size; simpa [World.setCell] using this, fun k hk hne => by
    rw [Below.heap_setCell _ _ _ _ (by intro e; exact hne (by simp [e]))]
    exact h.block k hk hne⟩
/-- it returns v, and has drawn some orders -/
def QRet (w : World) (v : Value) (e : Ending) (w' : World) : Prop := ∃ n, e = .returned v ∧ w' = w.drewN n
theorem drewN_add (w : World) (a b : Nat) : (w.drewN a).drewN b = w.drewN (a + b) := by simp [World.drewN, Nat.add_assoc]
/-! lists of numbers -/
def OwnI (w : World) (base : Nat) (e : TypeId) (v : Value) (zs : List Int) : Prop := w.ownsRow base e 1 v zs.length (zs.map (Value.int .i64))
structure Ints (w : World) (s : Option Addr) (n : Nat) (zs : List Int) : Prop where
  len : zs.length = n
  lies : n = 0 ∨ ∃ b off, s = some ⟨b, off, none⟩ ∧ b < w.heap.size ∧ ∀ i, i < n → w.cell? ⟨b, off + i, none⟩ = some (.int .i64 (zs[i]?.getD 0))
theorem Ints.keep {w w' : World} {s : Option Addr} {n : Nat} {zs : List Int} (h : Ints w s n zs) (k : Below w.heap.size w w') : Ints w' s n zs := by
  refine ⟨h.len, ?_⟩
  rcases h.lies with h0 | ⟨b, off, hs, hb, hc⟩
  · exact .inl h0
  · refine .inr ⟨b, off, hs, Nat.lt_of_lt_of_le hb k.size, fun i hi => ?_⟩
    rw [k.cell (p := ⟨b, off + i, none⟩) hb]
    exact hc i hi
theorem OwnI.keep {w w' : World} {base : Nat} {e : TypeId} {v : Value} {zs : List Int} (h : OwnI w base e v zs) (k : Below w.heap.size w w') : OwnI w' base e v zs := by
  obtain ⟨h1, h2⟩ := h
  refine ⟨h1, ?_⟩
  rcases h2 with h2 | ⟨g, cap, cur, hv, hg, hh, r⟩
  · exact .inl h2
  · exact .inr ⟨g, cap, cur, hv, hg, by rw [k.block g (block_lt hh)]; exact hh, r⟩
theorem OwnI.low {w : World} {base b2 : Nat} {e : TypeId} {v : Value} {zs : List Int} (h : OwnI w base e v zs) (k : b2 ≤ base) : OwnI w b2 e v zs := by
  obtain ⟨h1, h2⟩ := h
  refine ⟨h1, ?_⟩
  rcases h2 with h2 | ⟨g, cap, cur, hv, hg, r⟩
  · exact .inl h2
  · exact .inr ⟨g, cap, cur, hv, Nat.le_trans k hg, r⟩
theorem OwnI.cell {w : World} {base g n cap : Nat} {e : TypeId} {zs : List Int} (h : OwnI w base e (.slice (some ⟨g, 0, none⟩) n cap) zs) (hn : zs.length = n) (i : Nat) (hi : i < n) : w.cell? ⟨g, i, none⟩ = some (.int .i64 (zs[i]?.getD 0)) := by
  subst hn
  rw [World.ownsRow.cellAt h i (by omega)]
  simp [hi]
theorem OwnI.free {w : World} {base g n cap : Nat} {e : TypeId} {zs : List Int} (h : OwnI w base e (.slice (some ⟨g, 0, none⟩) n cap) zs) (hn : zs.length = n) (j : Nat) : w.frozen? ⟨g, j, none⟩ = false := by
  subst hn
  exact World.ownsRow.frozenAt h j
theorem OwnI.store {w : World} {base g n cap : Nat} {e : TypeId} {zs : List Int} (h : OwnI w base e (.slice (some ⟨g, 0, none⟩) n cap) zs) (hn : zs.length = n) (i : Nat) (x : Int) :
    OwnI (w.setCell ⟨g, i, none⟩ (.int .i64 x)) base e (.slice (some ⟨g, 0, none⟩) n cap) (zs.set i x) := by
  subst hn
  unfold OwnI
  rw [List.length_set, List.map_set]
  exact (World.ownsRow.stored h i _).1
theorem OwnI.cases {w : World} {base : Nat} {e : TypeId} {v : Value} {zs : List Int} (h : OwnI w base e v zs) : (v = .slice none 0 0 ∧ zs = []) ∨ ∃ g cap, v = .slice (some ⟨g, 0, none⟩) zs.length cap ∧ base ≤ g := by
  rcases h.2 with ⟨h1, h2⟩ | ⟨g, cap, cur, hv, hg, _⟩
  · exact .inl ⟨h1, List.eq_nil_of_length_eq_zero h2⟩
  · exact .inr ⟨g, cap, hv, hg⟩
theorem OwnI.other {w w' : World} {base : Nat} {e : TypeId} {v : Value} {row : Option Nat} {zs : List Int} (h : OwnI w base e v zs) (k : w.grownBy w' row) (hne : v.ownBlock = none ∨ v.ownBlock ≠ row) : OwnI w' base e v zs := World.ownsRow.kept h k hne
theorem OwnI.ints {w : World} {base g n cap : Nat} {e : TypeId} {zs : List Int} (h : OwnI w base e (.slice (some ⟨g, 0, none⟩) n cap) zs) (hn : zs.length = n) : Ints w (some ⟨g, 0, none⟩) n zs := by
  have hlt : g < w.heap.size := by
    rcases h.2 with ⟨h1, _⟩ | ⟨g', cap', cur, h1, hb, hg, _⟩
    · simp at h1
    · simp only [Value.slice.injEq, Option.some.injEq, Addr.mk.injEq, and_true] at h1
      obtain ⟨rfl, _, _⟩ := h1
      exact block_lt hg
  refine ⟨hn, .inr ⟨g, 0, rfl, hlt, fun i hi => ?_⟩⟩
  rw [Nat.zero_add]
  exact h.cell hn i hi
theorem OwnI.lt {w : World} {base g n cap : Nat} {e : TypeId} {zs : List Int} (h : OwnI w base e (.slice (some ⟨g, 0, none⟩) n cap) zs) : base ≤ g ∧ g < w.heap.size := World.ownsRow.lt h g rfl
theorem OwnI.spread {w : World} {base : Nat} {e : TypeId} {v : Value} {zs : List Int} (h : OwnI w base e v zs) : ∃ s cap, v = .slice s zs.length cap ∧ Ints w s zs.length zs ∧ (s = none ∨ ∃ g, s = some ⟨g, 0, none⟩ ∧ base ≤ g ∧ g < w.heap.size) := by
  rcases h.cases with ⟨rfl, rfl⟩ | ⟨g, cap, rfl, hg⟩
  · exact ⟨none, 0, rfl, ⟨rfl, .inl rfl⟩, .inl rfl⟩
  · exact ⟨_, cap, rfl, h.ints rfl, .inr ⟨g, rfl, hg, h.lt.2⟩⟩
theorem spreadI {w : World} {base n cap : Nat} {e : TypeId} {s : Option Addr} {zs : List Int} (h : OwnI w base e (.slice s n cap) zs) : Ints w s zs.length zs := by
  obtain ⟨s', cap', hv, hc, _⟩ := h.spread
  simp only [Value.slice.injEq] at hv
  obtain ⟨rfl, _, _⟩ := hv
  exact hc
theorem apart24I {w : World} {base B n m c d x : Nat} {s t : Option Addr} {e : TypeId} {zs : List Int} (h : s = none ∨ ∃ g, s = some ⟨g, 0, none⟩ ∧ base ≤ g ∧ g < B) (hO : OwnI w x e (.slice t m d) zs) (hB : B ≤ x) : (Value.slice s n c).ownBlock = none ∨ (Value.slice s n c).ownBlock ≠ (Value.slice t m d).ownBlock := by
  rcases h with rfl | ⟨g', rfl, _, h⟩
  · exact .inl rfl
  · refine .inr fun e => ?_
    have := (World.ownsRow.lt hO g' (by rw [← e]; rfl)).1
    omega
def markI (K : Int) : Nat → List Int
  | 0 => []
  | n + 1 => markI K n ++ [K + (n : Int)]
theorem markI_length (K : Int) (n : Nat) : (markI K n).length = n := by
  induction n with
  | zero => rfl
  | succ n ih => simp [markI, ih]
theorem markI_step (K : Int) (zs : List Int) (k : Nat) (h : k < zs.length) : (markI K k ++ zs.drop k).set k (K + (k : Int)) = markI K (k + 1) ++ zs.drop (k + 1) := by
  rw [List.set_append_right _ _ (by rw [markI_length]; exact Nat.le_refl _), markI_length, Nat.sub_self, List.drop_eq_getElem_cons h, List.set_cons_zero]
  simp [markI]
theorem markI_lt (K : Int) (n k : Nat) (h : k < n) : (markI K n)[k]? = some (K + (k : Int)) := by
  induction n with
  | zero => omega
  | succ n ih =>
    by_cases e : k = n
    · subst e
      simp [markI, markI_length]
    · rw [markI, List.getElem?_append_left (by rw [markI_length]; omega)]
      exact ih (by omega)
theorem spreadMI {w : World} {base n cap : Nat} {K : Int} {e : TypeId} {s : Option Addr} (h : OwnI w base e (.slice s n cap) (markI K n)) : Ints w s n (markI K n) := by
  have := spreadI h
  rwa [markI_length] at this
end Go.Proofs.Ytgdpebnnmklbjaa
