/- Chapter 7, the model: rows of lists; l7All. -/
import Derived.Test.YtiplnfggiffngaaTi
import Derived.Test.YtiplnfggiffngaaTj
namespace Go.Proofs.Ytiplnfggiffngaa
open Go.RowKit
/-- values that can be read, one after another -/
structure Vals (w : World) (s : Option Addr) (n : Nat) (zs : List Value) : Prop where
  len : zs.length = n
  lies : n = 0 ∨ ∃ b off, s = some ⟨b, off, none⟩ ∧ b < w.heap.size ∧ ∀ i, i < n → w.cell? ⟨b, off + i, none⟩ = some (zs[i]?.getD (.bool false))
theorem Vals.keep {w w' : World} {s : Option Addr} {n : Nat} {zs : List Value} (h : Vals w s n zs) (k : Below w.heap.size w w') : Vals w' s n zs := by
  refine ⟨h.len, ?_⟩
  rcases h.lies with h0 | ⟨b, off, hs, hb, hc⟩
  · exact .inl h0
  · refine .inr ⟨b, off, hs, Nat.lt_of_lt_of_le hb k.size, fun i hi => ?_⟩
    rw [k.cell (p := ⟨b, off + i, none⟩) hb]
    exact hc i hi
theorem OwnV.vals {w : World} {base g n cap : Nat} {e : TypeId} {zs : List Value} (h : OwnV w base e (.slice (some ⟨g, 0, none⟩) n cap) zs) (hn : zs.length = n) : Vals w (some ⟨g, 0, none⟩) n zs :=
  ⟨hn, .inr ⟨g, 0, rfl, h.lt.2, fun i hi => by rw [Nat.zero_add]; exact h.cell hn i hi⟩⟩
theorem Vals.front {w : World} {s : Option Addr} {n k : Nat} {zs : List Value} (h : Vals w s n zs) (hk : k ≤ n) : Vals w s k (zs.take k) := by
  have hlen := h.len
  refine ⟨by rw [List.length_take]; omega, ?_⟩
  rcases h.lies with h0 | ⟨b1, o1, hh, hb1, hcells1⟩
  · left
    omega
  · right
    refine ⟨b1, o1, hh, hb1, fun j hj => ?_⟩
    have := hcells1 j (by omega)
    rw [List.getElem?_take_of_lt hj]
    exact this
theorem Vals.back {w : World} {b off n k : Nat} {zs : List Value} (h : Vals w (some ⟨b, off, none⟩) n zs) (hk : k ≤ n) : Vals w (some ⟨b, off + k, none⟩) (n - k) (zs.drop k) := by
  have hlen := h.len
  refine ⟨by rw [List.length_drop, hlen], ?_⟩
  rcases h.lies with h0 | ⟨b1, o1, hh, hb1, hcells1⟩
  · left
    omega
  · right
    cases hh
    refine ⟨b, off + k, rfl, hb1, fun j hj => ?_⟩
    have := hcells1 (k + j) (by omega)
    rw [List.getElem?_drop, show off + k + j = off + (k + j) by omega]
    exact this
theorem vals_new (w : World) (x : Value) : Vals (w.alloc (.cells #[x] 23)) (some ⟨w.heap.size, 0, none⟩) 1 [x] := by
  refine ⟨rfl, .inr ⟨w.heap.size, 0, rfl, by simp, fun j hj => ?_⟩⟩
  obtain rfl : j = 0 := by omega
  simp
theorem Vals.other {w w' : World} {b n g : Nat} {off : Nat} {zs : List Value} (h : Vals w (some ⟨b, off, none⟩) n zs) (k : w.grownBy w' (some g)) (hne : b ≠ g) : Vals w' (some ⟨b, off, none⟩) n zs := by
  refine ⟨h.len, ?_⟩
  rcases h.lies with h0 | ⟨b1, o1, hs, hb, hc⟩
  · exact .inl h0
  · cases hs
    refine .inr ⟨b, off, rfl, Nat.lt_of_lt_of_le hb k.size, fun i hi => ?_⟩
    rw [World.cell?_of_block (a := ⟨b, off + i, none⟩) (k.block b hb (by simpa using hne))]
    exact hc i hi
theorem vals_news {w : World} {b off n : Nat} {zs : List Value} (h : Vals w (some ⟨b, off, none⟩) n zs) (hn : 0 < n) : ∀ j u, zs[j]? = some u → w.cell? ((⟨b, off, none⟩ : Addr).add j) = some u := by
  intro j u hj
  have hlen := h.len
  have hlt : j < zs.length := (List.getElem?_eq_some_iff.1 hj).1
  rcases h.lies with h0 | ⟨b1, o1, hs, hb, hc⟩
  · omega
  cases hs
  have hcj := hc j (by omega)
  rw [hj] at hcj
  have e : ((⟨b, off, none⟩ : Addr).add j) = ⟨b, off + j, none⟩ := by unfold Addr.add; split <;> simp_all
  rw [e]
  exact hcj
def AllS (zs : List Value) : Prop := ∀ u ∈ zs, u.oneCell' = true
theorem wp_append_val {w : World} {o : Oper} {a : Act} {K : Act → World → Prop} {Q : Exit → Act → World → Prop} (s x : Operand)
    (ho : o.op = .call { callee := .builtin .append, args := #[s, x], argTypes := #[42, 42] })
    (base : Nat) (v : Value) (zs : List Value) (hs : a.eval s = v) (hown : OwnV w base 23 v zs)
    (sx : Option Addr) (m c : Nat) (ys : List Value) (hx : a.eval x = .slice sx m c) (hc : Vals w sx m ys) (ha : AllS ys) (hb : zs.length + m ≤ 1000000) (hbase : base ≤ w.heap.size)
    (h : ∀ v' w', OwnV w' base 23 v' (zs ++ ys) → w.grownBy w' v.ownBlock → K (a.put o.dst v') w') : o.wp Try.prog a w K Q := by
  obtain ⟨i0, hi, hz0, hz1, hz2⟩ := info_parts infoLL
  have hlen := hc.len
  rcases Nat.eq_zero_or_pos m with rfl | hm
  · have hy : ys = [] := List.length_eq_zero_iff.1 hlen
    subst hy
    have hown' : OwnV w base 23 v (zs ++ []) := by rwa [List.append_nil]
    rcases hown.2 with ⟨rfl, hz⟩ | ⟨g, cap, cur, rfl, _, _, hle, _⟩
    · exact wp_append_noneI s x _ ho _ i0 Try.underlying42 hi none 0 0 c (Nat.le_refl _) sx hs hx (h _ _ hown' (World.grownBy.refl _ _))
    · exact wp_append_noneI s x _ ho _ i0 Try.underlying42 hi (some ⟨g, 0, none⟩) zs.length cap c hle sx hs hx (h _ _ hown' (World.grownBy.refl _ _))
  · rcases hc.lies with h0 | ⟨b, off, rfl, _, _⟩
    · omega
    · refine wp_append_own w s x _ ho base 23 i0 (.slice none 0 0) 1 24 Try.underlying42 hi hz0 hz1 hz2 rfl Nat.one_pos v zs.length zs hs hown ⟨b, off, none⟩ m c ys hx (by rw [hlen, Nat.mul_one]) (vals_news hc hm) ha (by unfold maxLen; omega) (by omega) hbase ?_
      intro v' w' h1 h2 _
      refine h v' w' ?_ h2
      unfold OwnV
      rw [List.length_append, hlen]
      exact h1
theorem step_append_val {ops : Array Oper} {o : Oper} {a : Act} {w : World} {K : Act → World → Prop} {Q : Exit → Act → World → Prop} {E : Prop} (hg : o.guard = none) (s x : Operand)
    (ho : o.op = .call { callee := .builtin .append, args := #[s, x], argTypes := #[42, 42] })
    (base : Nat) (v : Value) (zs : List Value) (hs : a.eval s = v) (hown : OwnV w base 23 v zs)
    (sx : Option Addr) (m c : Nat) (ys : List Value) (hx : a.eval x = .slice sx m c) (hc : Vals w sx m ys) (ha : AllS ys) (hb : zs.length + m ≤ 1000000) (hbase : base ≤ w.heap.size)
    (h : ∀ v' w', OwnV w' base 23 v' (zs ++ ys) → w.grownBy w' v.ownBlock → K (a.put o.dst v') w') :
    if Region.wanted o (yielded ops a.tmps) = true then Oper.wp Try.prog o a w K Q else E := by
  have hw : Region.wanted o (yielded ops a.tmps) = true := by simp [Region.wanted, hg]
  rw [if_pos hw]
  exact wp_append_val s x ho base v zs hs hown sx m c ys hx hc ha hb hbase h
theorem own_litV (w : World) : OwnV (w.alloc (.cells #[] 23)) w.heap.size 23 (.slice (some ⟨w.heap.size, 0, none⟩) 0 0) [] := World.ownsRow_lit w #[] 0 (Nat.le_refl _) (by unfold maxLen; omega) rfl
theorem ownV_le {w : World} {base g n cap : Nat} {e : TypeId} {zs : List Value} (h : OwnV w base e (.slice (some ⟨g, 0, none⟩) n cap) zs) : n ≤ cap := by
  rcases h.2 with ⟨h1, _⟩ | ⟨g', cap', cur, h1, _, _, hn, _⟩
  · simp at h1
  · simp only [Value.slice.injEq, Option.some.injEq, Addr.mk.injEq, and_true] at h1
    obtain ⟨_, rfl, rfl⟩ := h1
    exact hn
theorem OwnV.cases {w : World} {base : Nat} {e : TypeId} {v : Value} {zs : List Value} (h : OwnV w base e v zs) : (v = .slice none 0 0 ∧ zs = []) ∨ ∃ g cap, v = .slice (some ⟨g, 0, none⟩) zs.length cap ∧ base ≤ g := by
  rcases h.2 with ⟨h1, h2⟩ | ⟨g, cap, cur, hv, hg, _⟩
  · exact .inl ⟨h1, List.eq_nil_of_length_eq_zero h2⟩
  · exact .inr ⟨g, cap, hv, hg⟩
/-- what the headers stand for: rows of the call's own -/
def Heads (base : Nat) (w : World) (hs : List Value) (zss : List (List Int)) : Prop :=
  hs.length = zss.length ∧ ∀ j, j < zss.length → OwnI w base 3 (hs[j]?.getD (.bool false)) (zss[j]?.getD [])
theorem Heads.keep {base : Nat} {w w' : World} {hs : List Value} {zss : List (List Int)} (h : Heads base w hs zss) (k : Below w.heap.size w w') : Heads base w' hs zss :=
  ⟨h.1, fun j hj => (h.2 j hj).keep k⟩
theorem Heads.all {base : Nat} {w : World} {hs : List Value} {zss : List (List Int)} (h : Heads base w hs zss) : AllS hs := by
  intro u hu
  obtain ⟨j, hj, rfl⟩ := List.mem_iff_getElem.1 hu
  have e1 := h.2 j (by have := h.1; omega)
  rw [List.getElem?_eq_getElem hj] at e1
  simp only [Option.getD_some] at e1
  rcases e1.cases with ⟨hv, _⟩ | ⟨g, cap, hv, _⟩ <;> rw [hv] <;> rfl
theorem AllS.take {hs : List Value} (h : AllS hs) (k : Nat) : AllS (hs.take k) := fun u hu => h u (List.mem_of_mem_take hu)
theorem AllS.drop {hs : List Value} (h : AllS hs) (k : Nat) : AllS (hs.drop k) := fun u hu => h u (List.mem_of_mem_drop hu)
theorem Heads.ins {base : Nat} {w : World} {hs : List Value} {zss : List (List Int)} {v : Value} {z : List Int} (k : Nat) (h : Heads base w hs zss) (hk : k ≤ zss.length) (hI : OwnI w base 3 v z) :
    Heads base w ([] ++ hs.take k ++ [v] ++ hs.drop k) ([] ++ zss.take k ++ [z] ++ zss.drop k) := by
  have hl := h.1
  simp only [List.nil_append]
  refine ⟨by simp only [List.length_append, List.length_take, List.length_drop, List.length_singleton]; omega, fun j hj => ?_⟩
  have e1 : (hs.take k).length = k := by rw [List.length_take]; omega
  have e2 : (zss.take k).length = k := by rw [List.length_take]; omega
  simp only [List.length_append, List.length_take, List.length_drop, List.length_singleton] at hj
  rw [List.append_assoc, List.append_assoc]
  by_cases hjk : j < k
  · rw [List.getElem?_append_left (by omega), List.getElem?_append_left (by omega), List.getElem?_take_of_lt hjk, List.getElem?_take_of_lt hjk]
    exact h.2 j (by omega)
  · rw [List.getElem?_append_right (l₁ := hs.take k) (by omega), List.getElem?_append_right (l₁ := zss.take k) (by omega), e1, e2]
    by_cases hj0 : j = k
    · subst hj0
      simp only [Nat.sub_self, List.singleton_append, List.getElem?_cons_zero, Option.getD_some]
      exact hI
    · obtain ⟨d, hd⟩ : ∃ d, j - k = d + 1 := ⟨j - k - 1, by omega⟩
      rw [hd]
      simp only [List.singleton_append, List.getElem?_cons_succ, List.getElem?_drop]
      have e3 : k + d = j - 1 := by omega
      rw [e3]
      exact h.2 (j - 1) (by omega)
theorem LL.at {w : World} {base n c : Nat} {s : Option Addr} {zss : List (List Int)} (h : LL w base (.slice s n c) zss) (i : Nat) (hi : i < zss.length) : ∃ g, s = some ⟨g, 0, none⟩ ∧ ∃ t d, w.cell? ⟨g, i, none⟩ = some (.slice t (zss[i]?.getD []).length d) ∧ Ints w t (zss[i]?.getD []).length (zss[i]?.getD []) := by
  obtain ⟨vs, h1, h2⟩ := h
  rcases h1.2 with ⟨_, h0⟩ | ⟨g, cap, cur, hv, _, hh, _⟩
  · omega
  · simp only [Value.slice.injEq] at hv
    obtain ⟨rfl, rfl, rfl⟩ := hv
    obtain ⟨t, d, e1, e2, _⟩ := h2 i hi
    exact ⟨g, rfl, t, d, by rw [World.ownsRow.cellAt h1 i (by omega)]; exact e1, e2⟩
/-- where a list goes -/
def posL (x : List Int) (l : List (List Int)) : Nat → Nat
  | 0 => 0
  | k + 1 => bif ltL x (l[k]?.getD []) then posL x l k else k + 1
def insL (x : List Int) (l : List (List Int)) : List (List Int) := [] ++ l.take (posL x l l.length) ++ [x] ++ l.drop (posL x l l.length)
def srtLL (zss : List (List Int)) : Nat → List (List Int)
  | 0 => []
  | k + 1 => insL (srtZ (zss[k]?.getD []) (zss[k]?.getD []).length) (srtLL zss k)
theorem posL_step {x : List Int} {l : List (List Int)} {k : Nat} (h : ltL x (l[k]?.getD []) = true) : posL x l (k + 1) = posL x l k := by simp only [posL, h, cond_true]
theorem posL_stop {x : List Int} {l : List (List Int)} {k : Nat} (h : ltL x (l[k]?.getD []) = false) : posL x l (k + 1) = k + 1 := by simp only [posL, h, cond_false]
theorem posL_le (x : List Int) (l : List (List Int)) (k : Nat) : posL x l k ≤ k := by
  induction k with
  | zero => exact Nat.le_refl _
  | succ k ih =>
    cases h : ltL x (l[k]?.getD [])
    · rw [posL_stop h]; exact Nat.le_refl _
    · rw [posL_step h]; omega
theorem insL_length (x : List Int) (l : List (List Int)) : (insL x l).length = l.length + 1 := by
  have := posL_le x l l.length
  unfold insL
  simp only [List.nil_append, List.length_append, List.length_take, List.length_drop, List.length_singleton]
  omega
theorem srtLL_length (zss : List (List Int)) (k : Nat) : (srtLL zss k).length = k := by
  induction k with
  | zero => rfl
  | succ k ih => rw [srtLL, insL_length, ih]
theorem insL_mem {x y : List Int} {l : List (List Int)} : y ∈ insL x l ↔ y = x ∨ y ∈ l := by
  unfold insL
  simp only [List.nil_append, List.mem_append, List.mem_singleton]
  conv => rhs; rw [← List.take_append_drop (posL x l l.length) l, List.mem_append]
  constructor
  · rintro ((h | h) | h)
    · exact .inr (.inl h)
    · exact .inl h
    · exact .inr (.inr h)
  · rintro (h | h | h)
    · exact .inl (.inr h)
    · exact .inl (.inl h)
    · exact .inr h
end Go.Proofs.Ytiplnfggiffngaa
