/- An append of a list of classes onto an own one, whatever the source's address. -/
import Derived.Test.YtobdliefaaoefaaDoorCA
import Derived.Test.YtobdliefaaoefaaDoorH1
import Derived.Test.YtobdliefaaoefaaDoorStepA
namespace Go.Proofs.YtobdliefaaoefaaDoor
open Go.RowKit
theorem run_append_none {P : Program} (w : World) (t ty e : TypeId) (i : TypeInfo) (ht : P.underlying t = some (.slice e)) (hi : P.info? e = some i) (bs : Option Addr) (sLen sCap c : Nat) (hle : sLen ≤ sCap) (sx : Option Addr) :
    (Builtin.append_ #[t, t] ty #[.slice bs sLen sCap, .slice sx 0 c]).run P w = .ok (.slice bs sLen sCap) w := by
  cases bs <;> cases sx <;> simp [Builtin.append_, run_underlying ht, sizeOf, typeInfo, hi, hle, storeCells, Builtin.lenOf, Builtin.firstCells, loadCells, loadCellsFrom, Result.andThen]
theorem wp_append_none {P : Program} {w : World} {o : Oper} {a : Act} {K : Act → World → Prop} {Q : Exit → Act → World → Prop} (s x : Operand) (t : TypeId)
    (ho : o.op = .call { callee := .builtin .append, args := #[s, x], argTypes := #[t, t] })
    (e : TypeId) (i : TypeInfo) (ht : P.underlying t = some (.slice e)) (hi : P.info? e = some i)
    (bs : Option Addr) (sLen sCap c : Nat) (hle : sLen ≤ sCap) (sx : Option Addr) (hs : a.eval s = .slice bs sLen sCap) (hx : a.eval x = .slice sx 0 c)
    (h : K (a.put o.dst (.slice bs sLen sCap)) w) : o.wp P a w K Q := by
  have hr := run_append_none (P := P) w t o.type e i ht hi bs sLen sCap c hle sx
  unfold Oper.wp execOp
  simp only [ho, resolve, invoke, builtin, Sem.run_bind, Sem.run_pure, Result.andThen_ok, List.map_toArray, List.map_cons, List.map_nil, hs, hx, hr]
  exact h
theorem wp_append_cls {w : World} {o : Oper} {a : Act} {K : Act → World → Prop} {Q : Exit → Act → World → Prop} (s x : Operand)
    (ho : o.op = .call { callee := .builtin .append, args := #[s, x], argTypes := #[33, 33] })
    (base : Nat) (v : Value) (zs : List Cl) (hs : a.eval s = v) (hown : OwnC w base 31 v zs)
    (sx : Option Addr) (m c : Nat) (ys : List Cl) (hx : a.eval x = .slice sx m c) (hc : Cls w sx m ys) (hb : zs.length + m ≤ 1000000) (hbase : base ≤ w.heap.size)
    (h : ∀ v' w', OwnC w' base 31 v' (zs ++ ys) → w.grownBy w' v.ownBlock → K (a.put o.dst v') w') : o.wp Tryd.prog a w K Q := by
  obtain ⟨i0, hi, hz0, hz1, hz2⟩ := info_parts infoC
  have hlen := hc.len
  rcases Nat.eq_zero_or_pos m with rfl | hm
  · have hy : ys = [] := List.length_eq_zero_iff.1 hlen
    subst hy
    have hown' : OwnC w base 31 v (zs ++ []) := by rwa [List.append_nil]
    rcases hown.2 with ⟨rfl, hz⟩ | ⟨g, cap, cur, rfl, _, _, hle, _⟩
    · exact wp_append_none s x _ ho _ i0 Tryd.underlying33 hi none 0 0 c (Nat.le_refl _) sx hs hx (h _ _ hown' (World.grownBy.refl _ _))
    · exact wp_append_none s x _ ho _ i0 Tryd.underlying33 hi (some ⟨g, 0, none⟩) zs.length cap c hle sx hs hx (h _ _ hown' (World.grownBy.refl _ _))
  · rcases hc.lies with h0 | ⟨b, off, rfl, _, _⟩
    · omega
    · refine wp_append_own w s x _ ho base 31 i0 (.agg #[.int .i64 0, .int .i64 0]) 2 16 Tryd.underlying33 hi hz0 hz1 hz2 rfl Nat.two_pos v zs.length (cells2 zs) hs hown ⟨b, off, none⟩ m c (cells2 ys) hx (by rw [cells2_length, hlen]) (cls_at hc hm) (cells2_oc ys) (by unfold maxLen; omega) (by omega) hbase ?_
      intro v' w' h1 h2 _
      refine h v' w' ?_ h2
      unfold OwnC
      rw [cells2_append, List.length_append, hlen]
      exact h1
theorem wpList_append_cls {w : World} {ops : Array Oper} {rest : List Oper} {o : Oper} {a : Act} {Q : Exit → Act → World → Prop} (hgd : o.guard = none) (s x : Operand)
    (ho : o.op = .call { callee := .builtin .append, args := #[s, x], argTypes := #[33, 33] })
    (base : Nat) (v : Value) (zs : List Cl) (hs : a.eval s = v) (hown : OwnC w base 31 v zs)
    (sx : Option Addr) (m c : Nat) (ys : List Cl) (hx : a.eval x = .slice sx m c) (hc : Cls w sx m ys) (hb : zs.length + m ≤ 1000000) (hbase : base ≤ w.heap.size)
    (h : ∀ v' w', OwnC w' base 31 v' (zs ++ ys) → w.grownBy w' v.ownBlock → wpList Tryd.prog ops Q rest (a.put o.dst v') w') : wpList Tryd.prog ops Q (o :: rest) a w :=
  wpList_plain hgd fun _ hK => wp_append_cls s x ho base v zs hs hown sx m c ys hx hc hb hbase fun v' w' h1 h2 => hK _ _ (h v' w' h1 h2)
theorem step_append_cls {ops : Array Oper} {o : Oper} {a : Act} {w : World} {K : Act → World → Prop} {Q : Exit → Act → World → Prop} {E : Prop} (hg : o.guard = none) (s x : Operand)
    (ho : o.op = .call { callee := .builtin .append, args := #[s, x], argTypes := #[33, 33] })
    (base : Nat) (v : Value) (zs : List Cl) (hs : a.eval s = v) (hown : OwnC w base 31 v zs)
    (sx : Option Addr) (m c : Nat) (ys : List Cl) (hx : a.eval x = .slice sx m c) (hc : Cls w sx m ys) (hb : zs.length + m ≤ 1000000) (hbase : base ≤ w.heap.size)
    (h : ∀ v' w', OwnC w' base 31 v' (zs ++ ys) → w.grownBy w' v.ownBlock → K (a.put o.dst v') w') :
    if Region.wanted o (yielded ops a.tmps) = true then Oper.wp Tryd.prog o a w K Q else E := by
  have hw : Region.wanted o (yielded ops a.tmps) = true := by simp [Region.wanted, hg]
  rw [if_pos hw]
  exact wp_append_cls s x ho base v zs hs hown sx m c ys hx hc hb hbase h
theorem own_lit0 (w : World) : OwnC (w.alloc (.cells #[] 31)) w.heap.size 31 (.slice (some ⟨w.heap.size, 0, none⟩) 0 0) [] := World.ownsRow_lit w #[] 0 (Nat.le_refl _) (by unfold maxLen; omega) rfl
end Go.Proofs.YtobdliefaaoefaaDoor
