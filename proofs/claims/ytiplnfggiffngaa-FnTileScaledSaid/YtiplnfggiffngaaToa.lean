/- Chapter 7: facts for the walk of the program's search: bits, what is known of the places that are taken, rows in memory. -/
import Derived.Test.YtiplnfggiffngaaTp
import Derived.Test.YtiplnfggiffngaaMathTn
import Derived.Test.YtiplnfggiffngaaQm
namespace Go.Proofs.Ytiplnfggiffngaa
open Go.RowKit
theorem and_u32 (x y : Nat) (hx : x < 2 ^ 31) (hy : y < 2 ^ 31) : bits .and .u32 (x : Int) (y : Int) = ((x &&& y : Nat) : Int) := by
  have hx' : x % 2 ^ 32 = x := Nat.mod_eq_of_lt (by omega)
  have hy' : y % 2 ^ 32 = y := Nat.mod_eq_of_lt (by omega)
  have hz : x &&& y < 2 ^ 31 := Nat.and_lt_two_pow x hy
  simp only [bits, BitVec.ofInt_natCast, BitVec.toNat_and, BitVec.toNat_ofNat]
  simp only [IntKind.bits, hx', hy']
  rw [IntKind.wrap_u32]
  omega
theorem out_u32 (x y z : Nat) (hd : x &&& y = 0) (hz : z = x ||| y) (hx : x < 2 ^ 31) : bits .andNot .u32 (z : Int) (y : Int) = (x : Int) := by
  subst hz
  have h := bits_out IntKind.u32.bits x y hd
  have hx' : x % 2 ^ 32 = x := Nat.mod_eq_of_lt (by omega)
  simp only [bits, BitVec.ofInt_natCast]
  rw [h, BitVec.toNat_ofNat, show x % 2 ^ IntKind.u32.bits = x from hx', IntKind.wrap_u32]
  omega
/-- all places can be reached -/
theorem frm_full {N : Nat} {a : List Int} (hT : Til (N : Int) a) : frmM N a N = 2 ^ N - 1 := by
  have hN := hT.1
  have hb := sms_bd a ((List.range N).map fun j : Nat => ((N : Int) - N + j)) hN
  unfold frmM
  refine full_of (mskL_lt _ hb) fun j hj => ?_
  rw [mskL_bit _ fun x hx => (hb x hx).1]
  refine decide_eq_true ?_
  obtain ⟨x, hx⟩ := List.exists_mem_of_ne_nil a hT.2.2.1
  have hm := Int.emod_nonneg ((j : Int) - x) (show (N : Int) ≠ 0 by omega)
  have hm2 := Int.emod_lt_of_pos ((j : Int) - x) (show (0 : Int) < N by omega)
  refine List.mem_flatMap.2 ⟨((j : Int) - x) % (N : Int), List.mem_map.2 ⟨(((j : Int) - x) % (N : Int)).toNat, List.mem_range.2 (by omega), by omega⟩, List.mem_map.2 ⟨x, hx, ?_⟩⟩
  show (x + ((j : Int) - x) % (N : Int)) % (N : Int) = (j : Int)
  rw [Int.add_emod_emod, show x + ((j : Int) - x) = (j : Int) by omega]
  exact Int.emod_eq_of_lt (by omega) (by omega)
/-- the places that are taken -/
structure Bst (N : Nat) (a b : List Int) : Prop where
  ne : b ≠ []
  nod : (sms N a b).Nodup
  rng : ∀ t ∈ b, 0 ≤ t ∧ t < (N : Int)
theorem Bst.len {N : Nat} {a b : List Int} (hT : Til (N : Int) a) (h : Bst N a b) : 0 < b.length ∧ b.length ≤ 24 := by
  have h1 : SInv N a (tkn N a b) b := ⟨rfl, h.nod⟩
  have h2 := h1.le hT
  have h3 : 0 < a.length := List.length_pos_iff.2 hT.2.2.1
  have h4 := hT.2.1
  have h5 : b.length * 1 ≤ b.length * a.length := Nat.mul_le_mul_left _ h3
  exact ⟨List.length_pos_iff.2 h.ne, by omega⟩
theorem Bst.first {N : Nat} {a : List Int} (hT : Til (N : Int) a) : Bst N a [0] := ⟨by simp, (SInv.first hT).nod, fun t ht => by
  rw [List.mem_singleton.1 ht]
  have := hT.1
  omega⟩
theorem Bst.take {N : Nat} {a b : List Int} {x : Nat} (hT : Til (N : Int) a) (h : Bst N a b) (hx : x < N) (hd : tkn N a b &&& setM N a (x : Int) = 0) : Bst N a (b ++ [(x : Int)]) := by
  have h1 : SInv N a (tkn N a b) b := ⟨rfl, h.nod⟩
  refine ⟨by simp, (h1.next (t := (x : Int)) hT (by rw [Nat.and_comm]; exact hd)).nod, fun t ht => ?_⟩
  rcases List.mem_append.1 ht with ht | ht
  · exact h.rng t ht
  · rw [List.mem_singleton.1 ht]; omega
theorem Bst.back {N : Nat} {a b : List Int} {y : Int} (hT : Til (N : Int) a) (h : Bst N a (b ++ [y])) (hb : b ≠ []) : Bst N a b ∧ tkn N a b &&& setM N a y = 0 ∧ 0 ≤ y ∧ y < (N : Int) := by
  have hn := h.nod
  rw [sms_snoc, List.nodup_append] at hn
  have hy := h.rng y (by simp)
  refine ⟨⟨hb, hn.1, fun t ht => h.rng t (by simp [ht])⟩, ?_, hy⟩
  unfold tkn setM
  exact (mskL_disj (fun x hx => (sms_bd a b hT.1 x hx).1) (fun x hx => (tmvL_bd a y hT.1 x hx).1)).2 fun z hz hzb => hn.2.2 z hz z hzb rfl
theorem tkn_lt {N : Nat} {a b : List Int} (hT : Til (N : Int) a) : tkn N a b < 16777216 := mskL_lt24 _ (by have := hT.2.1; omega) (sms_bd a b hT.1)
/-! rows -/
theorem row_same {w w' : World} {base : Nat} {e : TypeId} {size n : Nat} {v : Value} {xs : List Value} (h : w.ownsRow base e size v n xs) (k : ∀ g, v.ownBlock = some g → w'.heap[g]? = w.heap[g]?) : w'.ownsRow base e size v n xs := by
  obtain ⟨h1, h2⟩ := h
  refine ⟨h1, ?_⟩
  rcases h2 with h2 | ⟨g, cap, cur, hv, hg, hh, r⟩
  · exact .inl h2
  · exact .inr ⟨g, cap, cur, hv, hg, by rw [k g (by rw [hv]; rfl)]; exact hh, r⟩
theorem OwnI.cut {w : World} {base g n cap : Nat} {e : TypeId} {zs : List Int} {y : Int} (h : OwnI w base e (.slice (some ⟨g, 0, none⟩) n cap) (zs ++ [y])) : OwnI w base e (.slice (some ⟨g, 0, none⟩) zs.length cap) zs := by
  obtain ⟨_, h2⟩ := h
  refine ⟨by simp, ?_⟩
  rcases h2 with ⟨h2, _⟩ | ⟨g', cap', cur, hv, hg, hh, h3, h4, h5, h6⟩
  · cases h2
  · simp only [Value.slice.injEq, Option.some.injEq, Addr.mk.injEq, and_true] at hv
    obtain ⟨rfl, _, rfl⟩ := hv
    rw [List.length_append, List.length_singleton] at h3 h6
    refine .inr ⟨g, cap, cur, rfl, hg, hh, by omega, h4, h5, ?_⟩
    have e : (cur.toList.take ((zs.length + 1) * 1)).take (zs.length * 1) = cur.toList.take (zs.length * 1) := by rw [List.take_take, Nat.min_eq_left (by omega)]
    rw [← e, h6, List.map_append]
    exact List.take_left' (by simp)
theorem kpU_row {U l : Nat} {w w' : World} {base g n cap : Nat} {e : TypeId} {size k : Nat} {xs : List Value} (h : w.ownsRow base e size (.slice (some ⟨g, 0, none⟩) n cap) k xs) (hk : KpU U l w w') (hU : U < base) (hl : l < base) : w'.ownsRow base e size (.slice (some ⟨g, 0, none⟩) n cap) k xs := by
  obtain ⟨h1, h2⟩ := World.ownsRow.lt h g rfl
  refine row_same h fun g' e' => ?_
  cases e'
  exact hk.block g h2 (by omega) (by omega)
/-- the numbers that a slice's cells hold -/
def rdI (w : World) : Value → List Int
  | .slice (some ⟨g, _, _⟩) n _ => (List.range n).map fun i => match w.cell? ⟨g, i, none⟩ with | some (.int _ z) => z | _ => 0
  | _ => []
theorem rdI_own {w : World} {base g n cap : Nat} {e : TypeId} {zs : List Int} (h : OwnI w base e (.slice (some ⟨g, 0, none⟩) n cap) zs) (hn : zs.length = n) : rdI w (.slice (some ⟨g, 0, none⟩) n cap) = zs := by
  unfold rdI
  apply List.ext_getElem?
  intro i
  by_cases hi : i < n
  · rw [List.getElem?_map, List.getElem?_range hi, Option.map_some, h.cell hn i hi]
    simp [List.getElem?_eq_getElem (show i < zs.length by omega)]
  · simp [hi, hn]
/-- an item: a list that lies in memory -/
structure Itm where
  g : Nat
  cap : Nat
  b : List Int
def encT (x : Itm) : Array Value := #[.slice (some ⟨x.g, 0, none⟩) x.b.length x.cap]
def RwT (x : Itm) (W : World) : Prop := OwnI W 0 3 (.slice (some ⟨x.g, 0, none⟩) x.b.length x.cap) x.b ∧ 0 < x.b.length ∧ x.b.length ≤ 24
theorem rwT_put (x : Itm) (l : Nat) (W : World) (o o' : Obj) (h : W.heap[l]? = some o) (hc : o.isCells = false) (hr : RwT x W) : RwT x (W.putObj l o') := by
  refine ⟨?_, hr.2⟩
  refine OwnI.other hr.1 (grownBy_putObj' W l o') (.inr fun e => ?_)
  obtain ⟨h1, h2⟩ := hr
  have hg : x.g = l := by simpa [Value.ownBlock] using e
  rcases h1.2 with ⟨h3, _⟩ | ⟨g', cap', cur, hv, _, hh, _⟩
  · cases h3
  · simp only [Value.slice.injEq, Option.some.injEq, Addr.mk.injEq, and_true] at hv
    obtain ⟨rfl, _, _⟩ := hv
    rw [hg, h] at hh
    cases hh
    cases hc
def SAll (N : Nat) (a : List Int) (xs : List Itm) : Prop := xs.map Itm.b = allS N a
def SPart (N : Nat) (a : List Int) (xs : List Itm) : Prop := ∃ r, xs.map Itm.b ++ r = allS N a
end Go.Proofs.Ytiplnfggiffngaa
