/- Contracts of ExactSorted in the program: inOrder gives the sorted list, in memory of its own. -/
import Derived.Test.YtobdliefaaoefaaDoorS13
import Derived.Test.YtobdliefaaoefaaDoorMathO
import Derived.Test.YtobdliefaaoefaaDoorCA
namespace Go.Proofs.YtobdliefaaoefaaDoor
open Go.RowKit
open Go.Sort Go.Shelf
theorem own_of {w : World} {base g n cap : Nat} {e : TypeId} {ys : List Cl} {cur : Array Value} (hh : w.heap[g]? = some (.cells cur e (0, 0))) (hs : cur.size = cap * 2) (hb : base ≤ g) (hn : n ≤ cap) (hm : cap ≤ maxLen) (hc : Cls w (some ⟨g, 0, none⟩) n ys) : OwnC w base e (.slice (some ⟨g, 0, none⟩) n cap) ys := by
  have hlen := hc.len
  have hl : (cells2 ys).length = n * 2 := by rw [cells2_length, hlen]
  unfold OwnC
  rw [hlen]
  refine ⟨by rw [hl], .inr ⟨g, cap, cur, rfl, hb, hh, hn, hm, hs, ?_⟩⟩
  rcases Nat.eq_zero_or_pos n with rfl | h0
  · have : cells2 ys = [] := List.length_eq_zero_iff.1 (by omega)
    rw [this]
    simp
  · have hcs : ∀ (j : Nat) (u : Value), (cells2 ys)[j]? = some u → cur[j]? = some u := by
      intro j u hj
      have := cls_at hc h0 j u hj
      rw [Addr.add_lit, Nat.zero_add] at this
      simpa [World.cell?, hh] using this
    refine List.ext_getElem? fun j => ?_
    rcases Nat.lt_or_ge j (n * 2) with hj | hj
    · have h1 : (cells2 ys)[j]? = some ((cells2 ys)[j]'(by omega)) := List.getElem?_eq_getElem (by omega)
      rw [h1, List.getElem?_take_of_lt hj]
      have := hcs j _ h1
      simpa using this
    · rw [List.getElem?_eq_none (by rw [List.length_take]; omega), List.getElem?_eq_none (by omega)]
theorem asc_of {d : Array Cl} (h : SortedIn (ltOf modI) 0 d.size d) : Asc d.toList := by
  refine List.pairwise_iff_getElem.2 fun i j hi hj hij => ?_
  have := h i j (Nat.zero_le _) hij (by simpa using hj)
  have e : ∀ k (hk : k < d.toList.length), d[k]! = d.toList[k] := fun k hk => by
    have : k < d.size := by simpa using hk
    simp [this]
  rw [e i hi, e j hj] at this
  simp only [ltOf, decide_eq_false_iff_not, modI_neg] at this
  unfold leC
  omega
theorem c_sortOwn (g n cap : Nat) (zs : List Cl) (hn : n ≤ 12) (base : Nat) (w : World) (hO : OwnC w base 31 (.slice (some ⟨g, 0, none⟩) n cap) zs) (hlen : zs.length = n) :
    Calls Tryd.prog 31 #[.slice (some ⟨g, 0, none⟩) n cap, .func (.func 17) #[] #[]] w fun e w' => e = .returned (.tuple #[]) ∧ OwnC w' base 31 (.slice (some ⟨g, 0, none⟩) n cap) (srtL zs) ∧ w.grownBy w' (some g) := by
  have hg : g < w.heap.size := (World.ownsRow.lt hO g rfl).2
  have hb := (World.ownsRow.lt hO g rfl).1
  have eg : ∀ args w, (callFunc 17 args).run Tryd.prog w = .ok (.enter 17 args) w := enters_of Tryd.func17 (by kernel_rfl) rfl
  have hlenA : ∀ (m : Nat) (W : World), m ≤ 12 → Calls Tryd.prog 42 #[.int .u64 m] W fun e w' => (∃ l : Int, e = .returned (.int .i64 l)) ∧ w' = W := fun m W h => (Any.bits_Len Tryd.lenA m W (by omega) (by omega)).mono fun _ _ ⟨he, hw⟩ => ⟨⟨_, he⟩, hw⟩
  have h := AnyQ.slices_SortFunc_small_sorted Tryd.sortFA 2 Tryd.isAgg31 Tryd.sizeOf31 encC (fun _ => rfl) (fun x v hv => by simp [encC] at hv; rcases hv with rfl | rfl <;> rfl) modI 17 #[] swo_modI g 0 cap zs.toArray w eg (cmp_lays g 0 _ w) (holdsK_of hO hlen) hg (by simp; omega) hlenA
  have hsz : zs.toArray.size = n := by simpa using hlen
  rw [hsz] at h
  refine Calls.mono (f := 31) h ?_
  rintro e w' ⟨rfl, d', m, os, ⟨hds, _, hp⟩, hsort, rfl⟩
  have hp2 : List.Perm zs d'.toList := by
    have e1 : (d'.extract 0 n).toList = d'.toList := by rw [← hsz, ← hds]; simp
    have e2 : (zs.toArray.extract 0 n).toList = zs := by rw [← hsz]; simp
    rw [e1, e2] at hp
    exact hp.symm
  have hd : d'.size = n := by rw [hds, hsz]
  rw [← hd] at hsort
  have hsrt := srtL_of hp2 (asc_of hsort)
  have hgr : w.grownBy (sortWorldK encC 2 w g 0 m d' os) (some g) := by
    refine ⟨rfl, rfl, rfl, size_sortWorldK_c encC 2 w g 0 m d' os, fun k hk hne => ?_⟩
    have hne' : g ≠ k := fun e => hne (by rw [e])
    unfold sortWorldK
    rw [heap_grow_old _ _ (by simpa [putRowK] using hk)]
    simp [putRowK, putRow, mapBlock, Sort.ahead, Array.getElem?_modify, hne']
  refine ⟨rfl, ?_, hgr⟩
  have hH := holdsK_sortWorldK_c encC 2 w g 0 zs.toArray d' m os (holdsK_of hO hlen) hg hds
  have hcls : Cls (sortWorldK encC 2 w g 0 m d' os) (some ⟨g, 0, none⟩) n d'.toList := by
    refine cls_of_holds (by simpa using hH) (Nat.lt_of_lt_of_le hg (size_sortWorldK_c encC 2 w g 0 m d' os)) ?_
    rw [Array.length_toList, hd]
  rw [← hsrt]
  rcases hO.2 with ⟨hv, _⟩ | ⟨g2, cap2, cur, hv, _, hh, hle, hmx, hcs, _⟩
  · cases hv
  · simp only [Value.slice.injEq, Option.some.injEq, Addr.mk.injEq, and_true] at hv
    obtain ⟨rfl, _, rfl⟩ := hv
    have hblk : ∃ cur', (sortWorldK encC 2 w g 0 m d' os).heap[g]? = some (.cells cur' 31 (0, 0)) ∧ cur'.size = cur.size := by
      unfold sortWorldK
      rw [heap_grow_old _ _ (by simpa [putRowK] using hg)]
      refine ⟨putCells id 0 (flatK encC 2 d') cur, by simp [putRowK, putRow, mapBlock, Sort.ahead, Array.getElem?_modify, hh, onCells], by unfold putCells; rw [Array.size_mapIdx]⟩
    obtain ⟨cur', h1, h2⟩ := hblk
    exact own_of h1 (by rw [h2]; exact hcs) hb (by rw [← hlen]; exact hle) hmx hcls
set_option maxHeartbeats 400000 in
theorem c_inOrderOwn (s : Option Addr) (n cap : Nat) (zs : List Cl) (h0 : 0 < n) (hn : n ≤ 12) (w : World) (hc : Cls w s n zs) :
    Calls Tryd.prog 16 #[.slice s n cap, .func (.func 17) #[] #[]] w fun e w' => ∃ v, e = .returned v ∧ OwnC w' w.heap.size 31 v (srtL zs) ∧ Below w.heap.size w w' := by
  have hlen := hc.len
  go_enter Tryd.func16, Tryd.ntmps16
  go_wp2_with fail
  refine (c_clone _ _ _ zs h0 (by omega) _ hc).mono ?_
  rintro e w2 ⟨g, cp, rfl, hO, hB⟩
  go_wp2_with fail
  refine (c_sortOwn _ _ _ zs hn _ _ hO hlen).mono ?_
  rintro e w3 ⟨rfl, hO3, hgr⟩
  go_wp2_with fail
  go_ret
  exact ⟨_, rfl, hO3, hB.grown hgr hB.size (fun j hj => by cases hj; exact (World.ownsRow.lt hO _ rfl).1)⟩
end Go.Proofs.YtobdliefaaoefaaDoor
