/- The program's inOrder: a copy of a list of classes, sorted: a system in another order. -/
import Derived.Test.YtgdpebnnmklbjaaS12
import Derived.Test.YtgdpebnnmklbjaaMathH
import Derived.Test.YtgdpebnnmklbjaaS3
import Derived.Test.YtgdpebnnmklbjaaShelf
import Derived.Shelf.SlicesE.Clone
import Derived.Shelf.Small.Bits
namespace Go.Proofs.Ytgdpebnnmklbjaa
open Go.RowKit
open Go.Sort Go.Shelf
theorem modI_neg (c d : Cl) : modI c d < 0 ↔ c.2 < d.2 ∨ (c.2 = d.2 ∧ c.1 < d.1) := by
  unfold modI orI cmpI
  split <;> (repeat' split) <;> omega
theorem swo_modI : SWO (ltOf modI) where
  irrefl x := by
    simp only [ltOf, decide_eq_false_iff_not, modI_neg]; omega
  trans x y z h1 h2 := by
    simp only [ltOf, decide_eq_true_eq, modI_neg] at *; omega
  ntrans x y z h1 h2 := by
    simp only [ltOf, decide_eq_false_iff_not, modI_neg] at *; omega
theorem c_clone (s : Option Addr) (n cap : Nat) (zs : List Cl) (h0 : 0 < n) (hn : n ≤ 1048576) (w : World) (hc : Cls w s n zs) :
    Calls Try.prog 87 #[.slice s n cap] w fun e w' => ∃ g cp, e = .returned (.slice (some ⟨g, 0, none⟩) n cp) ∧ OwnC w' w.heap.size 34 (.slice (some ⟨g, 0, none⟩) n cp) zs ∧ Below w.heap.size w w' := by
  obtain ⟨i0, hi, hz0, hz1, hz2⟩ := info_parts infoC
  have hlen := hc.len
  rcases hc.lies with h | ⟨b, off, rfl, hb, hcells⟩
  · omega
  have hcl : ∀ (j : Nat) (u : Value), (cells2 zs)[j]? = some u → w.cell? ⟨b, off + j, none⟩ = some u := by
    intro j u hj
    have hj2 : j < zs.length * 2 := by rw [← cells2_length]; exact (List.getElem?_eq_some_iff.1 hj).1
    have hd : j = j / 2 * 2 ∨ j = j / 2 * 2 + 1 := by omega
    have hlt : j / 2 < zs.length := by omega
    rcases hd with hd | hd
    · rw [hd] at hj ⊢
      rw [cells2_0 zs _ hlt] at hj
      rw [← hj]
      exact (hcells (j / 2) (by omega)).1
    · rw [hd] at hj ⊢
      rw [cells2_1 zs _ hlt] at hj
      rw [← hj, ← Nat.add_assoc]
      exact (hcells (j / 2) (by omega)).2
  have hone : ∀ u ∈ cells2 zs, u.oneCell' = true := by
    intro u hu
    obtain ⟨j, hj⟩ := List.mem_iff_getElem?.1 hu
    have hj2 : j < zs.length * 2 := by rw [← cells2_length]; exact (List.getElem?_eq_some_iff.1 hj).1
    have hd : j = j / 2 * 2 ∨ j = j / 2 * 2 + 1 := by omega
    have hlt : j / 2 < zs.length := by omega
    rcases hd with hd | hd
    · rw [hd, cells2_0 zs _ hlt] at hj
      simp at hj; subst hj; rfl
    · rw [hd, cells2_1 zs _ hlt] at hj
      simp at hj; subst hj; rfl
  have h := AnyE.slices_Clone Try.cloneA i0 _ 2 16 hi hz0 hz1 hz2 rfl (by decide) Try.sizeOf34 b off n cap (cells2 zs) w (by rw [cells2_length, hlen]) (by unfold maxLen; omega) (by omega) hcl hone
  refine Calls.mono (f := 87) h ?_
  rintro e w' ⟨v, rfl, hO, hne, hB⟩
  have hO' : OwnC w' w.heap.size 34 v zs := by unfold OwnC; rw [hlen]; exact hO
  rcases hO'.cases with ⟨rfl, _⟩ | ⟨g, cp, rfl, hg⟩
  · exact absurd rfl hne
  · rw [hlen] at hO' ⊢
    exact ⟨g, cp, rfl, hO', hB⟩
theorem holdsK_of {w : World} {base g n cap : Nat} {zs : List Cl} (h : OwnC w base 34 (.slice (some ⟨g, 0, none⟩) n cap) zs) (hn : zs.length = n) : HoldsK encC 2 w g 0 zs.toArray := by
  intro t ht
  rw [size_flatK] at ht
  simp only [List.size_toArray] at ht
  rw [get_flatK _ _ _ _ (by simpa using ht)]
  have hlt : t / 2 < zs.length := by omega
  refine ⟨?_, h.free hn _⟩
  have hd : t = t / 2 * 2 ∨ t = t / 2 * 2 + 1 := by omega
  rw [Nat.zero_add]
  rcases hd with hd | hd
  · have hm : t % 2 = 0 := by omega
    have := h.cell0 hn (t / 2) (by omega)
    rw [← hd] at this
    rw [this, hm]
    simp [encC, rAt, hlt]
  · have hm : t % 2 = 1 := by omega
    have := h.cell1 hn (t / 2) (by omega)
    rw [← hd] at this
    rw [this, hm]
    simp [encC, mAt, hlt]
theorem cls_of_holds {w : World} {g n : Nat} {zs : List Cl} (h : HoldsK encC 2 w g 0 zs.toArray) (hg : g < w.heap.size) (hn : zs.length = n) : Cls w (some ⟨g, 0, none⟩) n zs := by
  refine ⟨hn, .inr ⟨g, 0, rfl, hg, fun i hi => ?_⟩⟩
  have hlt : i < zs.length := by omega
  have h0 := (HoldsK.cell h (i := i) (c := 0) (by simpa using hlt) (by decide)).1
  have h1 := (HoldsK.cell h (i := i) (c := 1) (by simpa using hlt) (by decide)).1
  refine ⟨?_, ?_⟩
  · rw [Nat.add_zero] at h0
    rw [h0]
    simp [encC, rAt, hlt]
  · rw [h1]
    simp [encC, mAt, hlt]
theorem c_sortFunc (g n cap : Nat) (zs : List Cl) (hn : n ≤ 12) (base : Nat) (w : World) (hO : OwnC w base 34 (.slice (some ⟨g, 0, none⟩) n cap) zs) (hlen : zs.length = n) :
    Calls Try.prog 88 #[.slice (some ⟨g, 0, none⟩) n cap, .func (.func 74) #[] #[]] w fun e w' => e = .returned (.tuple #[]) ∧ ∃ ys : List Cl, List.Perm zs ys ∧ Cls w' (some ⟨g, 0, none⟩) n ys ∧ w.grownBy w' (some g) := by
  have hg : g < w.heap.size := (World.ownsRow.lt hO g rfl).2
  have hb := (World.ownsRow.lt hO g rfl).1
  have eg : ∀ args w, (callFunc 74 args).run Try.prog w = .ok (.enter 74 args) w := enters_of Try.func74 (by kernel_rfl) rfl
  have hlenA : ∀ (m : Nat) (W : World), m ≤ 12 → Calls Try.prog 98 #[.int .u64 m] W fun e w' => (∃ l : Int, e = .returned (.int .i64 l)) ∧ w' = W := fun m W h => (Any.bits_Len Try.lenA m W (by omega) (by omega)).mono fun _ _ ⟨he, hw⟩ => ⟨⟨_, he⟩, hw⟩
  have h := AnyQ.slices_SortFunc_small_sorted Try.sortFA 2 Try.isAgg34 Try.sizeOf34 encC (fun _ => rfl) (fun x v hv => by simp [encC] at hv; rcases hv with rfl | rfl <;> rfl) modI 74 #[] swo_modI g 0 cap zs.toArray w eg (cmp_lays g 0 _ w) (holdsK_of hO hlen) hg (by simp; omega) hlenA
  have hsz : zs.toArray.size = n := by simpa using hlen
  rw [hsz] at h
  refine Calls.mono (f := 88) h ?_
  rintro e w' ⟨rfl, d', m, os, ⟨hds, _, hp⟩, _, rfl⟩
  refine ⟨rfl, d'.toList, ?_, ?_, ?_⟩
  · have e1 : (d'.extract 0 n).toList = d'.toList := by rw [← hsz, ← hds]; simp
    have e2 : (zs.toArray.extract 0 n).toList = zs := by rw [← hsz]; simp
    rw [e1, e2] at hp
    exact hp.symm
  · have hH := holdsK_sortWorldK_c encC 2 w g 0 zs.toArray d' m os (holdsK_of hO hlen) hg hds
    refine cls_of_holds (by simpa using hH) (Nat.lt_of_lt_of_le hg (size_sortWorldK_c encC 2 w g 0 m d' os)) ?_
    rw [Array.length_toList, hds, hsz]
  · refine ⟨rfl, rfl, rfl, size_sortWorldK_c encC 2 w g 0 m d' os, fun k hk hne => ?_⟩
    have hne' : g ≠ k := fun e => hne (by rw [e])
    unfold sortWorldK
    rw [heap_grow_old _ _ (by simpa [putRowK] using hk)]
    simp [putRowK, putRow, mapBlock, Sort.ahead, Array.getElem?_modify, hne']
set_option maxHeartbeats 400000 in
theorem c_inOrder (s : Option Addr) (n cap : Nat) (zs : List Cl) (h0 : 0 < n) (hn : n ≤ 12) (w : World) (hc : Cls w s n zs) :
    Calls Try.prog 73 #[.slice s n cap, .func (.func 74) #[] #[]] w fun e w' => ∃ g cp ys, e = .returned (.slice (some ⟨g, 0, none⟩) n cp) ∧ w.heap.size ≤ g ∧ List.Perm zs ys ∧ Cls w' (some ⟨g, 0, none⟩) n ys ∧ Below w.heap.size w w' := by
  have hlen := hc.len
  go_enter Try.func73, Try.ntmps73
  go_wp2_with fail
  refine (c_clone _ _ _ zs h0 (by omega) _ hc).mono ?_
  rintro e w2 ⟨g, cp, rfl, hO, hB⟩
  go_wp2_with fail
  refine (c_sortFunc _ _ _ zs hn _ _ hO hlen).mono ?_
  rintro e w3 ⟨rfl, ys, hp, hy, hgr⟩
  go_wp2_with fail
  go_ret
  exact ⟨g, cp, ys, rfl, (World.ownsRow.lt hO _ rfl).1, hp, hy, hB.grown hgr hB.size (fun j hj => by cases hj; exact (World.ownsRow.lt hO _ rfl).1)⟩
end Go.Proofs.Ytgdpebnnmklbjaa
