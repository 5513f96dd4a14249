/- The period of two systems together, plain. -/
import Derived.Test.YtonecelkkeakiaaGreatDoorMathA
import Derived.Test.YtonecelkkeakiaaGreatDoorS14
import Derived.Test.YtonecelkkeakiaaGreatDoorS13
import Derived.Test.YtonecelkkeakiaaGreatDoorMz5
import Derived.Test.YtonecelkkeakiaaGreatDoorMz7
namespace Go.Proofs.YtonecelkkeakiaaGreatDoor
theorem perO_append (p : Int) (a b : List Cl) : perO p (a ++ b) = (perO p a).bind fun q => perO q b := by
  induction a generalizing p with
  | nil => rfl
  | cons c t ih =>
    simp only [List.cons_append, perO]
    split
    · exact ih _
    · rfl
theorem lcmI_assoc {a b c : Int} (ha : 1 ≤ a) (hb : 1 ≤ b) (hc : 1 ≤ c) : lcmI (lcmI a b) c = lcmI a (lcmI b c) := by
  obtain ⟨x, rfl⟩ := Int.eq_ofNat_of_zero_le (show 0 ≤ a by omega)
  obtain ⟨y, rfl⟩ := Int.eq_ofNat_of_zero_le (show 0 ≤ b by omega)
  obtain ⟨z, rfl⟩ := Int.eq_ofNat_of_zero_le (show 0 ≤ c by omega)
  rw [lcmI_nat, lcmI_nat, lcmI_nat, lcmI_nat, Nat.lcm_assoc]
theorem lcmI_mono {a b c : Int} (ha : 1 ≤ a) (hb : 1 ≤ b) (hc : 1 ≤ c) (h : b ∣ c) : lcmI a b ≤ lcmI a c := by
  have h1 := lcmI_pos ha hc
  exact Int.le_of_dvd (by omega) (lcmI_dvd (by omega) (by omega) (dvd_lcmI (by omega) (by omega)).1 (Int.dvd_trans h (dvd_lcmI (show 0 ≤ a by omega) (show 0 ≤ c by omega)).2))
theorem perO_lcm {p q Q : Int} {ys : List Cl} (hp : 1 ≤ p) (hq : 1 ≤ q) (h : perO q ys = some Q) (hl : lcmI p q ≤ 1000) : perO (lcmI p q) ys = if lcmI p Q ≤ 1000 then some (lcmI p Q) else none := by
  induction ys generalizing q with
  | nil =>
    cases h
    simp [perO, hl]
  | cons c t ih =>
    have h0 := h
    unfold perO at h
    split at h
    · rename_i h1
      obtain ⟨m1, m2, _, _⟩ := inB_iff.1 h1.1
      have hq2 := (lcmI_pos hq m1).1
      have e := lcmI_assoc hp hq m1
      unfold perO
      by_cases hx : lcmI p (lcmI q c.2) ≤ 1000
      · rw [if_pos ⟨h1.1, by rw [e]; exact hx⟩, e]
        exact ih hq2 h hx
      · rw [if_neg (fun hh => hx (by rw [← e]; exact hh.2))]
        have hd := (perO_dvd h hq2).1
        have hQ := (perO_bd h hq2 h1.2).1
        have := lcmI_mono hp hq2 hQ hd
        rw [if_neg (by omega)]
    · cases h
theorem lcmI_one {a : Int} (ha : 1 ≤ a) : lcmI a 1 = a := by
  obtain ⟨x, rfl⟩ := Int.eq_ofNat_of_zero_le (show 0 ≤ a by omega)
  rw [show (1 : Int) = ((1 : Nat) : Int) from rfl, lcmI_nat, Nat.lcm_one_right]
/-- both are systems, with a common period that is not too great -/
def comB (zs ys : List Cl) : Bool := sysB zs && sysB ys && decide (lcmI (perI zs) (perI ys) ≤ 1000)
def comI (zs ys : List Cl) : Int := lcmI (perI zs) (perI ys)
theorem per_both {zs ys : List Cl} (h : sysB zs = true) (k : sysB ys = true) : perI (zs ++ ys) = selI (comB zs ys) (comI zs ys) := by
  obtain ⟨_, _, _, ho, P1, P2⟩ := sysB_facts h
  obtain ⟨_, _, _, ko, Q1, Q2⟩ := sysB_facts k
  have e := perO_lcm P1 (show (1 : Int) ≤ 1 by omega) ko (by rw [lcmI_one P1]; exact P2)
  rw [lcmI_one P1] at e
  unfold perI
  rw [perO_append, ho]
  show ((perO (perI zs) ys)).getD 0 = _
  rw [e]
  by_cases hl : lcmI (perI zs) (perI ys) ≤ 1000
  · simp [hl, comB, h, k, selI, comI]
  · simp [hl, comB, selI]
theorem com_bd {zs ys : List Cl} (h : comB zs ys = true) : sysB zs = true ∧ sysB ys = true ∧ 1 ≤ comI zs ys ∧ comI zs ys ≤ 1000 := by
  unfold comB at h
  simp only [Bool.and_eq_true, decide_eq_true_eq] at h
  obtain ⟨_, _, _, _, P1, _⟩ := sysB_facts h.1.1
  obtain ⟨_, _, _, _, Q1, _⟩ := sysB_facts h.1.2
  exact ⟨h.1.1, h.1.2, (lcmI_pos P1 Q1).1, h.2⟩
def samB (zs ys : List Cl) : Bool := comB zs ys && (holK zs (comI zs ys).toNat == holK ys (comI zs ys).toNat)
theorem holK_same {zs ys : List Cl} {M : Nat} (h : ∀ j : Nat, j < M → (cntN zs j == 0) = (cntN ys j == 0)) : holK zs M = holK ys M := by
  induction M with
  | zero => rfl
  | succ M ih =>
    simp only [holK]
    rw [ih (fun j hj => h j (by omega)), h M (by omega)]
theorem holK_differ {zs ys : List Cl} {M k : Nat} (hk : k < M) (h : (cntN zs k == 0) ≠ (cntN ys k == 0)) : holK zs M ≠ holK ys M := by
  intro e
  have h1 := holK_mem zs M k
  have h2 := holK_mem ys M k
  rw [e, h2] at h1
  rw [covB_cnt, covB_cnt] at h1
  have hk' : (0 : Int) ≤ k ∧ (k : Int) < M := by omega
  cases ha : cntN zs k == 0 <;> cases hb : cntN ys k == 0 <;> simp_all
theorem allB_app {zs ys : List Cl} (h : allB zs = true) (k : allB ys = true) : allB (zs ++ ys) = true := by
  unfold allB at *
  rw [List.all_append, h, k]
  rfl
end Go.Proofs.YtonecelkkeakiaaGreatDoor
namespace Go.Proofs.YtonecelkkeakiaaGreatDoor
open Go.RowKit
open Go.Sort Go.Shelf
theorem own_of {w : World} {base g n cap : Nat} {e : TypeId} {ys : List Cl} {cur : Array Value} (hh : w.heap[g]? = some (.cells cur e (0, 0))) (hs : cur.size = cap * 2) (hb : base ≤ g) (hn : n ≤ cap) (hm : cap ≤ maxLen) (hc : Cls w (some ⟨g, 0, none⟩) n ys) : OwnC w base e (.slice (some ⟨g, 0, none⟩) n cap) ys := by
  have hlen := hc.len
  have hl : (cells2 ys).length = n * 2 := by rw [cells2_length, hlen]
  unfold OwnC
  rw [hlen]
  refine ⟨by rw [hl], .inr ⟨g, cap, cur, rfl, hb, hh, hn, hm, hs, ?_⟩⟩
  rcases Nat.eq_zero_or_pos n with rfl | h0
  · have : cells2 ys = [] := List.length_eq_zero_iff.1 (by omega)
    rw [this]
    simp
  · have hcs : ∀ (j : Nat) (u : Value), (cells2 ys)[j]? = some u → cur[j]? = some u := by
      intro j u hj
      have := cls_at hc h0 j u hj
      rw [Addr.add_lit, Nat.zero_add] at this
      simpa [World.cell?, hh] using this
    refine List.ext_getElem? fun j => ?_
    rcases Nat.lt_or_ge j (n * 2) with hj | hj
    · have h1 : (cells2 ys)[j]? = some ((cells2 ys)[j]'(by omega)) := List.getElem?_eq_getElem (by omega)
      rw [h1, List.getElem?_take_of_lt hj]
      have := hcs j _ h1
      simpa using this
    · rw [List.getElem?_eq_none (by rw [List.length_take]; omega), List.getElem?_eq_none (by omega)]
theorem asc_of {d : Array Cl} (h : SortedIn (ltOf modI) 0 d.size d) : Asc d.toList := by
  refine List.pairwise_iff_getElem.2 fun i j hi hj hij => ?_
  have := h i j (Nat.zero_le _) hij (by simpa using hj)
  have e : ∀ k (hk : k < d.toList.length), d[k]! = d.toList[k] := fun k hk => by
    have : k < d.size := by simpa using hk
    simp [this]
  rw [e i hi, e j hj] at this
  simp only [ltOf, decide_eq_false_iff_not, modI_neg] at this
  unfold leC
  omega
theorem c_sortOwn (g n cap : Nat) (zs : List Cl) (hn : n ≤ 12) (base : Nat) (w : World) (hO : OwnC w base 41 (.slice (some ⟨g, 0, none⟩) n cap) zs) (hlen : zs.length = n) :
    Calls Tryz.prog 220 #[.slice (some ⟨g, 0, none⟩) n cap, .func (.func 172) #[] #[]] w fun e w' => e = .returned (.tuple #[]) ∧ OwnC w' base 41 (.slice (some ⟨g, 0, none⟩) n cap) (srtL zs) ∧ w.grownBy w' (some g) := by
  have hg : g < w.heap.size := (World.ownsRow.lt hO g rfl).2
  have hb := (World.ownsRow.lt hO g rfl).1
  have eg : ∀ args w, (callFunc 172 args).run Tryz.prog w = .ok (.enter 172 args) w := enters_of Tryz.func172 (by kernel_rfl) rfl
  have hlenA : ∀ (m : Nat) (W : World), m ≤ 12 → Calls Tryz.prog 268 #[.int .u64 m] W fun e w' => (∃ l : Int, e = .returned (.int .i64 l)) ∧ w' = W := fun m W h => (Any.bits_Len Tryz.lenA m W (by omega) (by omega)).mono fun _ _ ⟨he, hw⟩ => ⟨⟨_, he⟩, hw⟩
  have h := AnyQ.slices_SortFunc_small_sorted Tryz.sortFA 2 Tryz.isAgg41 Tryz.sizeOf41 encC (fun _ => rfl) (fun x v hv => by simp [encC] at hv; rcases hv with rfl | rfl <;> rfl) modI 172 #[] swo_modI g 0 cap zs.toArray w eg (cmp_lays g 0 _ w) (holdsK_of hO hlen) hg (by simp; omega) hlenA
  have hsz : zs.toArray.size = n := by simpa using hlen
  rw [hsz] at h
  refine Calls.mono (f := 220) h ?_
  rintro e w' ⟨rfl, d', m, os, ⟨hds, _, hp⟩, hsort, rfl⟩
  have hp2 : List.Perm zs d'.toList := by
    have e1 : (d'.extract 0 n).toList = d'.toList := by rw [← hsz, ← hds]; simp
    have e2 : (zs.toArray.extract 0 n).toList = zs := by rw [← hsz]; simp
    rw [e1, e2] at hp
    exact hp.symm
  have hd : d'.size = n := by rw [hds, hsz]
  rw [← hd] at hsort
  have hsrt := srtL_of hp2 (asc_of hsort)
  have hgr : w.grownBy (sortWorldK encC 2 w g 0 m d' os) (some g) := by
    refine ⟨rfl, rfl, rfl, size_sortWorldK_c encC 2 w g 0 m d' os, fun k hk hne => ?_⟩
    have hne' : g ≠ k := fun e => hne (by rw [e])
    unfold sortWorldK
    rw [heap_grow_old _ _ (by simpa [putRowK] using hk)]
    simp [putRowK, putRow, mapBlock, Sort.ahead, Array.getElem?_modify, hne']
  refine ⟨rfl, ?_, hgr⟩
  have hH := holdsK_sortWorldK_c encC 2 w g 0 zs.toArray d' m os (holdsK_of hO hlen) hg hds
  have hcls : Cls (sortWorldK encC 2 w g 0 m d' os) (some ⟨g, 0, none⟩) n d'.toList := by
    refine cls_of_holds (by simpa using hH) (Nat.lt_of_lt_of_le hg (size_sortWorldK_c encC 2 w g 0 m d' os)) ?_
    rw [Array.length_toList, hd]
  rw [← hsrt]
  rcases hO.2 with ⟨hv, _⟩ | ⟨g2, cap2, cur, hv, _, hh, hle, hmx, hcs, _⟩
  · cases hv
  · simp only [Value.slice.injEq, Option.some.injEq, Addr.mk.injEq, and_true] at hv
    obtain ⟨rfl, _, rfl⟩ := hv
    have hblk : ∃ cur', (sortWorldK encC 2 w g 0 m d' os).heap[g]? = some (.cells cur' 41 (0, 0)) ∧ cur'.size = cur.size := by
      unfold sortWorldK
      rw [heap_grow_old _ _ (by simpa [putRowK] using hg)]
      refine ⟨putCells id 0 (flatK encC 2 d') cur, by simp [putRowK, putRow, mapBlock, Sort.ahead, Array.getElem?_modify, hh, onCells], by unfold putCells; rw [Array.size_mapIdx]⟩
    obtain ⟨cur', h1, h2⟩ := hblk
    exact own_of h1 (by rw [h2]; exact hcs) hb (by rw [← hlen]; exact hle) hmx hcls
set_option maxHeartbeats 400000 in
theorem c_inOrderOwn (s : Option Addr) (n cap : Nat) (zs : List Cl) (h0 : 0 < n) (hn : n ≤ 12) (w : World) (hc : Cls w s n zs) :
    Calls Tryz.prog 171 #[.slice s n cap, .func (.func 172) #[] #[]] w fun e w' => ∃ v, e = .returned v ∧ OwnC w' w.heap.size 41 v (srtL zs) ∧ Below w.heap.size w w' := by
  have hlen := hc.len
  go_enter Tryz.func171, Tryz.ntmps171
  go_wp2_with fail
  refine (c_clone _ _ _ zs h0 (by omega) _ hc).mono ?_
  rintro e w2 ⟨g, cp, rfl, hO, hB⟩
  go_wp2_with fail
  refine (c_sortOwn _ _ _ zs hn _ _ hO hlen).mono ?_
  rintro e w3 ⟨rfl, hO3, hgr⟩
  go_wp2_with fail
  go_ret
  exact ⟨_, rfl, hO3, hB.grown hgr hB.size (fun j hj => by cases hj; exact (World.ownsRow.lt hO _ rfl).1)⟩
end Go.Proofs.YtonecelkkeakiaaGreatDoor
