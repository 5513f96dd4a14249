/- Chapter 4, the program: whether a list of systems has one. -/
import Derived.Test.YtobdliefaaoefaaDoorGa
namespace Go.Proofs.YtobdliefaaoefaaDoor
open Go.RowKit
theorem hasL_t {zss : List (List Cl)} {t : List Cl} (i : Nat) (hi : i < zss.length) (h : eqC t (zss[i]?.getD []) = true) : hasL zss t = true := by
  unfold hasL
  rw [List.any_eq_true]
  rw [List.getElem?_eq_getElem hi, Option.getD_some] at h
  exact ⟨_, List.getElem_mem hi, h⟩
theorem hasL_f {zss : List (List Cl)} {t : List Cl} (h : ∀ j, j < zss.length → eqC t (zss[j]?.getD []) = false) : hasL zss t = false := by
  unfold hasL
  rw [List.any_eq_false]
  intro z hz
  obtain ⟨j, hj, rfl⟩ := List.mem_iff_getElem.1 hz
  have := h j hj
  rw [List.getElem?_eq_getElem hj, Option.getD_some] at this
  rw [this]
  decide
theorem c_has1 (B : Nat) (s st : Option Addr) (n m c1 c2 : Nat) (zs t : List Cl) (hn : n ≤ 1000000) (hm : m ≤ 1000000) (w : World) (hb : w.cell? ⟨B, 0, none⟩ = some (.slice st m c2)) (hs : Cls w s n zs) (ht : Cls w st m t) :
    Calls Tryd.prog 19 #[.slice s n c1, .pointer (some ⟨B, 0, none⟩)] w fun e w' => e = .returned (.bool (eqC t zs)) ∧ Below w.heap.size w w' := by
  go_enter Tryd.func19, Tryd.ntmps19
  go_wp2_with (go_at_call 20; refine (c_equalC st s m n c2 c1 t zs hm hn w ht hs).mono ?_; rintro e w1 ⟨rfl, hB⟩)
  go_ret
  exact ⟨rfl, hB⟩
set_option maxRecDepth 20000 in
set_option maxHeartbeats 1000000 in
theorem c_indexC (B g n cap base : Nat) (st : Option Addr) (m c2 : Nat) (zss : List (List Cl)) (t : List Cl) (hn : n ≤ 1000000) (hz : ∀ z ∈ zss, z.length ≤ 1000000) (hm : m ≤ 1000000) (w : World) (hb : w.cell? ⟨B, 0, none⟩ = some (.slice st m c2)) (hR : RowS w base (.slice (some ⟨g, 0, none⟩) n cap) zss) (hl : zss.length = n) (ht : Cls w st m t) :
    Calls Tryd.prog 34 #[.slice (some ⟨g, 0, none⟩) n cap, .func (.func 19) #[] #[.pointer (some ⟨B, 0, none⟩)]] w fun e w' => ∃ r, e = .returned (.int .i64 r) ∧ decide (0 ≤ r) = hasL zss t ∧ Below w.heap.size w w' := by
  have HT := Lib.hid (@hasL_t zss t)
  have HF := Lib.hid (@hasL_f zss t)
  have HZ := Lib.hid hz
  have HL := Lib.hid hl
  clear hz hl
  go_enter Tryd.func34, Tryd.ntmps34
  go_wp2_with fail
  go_loopw [8] (fun i wr => ∃ k : Nat, k ≤ n ∧ i = .int .i64 k ∧ Hid (∀ j, j < k → eqC t (zss[j]?.getD []) = false) ∧ Below w.heap.size w wr) (fun i _ => n - (intOf i).toNat)
  case atStart => exact ⟨0, Nat.zero_le _, rfl, Lib.hid (fun j hj => by omega), Below.refl _ _⟩
  case round =>
    obtain ⟨k, hk, rfl, hall, hB⟩ := hrel
    by_cases hlt : k < n
    · obtain ⟨si, ci, hcell, _, hCi, _⟩ := (hR.keep hB).at HL.out k hlt
      have hzl : (zss[k]?.getD []).length ≤ 1000000 := by
        have hk' : k < zss.length := by rw [HL.out]; exact hlt
        rw [List.getElem?_eq_getElem hk', Option.getD_some]
        exact HZ.out _ (List.getElem_mem hk')
      have hb2 := keepc hB hb
      have ht2 := ht.keep hB
      have HTk := Lib.hid (HT.out k (by rw [HL.out]; exact hlt))
      have Hst : Hid (eqC t (zss[k]?.getD []) = false → ∀ j, j < k + 1 → eqC t (zss[j]?.getD []) = false) := Lib.hid fun h j hj => by
        rcases Nat.lt_succ_iff_lt_or_eq.1 hj with h2 | h2
        · exact hall.out j h2
        · subst h2; exact h
      have hcon := c_has1 B si st _ m ci c2 (zss[k]?.getD []) t hzl hm wr hb2 hCi ht2
      generalize (zss[k]?.getD []) = z at *
      cases he : eqC t z
      · rw [he] at hcon
        have HS := Lib.hid (Hst.out he)
        clear he HTk Hst
        go_wp2_with (go_at_call 19; refine (hcon).mono ?_; rintro e w1 ⟨rfl, hb⟩)
        go_roundw
        case rel => exact ⟨k + 1, by omega, by go_num, HS, bt2 hB hb⟩
        case measure => simp [intOf]; omega
      · rw [he] at hcon
        have HS := Lib.hid (HTk.out he)
        clear he HTk Hst
        go_wp2_with (go_at_call 19; refine (hcon).mono ?_; rintro e w1 ⟨rfl, hb⟩)
        go_ret
        exact ⟨k, rfl, by rw [HS.out]; simp, bt2 hB hb⟩
    · have hk' : k = n := by omega
      subst hk'
      have HS := Lib.hid (HF.out (by rw [HL.out]; exact hall.out))
      go_wp2_with fail
      go_ret
      exact ⟨-1, rfl, by rw [HS.out]; rfl, hB⟩
theorem c_containsC (B g n cap base : Nat) (st : Option Addr) (m c2 : Nat) (zss : List (List Cl)) (t : List Cl) (hn : n ≤ 1000000) (hz : ∀ z ∈ zss, z.length ≤ 1000000) (hm : m ≤ 1000000) (w : World) (hb : w.cell? ⟨B, 0, none⟩ = some (.slice st m c2)) (hR : RowS w base (.slice (some ⟨g, 0, none⟩) n cap) zss) (hl : zss.length = n) (ht : Cls w st m t) :
    Calls Tryd.prog 18 #[.slice (some ⟨g, 0, none⟩) n cap, .func (.func 19) #[] #[.pointer (some ⟨B, 0, none⟩)]] w fun e w' => e = .returned (.bool (hasL zss t)) ∧ Below w.heap.size w w' := by
  have hcon := c_indexC B g n cap base st m c2 zss t hn hz hm w hb hR hl ht
  go_enter Tryd.func18, Tryd.ntmps18
  go_wp2_with (go_at_call 34; refine hcon.mono ?_; rintro e w1 ⟨r, rfl, hr, hB⟩)
  go_ret
  exact ⟨by rw [← hr]; rfl, hB⟩
theorem c_hasSystem (g n cap base : Nat) (st : Option Addr) (m c2 : Nat) (zss : List (List Cl)) (t : List Cl) (hn : n ≤ 1000000) (hz : ∀ z ∈ zss, z.length ≤ 1000000) (hm : m ≤ 1000000) (w : World) (hR : RowS w base (.slice (some ⟨g, 0, none⟩) n cap) zss) (hl : zss.length = n) (ht : Cls w st m t) :
    Calls Tryd.prog 11 #[.slice (some ⟨g, 0, none⟩) n cap, .slice st m c2] w fun e w' => e = .returned (.bool (hasL zss t)) ∧ Below w.heap.size w w' := by
  have hB0 : Below w.heap.size w (w.alloc (.cells #[.slice st m c2] 33)) := ba (Below.refl _ _) _
  have hcon := c_containsC w.heap.size g n cap base st m c2 zss t hn hz hm (w.alloc (.cells #[.slice st m c2] 33)) (by simp) (hR.keep hB0) hl (ht.keep hB0)
  go_enter Tryd.func11, Tryd.ntmps11
  go_wp2_with (go_at_call 18; refine hcon.mono ?_; rintro e w1 ⟨rfl, hB⟩)
  go_ret
  exact ⟨rfl, bt2 hB0 hB⟩
end Go.Proofs.YtobdliefaaoefaaDoor
