/- Contracts of SystemSame, in the program and in the model. -/
import Derived.Test.YtgdpebnnmklbjaaCA
import Derived.Test.YtgdpebnnmklbjaaMathL
import Derived.Test.YtgdpebnnmklbjaaS15
import Derived.Shelf.Slices.Equal
import Derived.Shelf.Slices.Empties2
namespace Go.Proofs.Ytgdpebnnmklbjaa
open Go.RowKit
open Go.Maps
set_option maxHeartbeats 400000 in
theorem c_commonPeriod (s t : Option Addr) (n m c1 c2 : Nat) (zs ys : List Cl) (hn : n ≤ 1048576) (hm : m ≤ 1048576) (w : World) (hc : Cls w s n zs) (hd : Cls w t m ys) :
    Calls Try.prog 51 #[.slice s n c1, .slice t m c2] w fun e w' => e = .returned (.tuple #[.int .i64 (selI (comB zs ys) (comI zs ys)), .bool (comB zs ys)]) ∧ Below w.heap.size w w' := by
  cases hs : sysB zs
  · have HA := Lib.hid (show comB zs ys = false by simp [comB, hs])
    go_enter Try.func51, Try.ntmps51
    go_wp2_with fail
    refine (c_implSystemPeriod_f _ _ _ zs hn hs _ hc).mono ?_
    rintro e w2 ⟨rfl, hb⟩
    have hd2 := hd.keep hb
    go_wp2_with fail
    refine (c_implSystemPeriod _ _ _ ys hm _ hd2).mono ?_
    rintro e w3 ⟨rfl, hb3⟩
    go_wp2_with fail
    go_ret2
    rw [HA.out]
    exact ⟨rfl, bt2 hb hb3⟩
  · cases ht : sysB ys
    · have HA := Lib.hid (show comB zs ys = false by simp [comB, ht])
      go_enter Try.func51, Try.ntmps51
      go_wp2_with fail
      refine (c_implSystemPeriod_t _ _ _ zs hn hs _ hc).mono ?_
      rintro e w2 ⟨rfl, hb⟩
      have hd2 := hd.keep hb
      go_wp2_with fail
      refine (c_implSystemPeriod_f _ _ _ ys hm ht _ hd2).mono ?_
      rintro e w3 ⟨rfl, hb3⟩
      go_wp2_with fail
      go_ret2
      rw [HA.out]
      exact ⟨rfl, bt2 hb hb3⟩
    · obtain ⟨_, _, _, _, P1, P2⟩ := sysB_facts hs
      obtain ⟨_, _, _, _, Q1, Q2⟩ := sysB_facts ht
      have hl := (lcmI_pos P1 Q1).1
      by_cases hk : lcmI (perI zs) (perI ys) ≤ 1000
      · have HA := Lib.hid (show comB zs ys = true by simp [comB, hs, ht, hk])
        have HI := Lib.hid (show comI zs ys = lcmI (perI zs) (perI ys) from rfl)
        have hmo : modB (lcmI (perI zs) (perI ys)) = true := by simp [modB]; omega
        go_enter Try.func51, Try.ntmps51
        go_wp2_with fail
        refine (c_implSystemPeriod_t _ _ _ zs hn hs _ hc).mono ?_
        rintro e w2 ⟨rfl, hb⟩
        have hd2 := hd.keep hb
        go_wp2_with fail
        refine (c_implSystemPeriod_t _ _ _ ys hm ht _ hd2).mono ?_
        rintro e w3 ⟨rfl, hb3⟩
        go_wp2_with (first | (go_at_call 55; refine (c_commonMultiple _ _ P1 P2 Q1 Q2 _).mono ?_; rintro e w4 ⟨nq, rfl, rfl⟩) | (go_at_call 56; refine (c_inModuli _ _).mono ?_; rintro e w1 ⟨rfl, rfl⟩) | fail)
        go_ret2
        rw [HA.out, HI.out]
        exact ⟨rfl, bel_drewN (bt2 hb hb3) _⟩
      · have HA := Lib.hid (show comB zs ys = false by simp [comB, hk])
        have hmo : modB (lcmI (perI zs) (perI ys)) = false := by simp [modB]; omega
        go_enter Try.func51, Try.ntmps51
        go_wp2_with fail
        refine (c_implSystemPeriod_t _ _ _ zs hn hs _ hc).mono ?_
        rintro e w2 ⟨rfl, hb⟩
        have hd2 := hd.keep hb
        go_wp2_with fail
        refine (c_implSystemPeriod_t _ _ _ ys hm ht _ hd2).mono ?_
        rintro e w3 ⟨rfl, hb3⟩
        go_wp2_with (first | (go_at_call 55; refine (c_commonMultiple _ _ P1 P2 Q1 Q2 _).mono ?_; rintro e w4 ⟨nq, rfl, rfl⟩) | (go_at_call 56; refine (c_inModuli _ _).mono ?_; rintro e w1 ⟨rfl, rfl⟩) | fail)
        go_ret2
        rw [HA.out]
        exact ⟨rfl, bel_drewN (bt2 hb hb3) _⟩
theorem ints_cells {w : World} {b off n : Nat} {xs : List Int} (h : Ints w (some ⟨b, off, none⟩) n xs) (h0 : 0 < n) : ∀ j, j < xs.length → w.cell? ⟨b, off + j, none⟩ = some (.int .i64 (xs.getD j 0)) := by
  intro j hj
  have hl := h.len
  rcases h.lies with h1 | ⟨b', off', e, _, hcells⟩
  · omega
  · simp only [Option.some.injEq, Addr.mk.injEq, and_true] at e
    obtain ⟨rfl, rfl⟩ := e
    rw [hcells j (by omega), List.getD_eq_getElem?_getD]
theorem c_equalI (s t : Option Addr) (c d : Nat) (xs ys : List Int) (hx : xs.length ≤ 1048576) (hy : ys.length ≤ 1048576) (w : World) (h1 : Ints w s xs.length xs) (h2 : Ints w t ys.length ys) :
    Calls Try.prog 52 #[.slice s xs.length c, .slice t ys.length d] w fun e w' => e = .returned (.bool (xs == ys)) ∧ Below w.heap.size w w' := by
  by_cases h0 : xs.length = 0
  · obtain rfl := List.eq_nil_of_length_eq_zero h0
    refine Calls.mono (f := 52) (Any.slices_Equal_int_empty Try.equalA s t c ys.length d w (by omega)) ?_
    rintro e w' ⟨rfl, rfl⟩
    refine ⟨rb ?_, Below.refl _ _⟩
    cases ys <;> simp
  · by_cases h3 : ys.length = 0
    · refine Calls.mono (f := 52) (Any.slices_Equal_int_lens Try.equalA s t xs.length c ys.length d w (by omega)) ?_
      rintro e w' ⟨rfl, rfl⟩
      refine ⟨rb ?_, Below.refl _ _⟩
      cases xs <;> cases ys <;> simp_all
    · rcases h1.lies with h | ⟨b1, o1, rfl, _, _⟩
      · omega
      rcases h2.lies with h | ⟨b2, o2, rfl, _, _⟩
      · omega
      refine Calls.mono (f := 52) (Any.slices_Equal_int Try.equalA b1 o1 xs.length c b2 o2 ys.length d xs ys w (Nat.le_refl _) (Nat.le_refl _) (by omega) (by omega) (ints_cells h1 (by omega)) (ints_cells h2 (by omega))) ?_
      rintro e w' ⟨rfl, q, rfl⟩
      rw [List.take_length, List.take_length]
      exact ⟨rfl, bel_drewN (Below.refl _ _) _⟩
theorem holK_len (zs : List Cl) (k : Nat) (h : k ≤ 1000) : (holK zs k).length ≤ 1048576 := by have := holK_le zs k; omega
set_option maxRecDepth 20000 in
set_option maxHeartbeats 1000000 in
theorem c_implSystemSame (s t : Option Addr) (n m c1 c2 : Nat) (zs ys : List Cl) (hn : n ≤ 1048576) (hm : m ≤ 1048576) (w : World) (hc : Cls w s n zs) (hd : Cls w t m ys) :
    Calls Try.prog 16 #[.slice s n c1, .slice t m c2] w fun e w' => e = .returned (.bool (samB zs ys)) ∧ Below w.heap.size w w' := by
  have hcon := c_commonPeriod s t n m c1 c2 zs ys hn hm w hc hd
  cases hB : comB zs ys
  · have HA := Lib.hid (show samB zs ys = false by simp [samB, hB])
    rw [hB] at hcon
    go_enter Try.func16, Try.ntmps16
    go_wp2_with (go_at_call 51; refine hcon.mono ?_; rintro e w2 ⟨rfl, hb⟩)
    go_ret
    exact ⟨rb HA.out.symm, hb⟩
  · obtain ⟨hs, ht, M1, M2⟩ := com_bd hB
    obtain ⟨P, hP⟩ : ∃ P : Nat, comI zs ys = (P : Int) := ⟨(comI zs ys).toNat, by omega⟩
    have HA := Lib.hid (show samB zs ys = (holK zs P == holK ys P) by simp [samB, hB, hP])
    have HP : P ≤ 1000 := by omega
    obtain ⟨hl1, hl2, ha, _, _, _⟩ := sysB_facts hs
    obtain ⟨kl1, kl2, ka, _, _, _⟩ := sysB_facts ht
    have hlen := hc.len
    have klen := hd.len
    rw [hB, hP] at hcon
    have hmm := @run_makeMap Try.prog
    have hsb : ∀ g off, s = some ⟨g, off, none⟩ → g < w.heap.size := by
      intro g off e
      rcases hc.lies with h | ⟨b, off', rfl, hb, _⟩
      · omega
      · simp only [Option.some.injEq, Addr.mk.injEq, and_true] at e
        omega
    have htb : ∀ g off, t = some ⟨g, off, none⟩ → g < w.heap.size := by
      intro g off e
      rcases hd.lies with h | ⟨b, off', rfl, hb, _⟩
      · omega
      · simp only [Option.some.injEq, Addr.mk.injEq, and_true] at e
        omega
    clear hP M1 M2
    go_enter Try.func16, Try.ntmps16
    go_wp2_with (go_at_call 51; refine hcon.mono ?_; rintro e w2 ⟨rfl, hb⟩)
    have hsz := hb.size
    have hc2 := (hc.keep hb).keep (ba (Below.refl _ _) (.map #[] 0))
    have hd2 := (hd.keep hb).keep (ba (Below.refl _ _) (.map #[] 0))
    refine (c_holesBelow P s n c1 zs w2.heap.size 0 (.map []) HP (by omega) (by omega) ha _ hc2 (fun g off e => by have := hsb g off e; omega) (World.ownsMap_made _ _ _ _)).mono ?_
    rintro e w3 ⟨v, nn, D, rfl, hO, hM, hG⟩
    obtain ⟨s3, k3, rfl, hI3, hq3⟩ := hO.spread
    have hd3 : Cls w3 t m ys := by
      rcases hd2.lies with h | ⟨g, off, rfl, _, _⟩
      · omega
      · exact hd2.other hG (by have := htb g off rfl; omega)
    go_wp2_with fail
    refine (c_holesBelow P t m c2 ys w2.heap.size nn D HP (by omega) (by omega) ka _ hd3 (fun g off e => by have := htb g off e; omega) hM).mono ?_
    rintro e w4 ⟨v4, nn4, D4, rfl, hO4, hM4, hG4⟩
    obtain ⟨s4, k4, rfl, hI4, hq4⟩ := hO4.spread
    have hO3' := OwnI.other hO hG4 (by rcases hq3 with rfl | ⟨g, rfl, hg, _⟩ <;> simp [Value.ownBlock]; simp at hg; omega)
    have hI3' := spreadI hO3'
    go_wp2_with fail
    refine (c_equalI s3 s4 k3 k4 _ _ (holK_len _ _ HP) (holK_len _ _ HP) _ hI3' hI4).mono ?_
    rintro e w5 ⟨rfl, hb5⟩
    go_wp2_with fail
    go_ret
    refine ⟨rb HA.out.symm, bt2 ?_ hb5⟩
    have hz : ∀ j, some w2.heap.size = some j → w.heap.size ≤ j := fun j hj => by cases hj; exact hsz
    have hb3 := (ba hb (.map #[] 0)).grown hG (by simp; omega) hz
    exact hb3.grown hG4 hb3.size hz
end Go.Proofs.Ytgdpebnnmklbjaa
