/- Contracts of ExactTwins, in the program and in the model. -/
import Derived.Test.YthhpdmkebnbbbaaGreatDoorS43
import Derived.Test.YthhpdmkebnbbbaaGreatDoorMathW
import Derived.Shelf.Slices.Turned
namespace Go.Proofs.YthhpdmkebnbbbaaGreatDoor
open Go.RowKit Go.Shelf
def twiI (zs : List Cl) : Int := selI (sysB zs) (twF zs zs.length).2
theorem twi_index {zs : List Cl} (hs : sysB zs = true) : ∃ i : Nat, i < zs.length ∧ Lib.idxOf ((modL zs).take zs.length) ((modL zs).getD (zs.length - 1) 0) = (i : Int) ∧ (twF zs zs.length).2 = (zs.length : Int) - i := by
  obtain ⟨l1, l2, ha, _⟩ := sysB_facts hs
  have hL : (modL zs).Pairwise (· ≤ ·) := by
    unfold modL
    rw [List.pairwise_map]
    refine (srtL_asc zs).imp fun {a b} h => ?_
    unfold leC at h
    omega
  have hlen := modL_length zs
  obtain ⟨i, h1, h2, h3, h4⟩ := asc_count hL (by omega)
  rw [hlen] at h1 h2 h3 h4
  refine ⟨i, h1, Lib.idxOf_hit _ _ _ _ h1 (by omega) h2 h3, ?_⟩
  obtain ⟨f1, f2, f3, _⟩ := twF_facts ha zs.length (Nat.le_refl _)
  have hM : (modL zs).getD (zs.length - 1) 0 = (twF zs zs.length).1 := by
    have hmem : ∀ j, j < zs.length → ∃ q, q < zs.length ∧ (modL zs).getD q 0 = mAt zs j := by
      intro j hj
      have : mAt zs j ∈ modL zs := by
        unfold modL
        refine List.mem_map.2 ⟨zs[j], (srtL_perm zs).symm.subset (List.getElem_mem hj), by simp [mAt, hj]⟩
      obtain ⟨q, hq, e⟩ := List.mem_iff_getElem.1 this
      exact ⟨q, by omega, by simp [hq, e]⟩
    have hmem2 : ∀ q, q < zs.length → ∃ j, j < zs.length ∧ (modL zs).getD q 0 = mAt zs j := by
      intro q hq
      have : (modL zs)[q]'(by omega) ∈ modL zs := List.getElem_mem _
      unfold modL at this
      obtain ⟨c, hc, e⟩ := List.mem_map.1 this
      obtain ⟨j, hj, e2⟩ := List.mem_iff_getElem.1 ((srtL_perm zs).subset hc)
      refine ⟨j, hj, ?_⟩
      have e3 : (modL zs).getD q 0 = (modL zs)[q]'(by omega) := by simp [show q < (modL zs).length by omega]
      rw [e3]
      show (modL zs)[q]'(by omega) = mAt zs j
      unfold modL
      rw [← e, ← e2]
      simp [mAt, hj]
    have hmax : ∀ q, q < zs.length → (modL zs).getD q 0 ≤ (modL zs).getD (zs.length - 1) 0 := by
      intro q hq
      rcases Nat.lt_or_ge q (zs.length - 1) with h | h
      · have := List.pairwise_iff_getElem.1 hL q (zs.length - 1) (by omega) (by omega) h
        simpa [show q < (modL zs).length by omega, show zs.length - 1 < (modL zs).length by omega] using this
      · rw [show q = zs.length - 1 by omega]; exact Int.le_refl _
    obtain ⟨j, hj, e⟩ := hmem2 (zs.length - 1) (by omega)
    obtain ⟨j2, hj2, e2⟩ := f3 (by omega)
    obtain ⟨q, hq, e3⟩ := hmem j2 hj2
    have a1 := f1 j hj
    have a2 := hmax q hq
    omega
  rw [hM] at h4
  have hcnt : ((modL zs).countP fun x => x == (twF zs zs.length).1) = (zs.countP fun c => c.2 == (twF zs zs.length).1) := by
    unfold modL
    rw [List.countP_map, (srtL_perm zs).countP_eq]
    rfl
  rw [List.take_length] at f2
  rw [f2, ← hcnt, h4]
  exact (fun (a b : Nat) (h : b < a) => show ((a - b : Nat) : Int) = (a : Int) - b by omega) _ _ h1
set_option maxRecDepth 20000 in
set_option maxHeartbeats 1000000 in
theorem c_implExactTwins (s : Option Addr) (n cap : Nat) (zs : List Cl) (hn : n ≤ 1048576) (w : World) (hg : LaidE w) (hc : Cls w s n zs) : Calls Tryz.prog 13 #[.slice s n cap] w fun e w' => e = .returned (.tuple #[.int .i64 (twiI zs), .bool (sysB zs)]) ∧ Below w.heap.size w w' := by
  have hcon := c_implExactModuli s n cap zs hn w hg hc
  cases hs : sysB zs
  · rw [hs, modR_f hs] at hcon
    have e0 : twiI zs = 0 := by unfold twiI; rw [hs]; rfl
    rw [e0]
    go_enter Tryz.func13, Tryz.ntmps13
    go_wp2_with fail
    refine hcon.mono ?_
    rintro e w2 ⟨v, rfl, hO, hb⟩
    go_wp2_with fail
    go_ret2
    exact ⟨rfl, hb⟩
  · rw [hs, modR_t hs] at hcon
    obtain ⟨l1, l2, _⟩ := sysB_facts hs
    obtain ⟨i, i1, i2, i3⟩ := twi_index hs
    have e0 : twiI zs = (n : Int) - i := by unfold twiI; rw [hs, selI_t, i3, hc.len]
    have hml : (modL zs).length = n := by rw [modL_length, hc.len]
    have hlen := hc.len
    rw [hlen] at l1 l2 i1 i2
    rw [e0]
    clear e0 hlen hc i3 hs
    generalize modL zs = ms at *
    go_enter Tryz.func13, Tryz.ntmps13
    go_wp2_with fail
    refine hcon.mono ?_
    rintro e w2 ⟨v, rfl, hO, hb⟩
    obtain ⟨so, co, hv, hL, _⟩ := hO.spread
    rw [hml] at hv hL
    subst hv
    rcases hL.lies with h0 | ⟨b, off, rfl, hbb, hcells⟩
    · omega
    have hx := hcells (n - 1) (by omega)
    have hci : ∀ j, j < ms.length → w2.cell? ⟨b, off + j, none⟩ = some (.int .i64 (ms.getD j 0)) := fun j hj => by
      have := hcells j (by omega)
      rw [List.getD_eq_getElem?_getD]
      exact this
    have hM : ms[n - 1]?.getD 0 = ms.getD (n - 1) 0 := by simp [List.getD]
    rw [hM] at hx
    clear hO hcon hcells hM
    have hix := fun w1 (hw : w1 = w2) => by
      subst hw
      exact Any.slices_Index_int Tryz.indexA b off n co ms (ms.getD (n - 1) 0) w1 (by omega) (by omega) hci
    rw [i2] at hix
    generalize ms.getD (n - 1) 0 = M at *
    have hn1 : (n : Int) - 1 = ((n - 1 : Nat) : Int) := by omega
    have hnz0 : (0 : Int) ≤ ((n - 1 : Nat) : Int) := by omega
    have hnz1 : ((n - 1 : Nat) : Int) < (n : Int) := by omega
    have hw1 : IntKind.i64.wrap ((n : Int) - 1) = ((n - 1 : Nat) : Int) := by rw [IntWalk.i64_in _ (by omega)]; omega
    have hiw : (i : Int) ≤ 8 := by omega
    go_wp2_with fail
    refine Calls.mono (f := 35) (hix _ rfl) ?_
    rintro e w3 ⟨rfl, rfl⟩
    go_wp2_with fail
    go_ret2
    exact ⟨rfl, hb⟩
set_option maxRecDepth 20000 in
set_option maxHeartbeats 1000000 in
theorem c_specExactTwins (s : Option Addr) (n cap : Nat) (zs : List Cl) (hn : n ≤ 1048576) (w : World) (hc : Cls w s n zs) : Calls Tryz.prog 14 #[.slice s n cap] w fun e w' => e = .returned (.tuple #[.int .i64 (twiI zs), .bool (sysB zs)]) ∧ Below w.heap.size w w' := by
  have hcon := c_specSystemIn s n cap zs hn w hc
  cases hs : sysB zs
  · rw [hs] at hcon
    have e0 : twiI zs = 0 := by unfold twiI; rw [hs]; rfl
    rw [e0]
    go_enter Tryz.func14, Tryz.ntmps14
    go_wp2_with fail
    refine hcon.mono ?_
    rintro e w2 ⟨rfl, hb⟩
    go_wp2_with fail
    go_ret2
    exact ⟨rfl, hb⟩
  · rw [hs] at hcon
    obtain ⟨l1, l2, ha, _⟩ := sysB_facts hs
    have hlen := hc.len
    have HE := Lib.hid (show (twF zs n).2 = twiI zs by unfold twiI; rw [hs, selI_t, hlen])
    have HB := Lib.hid (fun k (h : k ≤ n) => (twF_facts ha k (by omega)).2.2.2)
    have HS := Lib.hid (fun k => show twF zs (k + 1) = if (twF zs k).1 < mAt zs k then (mAt zs k, 1) else if mAt zs k = (twF zs k).1 then ((twF zs k).1, (twF zs k).2 + 1) else twF zs k from rfl)
    rw [hlen] at l1 l2
    clear ha hlen hs
    go_enter Tryz.func14, Tryz.ntmps14
    go_wp2_with fail
    refine hcon.mono ?_
    rintro e w2 ⟨rfl, hb⟩
    go_wp2_with fail
    go_loopw [4, 5, 6] (fun m q i wr => ∃ k : Nat, k ≤ n ∧ i = .int .i64 k ∧ m = .int .i64 (twF zs k).1 ∧ q = .int .i64 (twF zs k).2 ∧ Below w.heap.size w wr) (fun _ _ i _ => n - (intOf i).toNat)
    case atStart => exact ⟨0, Nat.zero_le _, rfl, rfl, rfl, hb⟩
    case round =>
      obtain ⟨k, hk, rfl, rfl, rfl, hB⟩ := hrel
      have hkw : k ≤ 10 := by omega
      by_cases hlt : k < n
      · rcases (hc.keep hB).lies with h0 | ⟨b, off, rfl, hb', hcells⟩
        · omega
        obtain ⟨_, hy⟩ := hcells k hlt
        have hs2 := HS.out k
        obtain ⟨t1, t2, t3, t4⟩ := HB.out k hk
        have hkz0 : (0 : Int) ≤ (k : Int) := by omega
        have hkz1 : (k : Int) < (n : Int) := by omega
        clear hcells
        generalize twF zs k = T at *
        obtain ⟨tm, tn⟩ := T
        simp only at hs2 t1 t2 t3 t4 ⊢
        generalize mAt zs k = mk at *
        by_cases hA : tm < mk
        · rw [if_pos hA] at hs2
          have HS2 := Lib.hid hs2
          clear hs2
          have hmm : (mk == mk) = true := by simp
          go_wp2_with fail
          go_roundw
          case rel => exact ⟨k + 1, by omega, by go_num, by rw [HS2.out], by rw [HS2.out], hB⟩
          case measure => simp [intOf]; omega
        · rw [if_neg hA] at hs2
          by_cases hE : mk = tm
          · rw [if_pos hE] at hs2
            have HS2 := Lib.hid hs2
            clear hs2
            subst hE
            have hmm : (mk == mk) = true := by simp
            go_wp2_with fail
            go_roundw
            case rel => exact ⟨k + 1, by omega, by go_num, by rw [HS2.out], by rw [HS2.out], hB⟩
            case measure => simp [intOf]; omega
          · rw [if_neg hE] at hs2
            have HS2 := Lib.hid hs2
            clear hs2
            have hmm : (mk == tm) = false := by simpa using hE
            go_wp2_with fail
            go_roundw
            case rel => exact ⟨k + 1, by omega, by go_num, by rw [HS2.out], by rw [HS2.out], hB⟩
            case measure => simp [intOf]; omega
      · have hkn : n = k := by omega
        subst hkn
        go_wp2_with fail
        go_ret2
        rw [HE.out]
        exact ⟨rfl, hB⟩
end Go.Proofs.YthhpdmkebnbbbaaGreatDoor
