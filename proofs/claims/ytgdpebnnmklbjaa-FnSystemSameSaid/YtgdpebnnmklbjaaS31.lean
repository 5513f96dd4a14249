/- The model's l3Least and HoleLeast. -/
import Derived.Test.YtgdpebnnmklbjaaS29
import Derived.Test.YtgdpebnnmklbjaaS30
namespace Go.Proofs.Ytgdpebnnmklbjaa
open Go.RowKit
def LePost (E : Int) (zs : List Cl) (w : World) (e : Ending) (w' : World) : Prop := ∃ s' n' cap', e = .returned (.slice s' n' cap') ∧ n' ≤ cap' ∧ Cls w' s' n' (lesL E zs) ∧ Below w.heap.size w w'
theorem wrap_down {k n : Nat} (h : k ≤ n) (hn : n ≤ 1000) : IntKind.i64.wrap ((k : Int) - 1) = (k : Int) - 1 := IntWalk.i64_in _ (by omega)
set_option maxRecDepth 20000 in
set_option maxHeartbeats 4000000 in
theorem c_l3LeastS (E : Int) (s : Option Addr) (n cap : Nat) (zs : List Cl) (w : World) (hn : n ≤ 1000) (hcap : n ≤ cap) (hcb : cap ≤ 9223372036854775807) (hD : Div E zs) (hc : Cls w s n zs)
    (hIH : ∀ (i : Nat) (s' : Option Addr) (cap' : Nat) (w' : World), i < n → (zs.eraseIdx i).length ≤ cap' → cap' ≤ 9223372036854775807 → Cls w' s' (zs.eraseIdx i).length (zs.eraseIdx i) →
      Calls Try.prog 86 #[.slice s' (zs.eraseIdx i).length cap'] w' (LePost E (zs.eraseIdx i) w')) :
    Calls Try.prog 86 #[.slice s n cap] w (LePost E zs w) := by
  have hlen := hc.len
  have ha := hD.all
  obtain ⟨_, hp1, hp2, _⟩ := hD.per
  have hspa := fun (i : Nat) (h : i < n) w1 (h1 : Cls w1 s n zs) => c_l3Spare s n cap zs i (by omega) hcap hcb h ha (by omega) hp2 w1 h1
  have HP := Lib.hid (fun (i : Nat) (h : i < n) => spaB_per (i := i) hD (by omega))
  have HN := Lib.hid (fun (h : topS zs E n = none) => lesL_none (E := E) (zs := zs) (by rw [hlen]; exact h))
  have HS := Lib.hid (fun (i : Nat) (h : topS zs E n = some i) => lesL_some (E := E) (zs := zs) (by rw [hlen]; exact h))
  have hz : (n : Int) - 1 ≤ 1000 := by omega
  have hw0 := wrap_down (Nat.le_refl n) hn
  clear ha hp1 hp2 hlen
  go_enter Try.func86, Try.ntmps86
  go_wp2_with fail
  go_loopw [3] (fun x wr => ∃ k : Nat, k ≤ n ∧ x = .int .i64 ((k : Int) - 1) ∧ Hid (topS zs E n = topS zs E k) ∧ Below w.heap.size w wr) (fun x _ => (intOf x + 1).toNat)
  case atStart => exact ⟨n, Nat.le_refl _, rfl, Lib.hid rfl, Below.refl _ _⟩
  case round =>
    obtain ⟨k, hk, rfl, hT, hB⟩ := hrel
    cases k with
    | zero =>
      have HR := Lib.hid (HN.out (by rw [hT.out]; rfl))
      clear hspa hIH HP HN HS hT
      go_wp2_with fail
      go_ret
      exact ⟨_, _, _, rfl, hcap, by rw [HR.out]; exact hc.keep hB, hB⟩
    | succ j =>
      have ej : (((j + 1 : Nat) : Int) - 1) = (j : Int) := by omega
      rw [ej]
      have hcr := hc.keep hB
      have hj0 : (0 : Int) ≤ (j : Int) := by omega
      have hwj := wrap_down (show j ≤ n by omega) hn
      have hcon := hspa j (by omega) _ hcr
      rw [HP.out j (by omega)] at hcon
      cases hs : spaB zs j E
      · have hT2 := Lib.hid (show topS zs E n = topS zs E j by rw [hT.out]; simp only [topS, hs, cond_false])
        rw [hs] at hcon
        clear hT hs hspa HP HN HS hIH
        go_wp2_with fail
        refine hcon.mono ?_
        rintro e w2 ⟨rfl, hb⟩
        have hB2 := bt2 hB hb
        go_wp2_with fail
        go_roundw
        case rel => exact ⟨j, by omega, rfl, hT2, hB2⟩
        case measure => simp [intOf]
      · have hT2 := Lib.hid (HS.out j (by rw [hT.out]; simp only [topS, hs, cond_true]))
        have hwo := fun w1 (h1 : Cls w1 s n zs) => c_l3Without s n cap zs j (by omega) hcap hcb (by omega) w1 h1
        rw [hs] at hcon
        have hI := hIH j
        clear hT hs hspa HP HN HS hIH
        go_wp2_with fail
        refine hcon.mono ?_
        rintro e w2 ⟨rfl, hb⟩
        have hB2 := bt2 hB hb
        have hc2 := hcr.keep hb
        go_wp2_with fail
        refine (hwo _ hc2).mono ?_
        rintro e w3 ⟨v3, rfl, hO3, hb3⟩
        have hB3 := bt2 hB2 hb3
        obtain ⟨s3, cap3, rfl, hC3, _⟩ := hO3.spread
        have hroom : (zs.eraseIdx j).length ≤ cap3 ∧ cap3 ≤ 9223372036854775807 := by
          rcases hO3.2 with ⟨h1, h2⟩ | ⟨g', cap', cur, h1, _, _, h3, h4, _⟩
          · simp only [Value.slice.injEq] at h1
            omega
          · simp only [Value.slice.injEq] at h1
            unfold maxLen at h4
            omega
        go_wp2_with fail
        refine (hI _ _ _ (by omega) hroom.1 hroom.2 hC3).mono ?_
        rintro e w4 ⟨s4, n4, cap4, rfl, h4, hC4, hb4⟩
        go_wp2_with fail
        go_ret
        exact ⟨_, _, _, rfl, h4, by rw [hT2.out]; exact hC4, bt2 hB3 hb4⟩
theorem c_l3Least (E : Int) : ∀ (k : Nat) (s : Option Addr) (n cap : Nat) (zs : List Cl) (w : World), zs.length ≤ k → n ≤ 1000 → n ≤ cap → cap ≤ 9223372036854775807 → Div E zs → Cls w s n zs →
    Calls Try.prog 86 #[.slice s n cap] w (LePost E zs w) := by
  intro k
  induction k with
  | zero =>
    intro s n cap zs w hk hn hcap hcb hD hc
    have hlen := hc.len
    exact c_l3LeastS E s n cap zs w hn hcap hcb hD hc fun i s' cap' w' hi => by omega
  | succ k ih =>
    intro s n cap zs w hk hn hcap hcb hD hc
    have hlen := hc.len
    refine c_l3LeastS E s n cap zs w hn hcap hcb hD hc fun i s' cap' w' hi h1 h2 hC => ?_
    have hl : (zs.eraseIdx i).length = zs.length - 1 := List.length_eraseIdx_of_lt (by omega)
    exact ih _ _ _ _ w' (by omega) (by omega) h1 h2 (hD.erase i) hC
end Go.Proofs.Ytgdpebnnmklbjaa
