/- The program's HoleLeast: a closure that recurs. -/
import Derived.Test.YtgokhchkpjnnlaaS27
import Derived.Test.YtgokhchkpjnnlaaMathE
import Derived.Test.YtgokhchkpjnnlaaS21
import Derived.Laws.EntriesVeiled
import Derived.Test.YtgokhchkpjnnlaaS29
namespace Go.Proofs.Ytgokhchkpjnnlaa
open Go.RowKit
theorem WidC.lt {w : World} {base : Nat} {v : Value} {zs : List Cl} (h : WidC w base v zs) : base ≤ w.heap.size := by
  obtain ⟨g, cap, cur, hv, hg, hc, hh, r⟩ := h
  have := block_lt hh
  omega
def LeastPost (E : Int) (zs : List Cl) (base : Nat) (w : World) (e : Ending) (w' : World) : Prop := ∃ v, e = .returned v ∧ WidC w' base v (lesL E zs) ∧ Below w.heap.size w w'
/-- a list of classes, perhaps with room behind it, or nothing -/
def WidV (w : World) (base : Nat) (v : Value) (zs : List Cl) : Prop := ∃ s cap room, v = .slice s zs.length cap ∧ OwnC w base 34 (.slice s zs.length room) zs
def RetWid (w : World) (zs : List Cl) (b : Bool) (e : Ending) (w' : World) : Prop := ∃ v, e = .returned (.tuple #[v, .bool b]) ∧ WidV w' w.heap.size v zs ∧ Below w.heap.size w w'
/-- what the law HoleLeast answers -/
def hleR (zs : List Cl) : List Cl := bif sysB zs then lesL (perI zs) zs else []
theorem hleR_t {zs : List Cl} (h : sysB zs = true) : hleR zs = lesL (perI zs) zs := by simp [hleR, h]
theorem hleR_f {zs : List Cl} (h : sysB zs = false) : hleR zs = [] := by simp [hleR, h]
theorem hleR_le (zs : List Cl) : (hleR zs).length ≤ zs.length := by
  unfold hleR
  cases sysB zs
  · simp
  · exact lesL_len _ _
end Go.Proofs.Ytgokhchkpjnnlaa
namespace Go.Proofs.Ytgokhchkpjnnlaa
open Go.RowKit
def LePost (E : Int) (zs : List Cl) (w : World) (e : Ending) (w' : World) : Prop := ∃ s' n' cap', e = .returned (.slice s' n' cap') ∧ n' ≤ cap' ∧ Cls w' s' n' (lesL E zs) ∧ Below w.heap.size w w'
theorem wrap_down {k n : Nat} (h : k ≤ n) (hn : n ≤ 1000) : IntKind.i64.wrap ((k : Int) - 1) = (k : Int) - 1 := IntWalk.i64_in _ (by omega)
set_option maxRecDepth 20000 in
set_option maxHeartbeats 4000000 in
theorem c_l3LeastS (E : Int) (s : Option Addr) (n cap : Nat) (zs : List Cl) (w : World) (hn : n ≤ 1000) (hcap : n ≤ cap) (hcb : cap ≤ 9223372036854775807) (hD : Div E zs) (hc : Cls w s n zs)
    (hIH : ∀ (i : Nat) (s' : Option Addr) (cap' : Nat) (w' : World), i < n → (zs.eraseIdx i).length ≤ cap' → cap' ≤ 9223372036854775807 → Cls w' s' (zs.eraseIdx i).length (zs.eraseIdx i) →
      Calls Try.prog 86 #[.slice s' (zs.eraseIdx i).length cap'] w' (LePost E (zs.eraseIdx i) w')) :
    Calls Try.prog 86 #[.slice s n cap] w (LePost E zs w) := by
  have hlen := hc.len
  have ha := hD.all
  obtain ⟨_, hp1, hp2, _⟩ := hD.per
  have hspa := fun (i : Nat) (h : i < n) w1 (h1 : Cls w1 s n zs) => c_l3Spare s n cap zs i (by omega) hcap hcb h ha (by omega) hp2 w1 h1
  have HP := Lib.hid (fun (i : Nat) (h : i < n) => spaB_per (i := i) hD (by omega))
  have HN := Lib.hid (fun (h : topS zs E n = none) => lesL_none (E := E) (zs := zs) (by rw [hlen]; exact h))
  have HS := Lib.hid (fun (i : Nat) (h : topS zs E n = some i) => lesL_some (E := E) (zs := zs) (by rw [hlen]; exact h))
  have hz : (n : Int) - 1 ≤ 1000 := by omega
  have hw0 := wrap_down (Nat.le_refl n) hn
  clear ha hp1 hp2 hlen
  go_enter Try.func86, Try.ntmps86
  go_wp2_with fail
  go_loopw [3] (fun x wr => ∃ k : Nat, k ≤ n ∧ x = .int .i64 ((k : Int) - 1) ∧ Hid (topS zs E n = topS zs E k) ∧ Below w.heap.size w wr) (fun x _ => (intOf x + 1).toNat)
  case atStart => exact ⟨n, Nat.le_refl _, rfl, Lib.hid rfl, Below.refl _ _⟩
  case round =>
    obtain ⟨k, hk, rfl, hT, hB⟩ := hrel
    cases k with
    | zero =>
      have HR := Lib.hid (HN.out (by rw [hT.out]; rfl))
      clear hspa hIH HP HN HS hT
      go_wp2_with fail
      go_ret
      exact ⟨_, _, _, rfl, hcap, by rw [HR.out]; exact hc.keep hB, hB⟩
    | succ j =>
      have ej : (((j + 1 : Nat) : Int) - 1) = (j : Int) := by omega
      rw [ej]
      have hcr := hc.keep hB
      have hj0 : (0 : Int) ≤ (j : Int) := by omega
      have hwj := wrap_down (show j ≤ n by omega) hn
      have hcon := hspa j (by omega) _ hcr
      rw [HP.out j (by omega)] at hcon
      cases hs : spaB zs j E
      · have hT2 := Lib.hid (show topS zs E n = topS zs E j by rw [hT.out]; simp only [topS, hs, cond_false])
        rw [hs] at hcon
        clear hT hs hspa HP HN HS hIH
        go_wp2_with fail
        refine hcon.mono ?_
        rintro e w2 ⟨rfl, hb⟩
        have hB2 := bt2 hB hb
        go_wp2_with fail
        go_roundw
        case rel => exact ⟨j, by omega, rfl, hT2, hB2⟩
        case measure => simp [intOf]
      · have hT2 := Lib.hid (HS.out j (by rw [hT.out]; simp only [topS, hs, cond_true]))
        have hwo := fun w1 (h1 : Cls w1 s n zs) => c_l3Without s n cap zs j (by omega) hcap hcb (by omega) w1 h1
        rw [hs] at hcon
        have hI := hIH j
        clear hT hs hspa HP HN HS hIH
        go_wp2_with fail
        refine hcon.mono ?_
        rintro e w2 ⟨rfl, hb⟩
        have hB2 := bt2 hB hb
        have hc2 := hcr.keep hb
        go_wp2_with fail
        refine (hwo _ hc2).mono ?_
        rintro e w3 ⟨v3, rfl, hO3, hb3⟩
        have hB3 := bt2 hB2 hb3
        obtain ⟨s3, cap3, rfl, hC3, _⟩ := hO3.spread
        have hroom : (zs.eraseIdx j).length ≤ cap3 ∧ cap3 ≤ 9223372036854775807 := by
          rcases hO3.2 with ⟨h1, h2⟩ | ⟨g', cap', cur, h1, _, _, h3, h4, _⟩
          · simp only [Value.slice.injEq] at h1
            omega
          · simp only [Value.slice.injEq] at h1
            unfold maxLen at h4
            omega
        go_wp2_with fail
        refine (hI _ _ _ (by omega) hroom.1 hroom.2 hC3).mono ?_
        rintro e w4 ⟨s4, n4, cap4, rfl, h4, hC4, hb4⟩
        go_wp2_with fail
        go_ret
        exact ⟨_, _, _, rfl, h4, by rw [hT2.out]; exact hC4, bt2 hB3 hb4⟩
theorem c_l3Least (E : Int) : ∀ (k : Nat) (s : Option Addr) (n cap : Nat) (zs : List Cl) (w : World), zs.length ≤ k → n ≤ 1000 → n ≤ cap → cap ≤ 9223372036854775807 → Div E zs → Cls w s n zs →
    Calls Try.prog 86 #[.slice s n cap] w (LePost E zs w) := by
  intro k
  induction k with
  | zero =>
    intro s n cap zs w hk hn hcap hcb hD hc
    have hlen := hc.len
    exact c_l3LeastS E s n cap zs w hn hcap hcb hD hc fun i s' cap' w' hi => by omega
  | succ k ih =>
    intro s n cap zs w hk hn hcap hcb hD hc
    have hlen := hc.len
    refine c_l3LeastS E s n cap zs w hn hcap hcb hD hc fun i s' cap' w' hi h1 h2 hC => ?_
    have hl : (zs.eraseIdx i).length = zs.length - 1 := List.length_eraseIdx_of_lt (by omega)
    exact ih _ _ _ _ w' (by omega) (by omega) h1 h2 (hD.erase i) hC
end Go.Proofs.Ytgokhchkpjnnlaa
namespace Go.Proofs.Ytgokhchkpjnnlaa
open Go.RowKit
theorem topS_one {E : Int} {c : Cl} (hD : Div E [c]) : topS [c] E 1 = none := by
  obtain ⟨hin, hm⟩ := hD.at (zs := [c]) (i := 0) (by simp)
  obtain ⟨m1, _, r1, r2⟩ := inB_iff.1 hin
  have hle := Int.le_of_dvd (by have := hD.1; omega) hm
  have hs : spaB [c] 0 E = false := by
    cases h : spaB [c] 0 E
    · rfl
    · have := (spaB_iff hin hD.2.1).1 h 0 (by simp; omega)
      simp [covB_any] at this
  simp [topS, hs]
theorem lesL_pos {E : Int} : ∀ (k : Nat) (zs : List Cl), zs.length ≤ k → Div E zs → 1 ≤ zs.length → 1 ≤ (lesL E zs).length := by
  intro k
  induction k with
  | zero => intro zs h1 _ h2; omega
  | succ k ih =>
    intro zs h1 hD h2
    cases ht : topS zs E zs.length with
    | none => rw [lesL_none ht]; exact h2
    | some i =>
      have hi := topS_lt ht
      have hl : (zs.eraseIdx i).length = zs.length - 1 := List.length_eraseIdx_of_lt hi
      rw [lesL_some ht]
      refine ih _ (by omega) (hD.erase i) ?_
      rcases Nat.lt_or_ge 1 zs.length with h | h
      · omega
      · obtain ⟨c, rfl⟩ : ∃ c, zs = [c] := List.length_eq_one_iff.1 (by omega)
        have := topS_one hD
        rw [List.length_singleton, this] at ht
        cases ht
set_option maxRecDepth 20000 in
set_option maxHeartbeats 1000000 in
theorem c_specHoleLeast (s : Option Addr) (n cap : Nat) (zs : List Cl) (hn : n ≤ 1048576) (hcap : n ≤ cap) (hcb : cap ≤ 9223372036854775807) (w : World) (hc : Cls w s n zs) : Calls Try.prog 70 #[.slice s n cap] w (RetC w (hleR zs) (sysB zs)) := by
  have hcon := c_specSystemIn s n cap zs hn w hc
  obtain ⟨i0, hi, hz0, hz1, hz2⟩ := info_parts infoC
  cases hs : sysB zs
  · rw [hleR_f hs]
    rw [hs] at hcon
    go_enter Try.func70, Try.ntmps70
    go_wp2_with (go_at_call 15; refine hcon.mono ?_; rintro e w2 ⟨rfl, hb⟩)
    go_ret2
    exact ⟨_, rfl, World.ownsRow_lit w2 #[] 0 hb.size (by unfold maxLen; omega) rfl, ba hb _⟩
  · rw [hleR_t hs]
    rw [hs] at hcon
    obtain ⟨hl1, hl2, ha, _, P1, P2⟩ := sysB_facts hs
    have hD := Div.sys hs
    have hlen := hc.len
    have hp := lesL_pos _ _ (Nat.le_refl _) hD hl1
    have hle := lesL_len (perI zs) zs
    have hles := fun w1 (h1 : Cls w1 s n zs) => c_l3Least (perI zs) _ s n cap zs w1 (Nat.le_refl _) (by omega) hcap hcb hD h1
    generalize hP : perI zs = P at *
    go_enter Try.func70, Try.ntmps70
    go_wp2_with fail
    refine hcon.mono ?_
    rintro e w2 ⟨rfl, hb⟩
    have hc2 := hc.keep hb
    have hb2 := ba hb (.cells #[] 34)
    have hO2 : (w2.alloc (.cells #[] 34)).ownsRow w.heap.size 34 2 (.slice (some ⟨w2.heap.size, 0, none⟩) 0 0) 0 [] := World.ownsRow_lit w2 #[] 0 hb.size (by unfold maxLen; omega) rfl
    have hc3 := hc.keep hb2
    go_wp2_with fail
    refine (hles _ hc3).mono ?_
    rintro e w3 ⟨s3, n3, cap3, rfl, hq3, hC3, hb3⟩
    have hl3 := hC3.len
    have hB3 := bt2 hb2 hb3
    have hO3 := row_keep hO2 hb3
    have HO := Lib.hid (cells2_oc (lesL P zs))
    have HN := Lib.hid (show (cells2 (lesL P zs)).length = n3 * 2 by rw [cells2_length, hl3])
    have HL := Lib.hid hl3
    obtain ⟨b3, o3, rfl⟩ : ∃ b o, s3 = some ⟨b, o, none⟩ := by
      rcases hC3.lies with h0 | ⟨b, off, h, _⟩
      · omega
      · exact ⟨b, off, h⟩
    have HC := Lib.hid (cls_at hC3 (by omega))
    have hs3 := hB3.size
    have hn3 : n3 ≤ 8 := by omega
    generalize lesL P zs = Q at *
    clear hles hC3 hO2 hl3 hp hle
    go_wp2_with (at_builtin; refine wpList_append_own _ rfl _ _ 23 rfl w.heap.size 34 i0 (.agg #[.int .i64 0, .int .i64 0]) 2 16 Try.underlying23 hi hz0 hz1 hz2 rfl (by decide) (.slice (some ⟨w2.heap.size, 0, none⟩) 0 0) 0 [] rfl hO3 ⟨b3, o3, none⟩ n3 cap3 (cells2 Q) rfl HN.out HC.out HO.out (by unfold maxLen; omega) (by omega) hs3 ?_; intro v5 w5 hown5 hgrow5 _)
    have hOC : OwnC w5 w.heap.size 34 v5 Q := by
      unfold OwnC
      rw [HL.out]
      simpa using hown5
    have hB5 : Below w.heap.size w w5 := hB3.grown hgrow5 hs3 (fun g e => by cases e; exact hb.size)
    go_ret2
    exact ⟨_, rfl, hOC, hB5⟩
end Go.Proofs.Ytgokhchkpjnnlaa
