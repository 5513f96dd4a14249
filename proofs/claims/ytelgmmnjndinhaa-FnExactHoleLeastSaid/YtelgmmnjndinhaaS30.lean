/- The program's HoleLeast: a closure that recurs. -/
import Derived.Test.YtelgmmnjndinhaaS27
import Derived.Test.YtelgmmnjndinhaaMathE
import Derived.Test.YtelgmmnjndinhaaS21
import Derived.Laws.EntriesVeiled
namespace Go.Proofs.Ytelgmmnjndinhaa
open Go.RowKit
theorem WidC.lt {w : World} {base : Nat} {v : Value} {zs : List Cl} (h : WidC w base v zs) : base ≤ w.heap.size := by
  obtain ⟨g, cap, cur, hv, hg, hc, hh, r⟩ := h
  have := block_lt hh
  omega
def LeastPost (E : Int) (zs : List Cl) (base : Nat) (w : World) (e : Ending) (w' : World) : Prop := ∃ v, e = .returned v ∧ WidC w' base v (lesL E zs) ∧ Below w.heap.size w w'
set_option maxRecDepth 20000 in
set_option maxHeartbeats 4000000 in
theorem c_least (E : Int) (B4 B6 base : Nat) : ∀ (k : Nat) (s : Option Addr) (n cap : Nat) (zs : List Cl) (w : World), zs.length ≤ k → zs.length ≤ 1000 → Div E zs → WidC w base (.slice s n cap) zs →
    w.cell? ⟨B4, 0, none⟩ = some (.int .i64 E) → w.cell? ⟨B6, 0, none⟩ = some (.func (.func 60) #[] #[.pointer (some ⟨B4, 0, none⟩), .pointer (some ⟨B6, 0, none⟩)]) →
    Calls Try.prog 60 #[.slice s n cap, .pointer (some ⟨B4, 0, none⟩), .pointer (some ⟨B6, 0, none⟩)] w (LeastPost E zs base w) := by
  intro k
  induction k with
  | zero =>
    intro s n cap zs w hk hz hD hW h4 h6
    have hnil : zs = [] := List.eq_nil_of_length_eq_zero (by omega)
    subst hnil
    obtain ⟨g, cap', cur, hv, _⟩ := id hW
    simp only [Value.slice.injEq] at hv
    obtain ⟨rfl, rfl, rfl⟩ := hv
    have hc := hW.cls.1
    have hcon := c_sparePlaces _ _ cap [] E (by simp) hD.all hD.1 hD.2.1 w hc
    go_enter Try.func60, Try.ntmps60
    go_wp2_with (go_at_call 58; refine hcon.mono ?_; rintro e w2 ⟨v, rfl, hO, hb⟩; obtain ⟨s2, k2, rfl, _, _⟩ := hO.spread)
    go_ret
    exact ⟨_, rfl, hW.keep hb, hb⟩
  | succ k ih =>
    intro s n cap zs w hk hz hD hW h4 h6
    have hbase := hW.lt
    obtain ⟨g, cap', cur, hv, hg, _⟩ := id hW
    simp only [Value.slice.injEq] at hv
    obtain ⟨rfl, rfl, rfl⟩ := hv
    have hc := hW.cls.1
    have hcon := c_sparePlaces _ _ cap zs E hz hD.all hD.1 hD.2.1 w hc
    cases ht : topS zs E zs.length with
    | none =>
      have hE : splL zs E = [] := splK_none ht
      rw [hE] at hcon
      have HR := Lib.hid (lesL_none ht)
      go_enter Try.func60, Try.ntmps60
      go_wp2_with (go_at_call 58; refine hcon.mono ?_; rintro e w2 ⟨v, rfl, hO, hb⟩; obtain ⟨s2, k2, rfl, _, _⟩ := hO.spread)
      go_ret
      exact ⟨_, rfl, by rw [HR.out]; exact hW.keep hb, hb⟩
    | some i =>
      have hi := topS_lt ht
      obtain ⟨l, hl⟩ := splK_some ht
      have hE : splL zs E = l ++ [(i : Int)] := hl
      rw [hE] at hcon
      have HR := Lib.hid (lesL_some ht)
      obtain ⟨M, hM⟩ : ∃ M, M = l.length := ⟨_, rfl⟩
      have hLM : (l ++ [(i : Int)]).length = M + 1 := by simp [hM]
      have HX := Lib.hid (show (l ++ [(i : Int)])[M]?.getD 0 = (i : Int) by rw [hM]; simp)
      have hMb : M < 1000 := by
        have := splK_le zs E zs.length
        rw [hl, hLM] at this
        omega
      generalize hQ : l ++ [(i : Int)] = Q at *
      clear hQ hM hl hE
      obtain ⟨L, hL⟩ : ∃ L, Q.length = L := ⟨_, rfl⟩
      have hML : M < L := by omega
      have hMz : (M : Int) < (L : Int) := by omega
      have hM0 : (0 : Int) ≤ (M : Int) := by omega
      have hsub : (L : Int) - 1 = (M : Int) := by omega
      have hw : IntKind.i64.wrap ((L : Int) - 1) = (M : Int) := by rw [hsub]; exact IntWalk.i64_in _ (by omega)
      have hwM : IntKind.i64.wrap (M : Int) = (M : Int) := IntWalk.i64_in _ (by omega)
      clear hsub
      have hne : ((L : Int) == 0) = false := by simp; omega
      have hIH : ∀ (v' : Value) (w' : World), WidC w' w.heap.size v' (zs.eraseIdx i) → w'.cell? ⟨B4, 0, none⟩ = some (.int .i64 E) → w'.cell? ⟨B6, 0, none⟩ = some (.func (.func 60) #[] #[.pointer (some ⟨B4, 0, none⟩), .pointer (some ⟨B6, 0, none⟩)]) →
          Calls Try.prog 60 #[v', .pointer (some ⟨B4, 0, none⟩), .pointer (some ⟨B6, 0, none⟩)] w' (LeastPost E (zs.eraseIdx i) base w') := by
        intro v' w' hW' h4' h6'
        obtain ⟨g', cap'', cur', hv', _⟩ := id hW'
        subst hv'
        exact ih _ _ _ (zs.eraseIdx i) w' (by rw [List.length_eraseIdx_of_lt hi]; omega) (by rw [List.length_eraseIdx_of_lt hi]; omega) (hD.erase i) (hW'.low hbase) h4' h6'
      clear ih ht hLM
      go_enter Try.func60, Try.ntmps60
      go_wp2_with (go_at_call 58; refine hcon.mono ?_; rintro e w2 ⟨v, rfl, hO, hb⟩; obtain ⟨s2, k2, hv2, hI, _⟩ := hO.spread; rw [hL] at hv2 hI; subst hv2; obtain ⟨pb, poff, rfl, hpb, hpx⟩ := ints_at hI M hML; rw [HX.out] at hpx)
      have hc2 := hc.keep hb
      have r4 := keepc hb h4
      have r6 := keepc hb h6
      go_region_held3 (fun w' => w'.cell? ⟨B6, 0, none⟩ = some (.func (.func 60) #[] #[.pointer (some ⟨B4, 0, none⟩), .pointer (some ⟨B6, 0, none⟩)]) ∧ w'.cell? ⟨pb, poff + M, none⟩ = some (.int .i64 (i : Int))) (go_keep) (first
        | (go_at_call 61; refine (c_without _ _ _ zs i (by omega) (by omega) _ (hc2.keep (by repeat (first | exact Below.refl _ _ | assumption | refine Below.drew ?_ | refine bel_drewN ?_ _ | refine ba ?_ _ | refine bt2 ?_ (by assumption) | refine Below.setCell ?_ (by simp <;> omega) _)))).mono ?_; rintro e w5 ⟨v5, rfl, hW5, hb5⟩; have g0 := keepc hb5 (a := ⟨B6, 0, none⟩) (v := .func (.func 60) #[] #[.pointer (some ⟨B4, 0, none⟩), .pointer (some ⟨B6, 0, none⟩)]) (by go_keep); have g1 := keepc hb5 (a := ⟨pb, poff + M, none⟩) (v := .int .i64 (i : Int)) (by go_keep); have hB5 : Below w.heap.size w w5 := bt2 hb.drew hb5)
        | (go_at_call 60; refine (hIH v5 w5 (hW5.low hb.size) (keepc hB5 h4) (keepc hB5 h6)).mono ?_; rintro e w6 ⟨v6, rfl, hW6, hb6⟩; have hB6 := bt2 hB5 hb6; have k0 := keepc hB6 h6; have k1 := keepc hb6 g1)
        | fail)
      all_goals
        go_wp2_with fail
        go_ret
        exact ⟨_, rfl, by rw [HR.out]; exact hW6, hB6⟩
/-- a list of classes, perhaps with room behind it, or nothing -/
def WidV (w : World) (base : Nat) (v : Value) (zs : List Cl) : Prop := ∃ s cap room, v = .slice s zs.length cap ∧ OwnC w base 45 (.slice s zs.length room) zs
def RetWid (w : World) (zs : List Cl) (b : Bool) (e : Ending) (w' : World) : Prop := ∃ v, e = .returned (.tuple #[v, .bool b]) ∧ WidV w' w.heap.size v zs ∧ Below w.heap.size w w'
/-- what the law HoleLeast answers -/
def hleR (zs : List Cl) : List Cl := bif sysB zs then lesL (perI zs) zs else []
theorem hleR_t {zs : List Cl} (h : sysB zs = true) : hleR zs = lesL (perI zs) zs := by simp [hleR, h]
theorem hleR_f {zs : List Cl} (h : sysB zs = false) : hleR zs = [] := by simp [hleR, h]
theorem hleR_le (zs : List Cl) : (hleR zs).length ≤ zs.length := by
  unfold hleR
  cases sysB zs
  · simp
  · exact lesL_len _ _
set_option maxRecDepth 20000 in
set_option maxHeartbeats 2000000 in
theorem c_implHoleLeast (s : Option Addr) (n cap : Nat) (zs : List Cl) (hn : n ≤ 1048576) (w : World) (hc : Cls w s n zs) : Calls Try.prog 36 #[.slice s n cap] w (RetWid w (hleR zs) (sysB zs)) := by
  cases hs : sysB zs
  · rw [hleR_f hs]
    have hcon := c_implSystemPeriod_f s n cap zs hn hs w hc
    go_enter Try.func36, Try.ntmps36
    go_wp2_with (go_at_call 47; refine hcon.mono ?_; rintro e w2 ⟨rfl, hb⟩)
    go_ret2
    exact ⟨_, rfl, ⟨none, 0, 0, rfl, World.ownsRow_nil _ _ _ _⟩, ba hb _⟩
  · rw [hleR_t hs]
    have hcon := c_implSystemPeriod_t s n cap zs hn hs w hc
    obtain ⟨hl1, hl2, ha, _, P1, P2⟩ := sysB_facts hs
    have hD := Div.sys hs
    have hlen := hc.len
    generalize hP : perI zs = P at *
    go_enter Try.func36, Try.ntmps36
    go_wp2_with fail
    refine hcon.mono ?_
    rintro e w2 ⟨rfl, hb⟩
    have hc2 := hc.keep hb
    go_wp2_with fail
    have q4 : ((w2.alloc (.cells #[.int .i64 P] 3)).alloc (.cells #[(Value.func (Fn.func 60) #[] #[Value.pointer (some ⟨w2.heap.size, 0, none⟩), Value.pointer (some ⟨w2.heap.size + 1, 0, none⟩)])] 57)).cell? ⟨w2.heap.size, 0, none⟩ = some (.int .i64 P) := keepc (ba (Below.refl _ _) _) (kc (cs := #[.int .i64 P]) (t := 3) (Below.refl _ _) 0)
    have hsz : (w2.alloc (.cells #[.int .i64 P] 3)).heap.size = w2.heap.size + 1 := Array.size_push ..
    have q6 : ((w2.alloc (.cells #[.int .i64 P] 3)).alloc (.cells #[(Value.func (Fn.func 60) #[] #[Value.pointer (some ⟨w2.heap.size, 0, none⟩), Value.pointer (some ⟨w2.heap.size + 1, 0, none⟩)])] 57)).cell? ⟨w2.heap.size + 1, 0, none⟩ = some (Value.func (Fn.func 60) #[] #[Value.pointer (some ⟨w2.heap.size, 0, none⟩), Value.pointer (some ⟨w2.heap.size + 1, 0, none⟩)]) := by rw [← hsz]; exact kc (Below.refl _ _) 0
    have hBW := ba (ba hb (.cells #[.int .i64 P] 3)) (.cells #[(Value.func (Fn.func 60) #[] #[Value.pointer (some ⟨w2.heap.size, 0, none⟩), Value.pointer (some ⟨w2.heap.size + 1, 0, none⟩)])] 57)
    obtain ⟨B4, hB4⟩ : ∃ B4, B4 = w2.heap.size := ⟨_, rfl⟩
    obtain ⟨B6, hB6⟩ : ∃ B6, B6 = w2.heap.size + 1 := ⟨_, rfl⟩
    rw [← hB6, ← hB4] at q4 q6 hBW
    rw [← hB6, ← hB4]
    generalize ((w2.alloc (.cells #[.int .i64 P] 3)).alloc (.cells #[(Value.func (Fn.func 60) #[] #[Value.pointer (some ⟨B4, 0, none⟩), Value.pointer (some ⟨B6, 0, none⟩)])] 57)) = W at *
    have hcW := hc.keep hBW
    clear hc2 hB4 hB6 hb hP
    go_region_held3 (fun w' => w'.cell? ⟨B6, 0, none⟩ = some (Value.func (Fn.func 60) #[] #[Value.pointer (some ⟨B4, 0, none⟩), Value.pointer (some ⟨B6, 0, none⟩)])) (go_keep) (first
      | (go_at_call 62; refine (c_clone _ _ _ zs (by omega) (by omega) _ (hcW.keep (by repeat (first | exact Below.refl _ _ | assumption | refine Below.drew ?_ | refine bel_drewN ?_ _ | refine ba ?_ _ | refine bt2 ?_ (by assumption) | refine Below.setCell ?_ (by simp <;> omega) _)))).mono ?_; rintro e w5 ⟨g5, cp5, rfl, hO5, hb5⟩; have g0 := keepc hb5 (a := ⟨B6, 0, none⟩) (v := (Value.func (Fn.func 60) #[] #[Value.pointer (some ⟨B4, 0, none⟩), Value.pointer (some ⟨B6, 0, none⟩)])) (by go_keep); have hB5 : Below w.heap.size w w5 := bt2 hBW.drew hb5; have h4 : w5.cell? ⟨B4, 0, none⟩ = some (.int .i64 P) := keepc hb5 (keep_drew q4); have hW5 := (hO5.wid hlen).low hBW.size)
      | (go_at_call 60; refine (c_least P B4 B6 w.heap.size n _ _ _ zs w5 (by omega) (by omega) hD hW5 h4 g0).mono ?_; rintro e w6 ⟨v6, rfl, hW6, hb6⟩; have hB6 := bt2 hB5 hb6; have k0 := keepc hb6 g0)
      | fail)
    all_goals
      go_wp2_with fail
      go_ret2
      obtain ⟨s6, cap6, room, hv6, hO6⟩ := hW6.own
      exact ⟨_, rfl, ⟨s6, cap6, room, hv6, hO6⟩, hB6⟩
end Go.Proofs.Ytelgmmnjndinhaa
