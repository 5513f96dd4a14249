/- How many classes of a system have a number; the model's SystemTimes. -/
import Derived.Test.YtgdpebnnmklbjaaS1
import Derived.Test.YtgdpebnnmklbjaaStepA
namespace Go.Proofs.Ytgdpebnnmklbjaa
open Go.RowKit
/-- how many of the first k classes have x -/
def cntK (zs : List Cl) (x : Int) : Nat → Int
  | 0 => 0
  | k + 1 => cntK zs x k + (if x % mAt zs k = rAt zs k then 1 else 0)
def cntN (zs : List Cl) (x : Int) : Int := cntK zs x zs.length
theorem cntK_bd (zs : List Cl) (x : Int) (k : Nat) : 0 ≤ cntK zs x k ∧ cntK zs x k ≤ k := by
  induction k with
  | zero => simp [cntK]
  | succ k ih => simp only [cntK]; split <;> omega
def timL (zs : List Cl) : List Int := (List.range (perI zs).toNat).map fun (x : Nat) => cntN zs x
def timR (zs : List Cl) : List Int := bif sysB zs then timL zs else []
theorem timL_length (zs : List Cl) : (timL zs).length = (perI zs).toNat := by simp [timL]
theorem timL_take (zs : List Cl) (k : Nat) (h : k < (perI zs).toNat) : (timL zs).take (k + 1) = (timL zs).take k ++ [cntN zs k] := by
  rw [List.take_succ_eq_append_getElem (by simp [timL, h])]
  simp [timL]
theorem timR_t {zs : List Cl} (h : sysB zs = true) : timR zs = timL zs := by simp [timR, h]
theorem timR_f {zs : List Cl} (h : sysB zs = false) : timR zs = [] := by simp [timR, h]
theorem timR_le (zs : List Cl) : (timR zs).length ≤ 1000 := by
  cases h : sysB zs
  · simp [timR_f h]
  · rw [timR_t h, timL_length]
    obtain ⟨_, _, _, _, _, h2⟩ := sysB_facts h
    omega
theorem infoI : (Try.prog.info? 3).map (fun i => (i.zero, i.size, i.bytes)) = some (some (.int .i64 0), 1, 8) := by kernel_rfl
theorem OwnI.nil (w : World) (base : Nat) (e : TypeId) : OwnI w base e (.slice none 0 0) [] := World.ownsRow_nil w base e 1
theorem one_new (w : World) (x : Value) (t : TypeId) : ∀ j u, [x][j]? = some u → (w.alloc (.cells #[x] t)).cell? ((⟨w.heap.size, 0, none⟩ : Addr).add j) = some u := by
  intro j u h
  match j, h with
  | 0, h => simpa [Addr.add] using h
/-- it returns a list of numbers of its own, and whether it succeeded -/
def RetI (w : World) (zs : List Int) (ok : Bool) (e : Ending) (w' : World) : Prop := ∃ v, e = .returned (.tuple #[v, .bool ok]) ∧ OwnI w' w.heap.size 3 v zs ∧ Below w.heap.size w w'
set_option maxHeartbeats 400000 in
theorem c_l2Count (s : Option Addr) (n cap : Nat) (zs : List Cl) (x : Int) (hn : n ≤ 1048576) (ha : allB zs = true) (w : World) (hc : Cls w s n zs) : Calls Try.prog 58 #[.slice s n cap, .int .i64 x] w fun e w' => e = .returned (.int .i64 (cntN zs x)) ∧ Below w.heap.size w w' := by
  have hlen := hc.len
  have HL := Lib.hid hlen
  have HR := Lib.hid (show cntK zs x n = cntN zs x by rw [← hlen]; rfl)
  clear hlen
  go_enter Try.func58, Try.ntmps58
  go_wp2_with fail
  go_loopw [5, 6] (fun q i wr => ∃ (k : Nat), k ≤ n ∧ i = .int .i64 k ∧ q = .int .i64 (cntK zs x k) ∧ Below w.heap.size w wr) (fun _ i _ => n - (intOf i).toNat)
  case atStart => exact ⟨0, Nat.zero_le _, rfl, rfl, Below.refl _ _⟩
  case round =>
    obtain ⟨k, hk, rfl, rfl, hB⟩ := hrel
    have hb := cntK_bd zs x k
    by_cases hlt : k < n
    · obtain ⟨m1, m2, _, _⟩ := inB_iff.1 (allB_at ha k (by rw [HL.out]; exact hlt))
      rcases (hc.keep hB).lies with h0 | ⟨b, off, rfl, hb', hcells⟩
      · omega
      obtain ⟨hx, hy⟩ := hcells k hlt
      clear hcells
      cases he : (x % mAt zs k == rAt zs k)
      · have HE := Lib.hid (show cntK zs x (k + 1) = cntK zs x k by have : ¬ x % mAt zs k = rAt zs k := by simpa using he
                                                                    simp [cntK, this])
        go_wp2_with fail
        refine (c_l1Has _ _ _ m1 m2 _).mono ?_
        rintro e w5 ⟨rfl, hb5⟩
        go_wp2_with fail
        go_roundw
        case rel => exact ⟨k + 1, by omega, by go_num, by rw [HE.out], bt2 hB hb5⟩
        case measure => simp [intOf]; omega
      · have HE := Lib.hid (show cntK zs x (k + 1) = cntK zs x k + 1 by have : x % mAt zs k = rAt zs k := by simpa using he
                                                                        simp [cntK, this])
        go_wp2_with fail
        refine (c_l1Has _ _ _ m1 m2 _).mono ?_
        rintro e w5 ⟨rfl, hb5⟩
        go_wp2_with fail
        go_roundw
        case rel => exact ⟨k + 1, by omega, by go_num, by rw [HE.out], bt2 hB hb5⟩
        case measure => simp [intOf]; omega
    · have hk' : k = n := by omega
      subst hk'
      go_wp2_with fail
      go_ret
      exact ⟨ri HR.out, hB⟩
set_option maxHeartbeats 1000000 in
theorem c_specSystemTimes (s : Option Addr) (n cap : Nat) (zs : List Cl) (hn : n ≤ 1048576) (w : World) (hc : Cls w s n zs) : Calls Try.prog 22 #[.slice s n cap] w (RetI w (timR zs) (sysB zs)) := by
  have hlen := hc.len
  have HL := Lib.hid hlen
  clear hlen
  obtain ⟨i0, hi, hz0, hz1, hz2⟩ := info_parts infoI
  have hb1 : Below w.heap.size w (w.alloc (.cells #[] 3)) := ba (Below.refl _ _) _
  have hO1 : OwnI (w.alloc (.cells #[] 3)) w.heap.size 3 (.slice (some ⟨w.heap.size, 0, none⟩) 0 0) [] := World.ownsRow_lit w #[] 0 (Nat.le_refl _) (by unfold maxLen; omega) rfl
  have hc1 := hc.keep hb1
  cases hs : sysB zs
  · rw [timR_f hs]
    go_enter Try.func22, Try.ntmps22
    go_wp2_with fail
    generalize w.alloc (.cells #[] 3) = W1 at *
    go_wp2_with (go_at_call 15; refine (c_specSystemIn _ _ _ zs hn _ hc1).mono ?_; rintro e w2 ⟨rfl, hb⟩; have hO2 := hO1.keep hb)
    go_ret2
    exact ⟨_, rfl, hO2, bt2 hb1 hb⟩
  · rw [timR_t hs]
    obtain ⟨hl1, hl2, ha, _, P1, P2⟩ := sysB_facts hs
    have HA := Lib.hid ha
    obtain ⟨P, hP⟩ : ∃ P : Nat, perI zs = (P : Int) := ⟨(perI zs).toNat, by omega⟩
    have HP := Lib.hid hP
    have hP2 : P ≤ 1000 := by omega
    have HT := Lib.hid (show (timL zs).length = P by rw [timL_length, hP]; exact Int.toNat_natCast P)
    clear ha hl1 hl2
    go_enter Try.func22, Try.ntmps22
    go_wp2_with fail
    generalize w.alloc (.cells #[] 3) = W1 at *
    go_wp2_with (go_at_call 15; refine (c_specSystemIn _ _ _ zs hn _ hc1).mono ?_; rintro e w2 ⟨rfl, hb⟩; have hO2 := hO1.keep hb; have hb2 := bt2 hb1 hb)
    have hO3 : w2.ownsRow w.heap.size 3 1 (.slice (some ⟨w.heap.size, 0, none⟩) 0 0) 0 [] := hO2
    clear hO1 hO2 hb hb1
    go_loopw [4, 5] (fun v i wr => ∃ (k : Nat), k ≤ P ∧ i = .int .i64 k ∧ wr.ownsRow w.heap.size 3 1 v k (((timL zs).take k).map (Value.int .i64)) ∧ Below w.heap.size w wr) (fun _ i _ => P - (intOf i).toNat)
    case atStart => exact ⟨0, Nat.zero_le _, rfl, hO3, hb2⟩
    case round =>
      obtain ⟨k, hk, rfl, hO, hB⟩ := hrel
      have hc2 := hc.keep hB
      by_cases hlt : k < P
      · have HK := Lib.hid (timL_take zs k (by rw [HP.out]; omega))
        go_wp2_with fail
        refine (c_l2Period _ _ _ zs hn HA.out _ hc2).mono ?_
        rintro e w3 ⟨nq, rfl, rfl⟩
        have hB3 := bel_drewN hB nq
        have hc3 := hc.keep hB3
        have hO3' : (wr.drewN nq).ownsRow w.heap.size 3 1 u4 k (((timL zs).take k).map (Value.int .i64)) := hO
        have hlt' : ((k : Int) < perI zs) := by rw [HP.out]; omega
        generalize wr.drewN nq = wq at *
        go_wp2_with fail
        refine (c_l2Count _ _ _ zs _ hn HA.out _ hc3).mono ?_
        rintro e w5 ⟨rfl, hb5⟩
        have hB5 := bt2 hB3 hb5
        have hO5 := row_keep hO3' hb5
        have hbs : w.heap.size ≤ w5.heap.size := hB5.size
        go_wp2_with (at_builtin; refine wpList_append_own _ rfl _ _ 30 rfl w.heap.size 3 i0 (.int .i64 0) 1 8 Try.underlying30 hi hz0 hz1 hz2 rfl (by decide) u4 k _ rfl (hO5.alloc _) ⟨w5.heap.size, 0, none⟩ 1 1 [.int .i64 (cntN zs k)] rfl rfl (one_new w5 _ _) (by simp [Value.oneCell']) (by unfold maxLen; omega) (by omega) (by simp; omega) ?_; intro v7 w7 hown7 hgrow7 _)
        have hb7 : Below w.heap.size w w7 := (hB5.alloc hbs _).grown hgrow7 (by simp; omega) (fun g e => (hO5.lt g e).1)
        go_roundw
        case rel => exact ⟨k + 1, by omega, by go_num, by rw [HK.out, List.map_append]; exact hown7, hb7⟩
        case measure => simp [intOf]; omega
      · have hk' : k = P := by omega
        subst hk'
        have hT : (timL zs).take k = timL zs := List.take_of_length_le (by rw [HT.out]; exact Nat.le_refl _)
        rw [hT] at hO
        have hOC : OwnI wr w.heap.size 3 u4 (timL zs) := by unfold OwnI; rw [HT.out]; exact hO
        clear hT hO
        go_wp2_with fail
        refine (c_l2Period _ _ _ zs hn HA.out _ hc2).mono ?_
        rintro e w3 ⟨nq, rfl, rfl⟩
        have hB3 := bel_drewN hB nq
        have hO3' : OwnI (wr.drewN nq) w.heap.size 3 u4 (timL zs) := hOC
        have hlt' : perI zs ≤ (k : Int) := by rw [HP.out]; omega
        generalize wr.drewN nq = wq at *
        go_wp2_with fail
        go_ret2
        exact ⟨_, rfl, hO3', hB3⟩
end Go.Proofs.Ytgdpebnnmklbjaa
