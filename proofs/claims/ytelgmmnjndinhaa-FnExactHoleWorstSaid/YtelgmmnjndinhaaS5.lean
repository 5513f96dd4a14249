/- How many classes of a system have a number; the model's SystemTimes. -/
import Derived.Test.YtelgmmnjndinhaaS1
import Derived.Test.YtelgmmnjndinhaaStepA
namespace Go.Proofs.Ytelgmmnjndinhaa
open Go.RowKit
/-- how many of the first k classes have x -/
def cntK (zs : List Cl) (x : Int) : Nat → Int
  | 0 => 0
  | k + 1 => cntK zs x k + (if x % mAt zs k = rAt zs k then 1 else 0)
def cntN (zs : List Cl) (x : Int) : Int := cntK zs x zs.length
theorem cntK_bd (zs : List Cl) (x : Int) (k : Nat) : 0 ≤ cntK zs x k ∧ cntK zs x k ≤ k := by
  induction k with
  | zero => simp [cntK]
  | succ k ih => simp only [cntK]; split <;> omega
def timL (zs : List Cl) : List Int := (List.range (perI zs).toNat).map fun (x : Nat) => cntN zs x
def timR (zs : List Cl) : List Int := bif sysB zs then timL zs else []
theorem timL_length (zs : List Cl) : (timL zs).length = (perI zs).toNat := by simp [timL]
theorem timL_take (zs : List Cl) (k : Nat) (h : k < (perI zs).toNat) : (timL zs).take (k + 1) = (timL zs).take k ++ [cntN zs k] := by
  rw [List.take_succ_eq_append_getElem (by simp [timL, h])]
  simp [timL]
theorem timR_t {zs : List Cl} (h : sysB zs = true) : timR zs = timL zs := by simp [timR, h]
theorem timR_f {zs : List Cl} (h : sysB zs = false) : timR zs = [] := by simp [timR, h]
theorem timR_le (zs : List Cl) : (timR zs).length ≤ 1000 := by
  cases h : sysB zs
  · simp [timR_f h]
  · rw [timR_t h, timL_length]
    obtain ⟨_, _, _, _, _, h2⟩ := sysB_facts h
    omega
theorem infoI : (Try.prog.info? 3).map (fun i => (i.zero, i.size, i.bytes)) = some (some (.int .i64 0), 1, 8) := by kernel_rfl
theorem OwnI.nil (w : World) (base : Nat) (e : TypeId) : OwnI w base e (.slice none 0 0) [] := World.ownsRow_nil w base e 1
theorem one_new (w : World) (x : Value) (t : TypeId) : ∀ j u, [x][j]? = some u → (w.alloc (.cells #[x] t)).cell? ((⟨w.heap.size, 0, none⟩ : Addr).add j) = some u := by
  intro j u h
  match j, h with
  | 0, h => simpa [Addr.add] using h
/-- it returns a list of numbers of its own, and whether it succeeded -/
def RetI (w : World) (zs : List Int) (ok : Bool) (e : Ending) (w' : World) : Prop := ∃ v, e = .returned (.tuple #[v, .bool ok]) ∧ OwnI w' w.heap.size 3 v zs ∧ Below w.heap.size w w'
set_option maxHeartbeats 400000 in
theorem c_l2Count (s : Option Addr) (n cap : Nat) (zs : List Cl) (x : Int) (hn : n ≤ 1048576) (ha : allB zs = true) (w : World) (hc : Cls w s n zs) : Calls Try.prog 53 #[.slice s n cap, .int .i64 x] w fun e w' => e = .returned (.int .i64 (cntN zs x)) ∧ Below w.heap.size w w' := by
  have hlen := hc.len
  have HL := Lib.hid hlen
  have HR := Lib.hid (show cntK zs x n = cntN zs x by rw [← hlen]; rfl)
  clear hlen
  go_enter Try.func53, Try.ntmps53
  go_wp2_with fail
  go_loopw [5, 6] (fun q i wr => ∃ (k : Nat), k ≤ n ∧ i = .int .i64 k ∧ q = .int .i64 (cntK zs x k) ∧ Below w.heap.size w wr) (fun _ i _ => n - (intOf i).toNat)
  case atStart => exact ⟨0, Nat.zero_le _, rfl, rfl, Below.refl _ _⟩
  case round =>
    obtain ⟨k, hk, rfl, rfl, hB⟩ := hrel
    have hb := cntK_bd zs x k
    by_cases hlt : k < n
    · obtain ⟨m1, m2, _, _⟩ := inB_iff.1 (allB_at ha k (by rw [HL.out]; exact hlt))
      rcases (hc.keep hB).lies with h0 | ⟨b, off, rfl, hb', hcells⟩
      · omega
      obtain ⟨hx, hy⟩ := hcells k hlt
      clear hcells
      cases he : (x % mAt zs k == rAt zs k)
      · have HE := Lib.hid (show cntK zs x (k + 1) = cntK zs x k by have : ¬ x % mAt zs k = rAt zs k := by simpa using he
                                                                    simp [cntK, this])
        go_wp2_with fail
        refine (c_l1Has _ _ _ m1 m2 _).mono ?_
        rintro e w5 ⟨rfl, hb5⟩
        go_wp2_with fail
        go_roundw
        case rel => exact ⟨k + 1, by omega, by go_num, by rw [HE.out], bt2 hB hb5⟩
        case measure => simp [intOf]; omega
      · have HE := Lib.hid (show cntK zs x (k + 1) = cntK zs x k + 1 by have : x % mAt zs k = rAt zs k := by simpa using he
                                                                        simp [cntK, this])
        go_wp2_with fail
        refine (c_l1Has _ _ _ m1 m2 _).mono ?_
        rintro e w5 ⟨rfl, hb5⟩
        go_wp2_with fail
        go_roundw
        case rel => exact ⟨k + 1, by omega, by go_num, by rw [HE.out], bt2 hB hb5⟩
        case measure => simp [intOf]; omega
    · have hk' : k = n := by omega
      subst hk'
      go_wp2_with fail
      go_ret
      exact ⟨ri HR.out, hB⟩
end Go.Proofs.Ytelgmmnjndinhaa
