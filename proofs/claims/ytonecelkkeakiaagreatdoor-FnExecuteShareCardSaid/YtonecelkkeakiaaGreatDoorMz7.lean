/- Cells of a list of classes that lies in memory. -/
import Derived.Test.YtonecelkkeakiaaGreatDoorMathS
import Derived.Test.YtonecelkkeakiaaGreatDoorS9
namespace Go.Proofs.YtonecelkkeakiaaGreatDoor
open Go.RowKit
theorem cls_cells {w : World} {b off n : Nat} {zs : List Cl} (hlen : zs.length = n) (hcells : ∀ i, i < n → w.cell? ⟨b, off + i * 2, none⟩ = some (.int .i64 (rAt zs i)) ∧ w.cell? ⟨b, off + i * 2 + 1, none⟩ = some (.int .i64 (mAt zs i))) : ∀ (j : Nat) (u : Value), (cells2 zs)[j]? = some u → w.cell? ⟨b, off + j, none⟩ = some u := by
  intro j u hj
  have hj2 : j < zs.length * 2 := by rw [← cells2_length]; exact (List.getElem?_eq_some_iff.1 hj).1
  have hd : j = j / 2 * 2 ∨ j = j / 2 * 2 + 1 := by omega
  have hlt : j / 2 < zs.length := by omega
  rcases hd with hd | hd
  · rw [hd] at hj ⊢
    rw [cells2_0 zs _ hlt] at hj
    rw [← hj]
    exact (hcells (j / 2) (by omega)).1
  · rw [hd] at hj ⊢
    rw [cells2_1 zs _ hlt] at hj
    rw [← hj, ← Nat.add_assoc]
    exact (hcells (j / 2) (by omega)).2
theorem cells2_oc (zs : List Cl) : ∀ u ∈ cells2 zs, u.oneCell' = true := by
  induction zs with
  | nil => intro u hu; simp [cells2] at hu
  | cons c t ih =>
    intro u hu
    simp only [cells2, List.mem_cons] at hu
    rcases hu with rfl | rfl | hu
    · rfl
    · rfl
    · exact ih u hu
theorem cls_at {w : World} {b off n : Nat} {zs : List Cl} (h : Cls w (some ⟨b, off, none⟩) n zs) (h0 : 0 < n) : ∀ (j : Nat) (u : Value), (cells2 zs)[j]? = some u → w.cell? ((⟨b, off, none⟩ : Addr).add j) = some u := by
  intro j u hj
  rw [Addr.add_lit]
  rcases h.lies with h1 | ⟨b', off', e, _, hcells⟩
  · omega
  · simp only [Option.some.injEq, Addr.mk.injEq, and_true] at e
    obtain ⟨rfl, rfl⟩ := e
    exact cls_cells h.len hcells j u hj
theorem cells2_drop (zs : List Cl) (i : Nat) : (cells2 zs).drop (i * 2) = cells2 (zs.drop i) := by
  induction zs generalizing i with
  | nil => simp [cells2]
  | cons c t ih =>
    cases i with
    | zero => rfl
    | succ i =>
      rw [show (i + 1) * 2 = i * 2 + 1 + 1 by omega]
      simpa [cells2] using ih i
theorem cells2_take (zs : List Cl) (i : Nat) : (cells2 zs).take (i * 2) = cells2 (zs.take i) := by
  induction zs generalizing i with
  | nil => simp [cells2]
  | cons c t ih =>
    cases i with
    | zero => rfl
    | succ i =>
      rw [show (i + 1) * 2 = i * 2 + 1 + 1 by omega]
      simpa [cells2] using ih i
theorem cells2_takeAt {zs : List Cl} {i j : Nat} {u : Value} (h : (cells2 (zs.take i))[j]? = some u) : (cells2 zs)[j]? = some u := by
  rw [← cells2_take] at h
  obtain ⟨hl, _⟩ := List.getElem?_eq_some_iff.1 h
  rw [List.length_take] at hl
  rwa [List.getElem?_take_of_lt (by omega)] at h
theorem cells2_dropAt {zs : List Cl} {i j : Nat} {u : Value} (h : (cells2 (zs.drop i))[j]? = some u) : (cells2 zs)[i * 2 + j]? = some u := by
  rwa [← cells2_drop, List.getElem?_drop] at h
theorem add_add (b a c j : Nat) : (⟨b, a + c, none⟩ : Addr).add j = (⟨b, a, none⟩ : Addr).add (c + j) := by
  rw [Addr.add_lit, Addr.add_lit, Nat.add_assoc]
theorem Cls.other {w w' : World} {n g off b : Nat} {zs : List Cl} (h : Cls w (some ⟨g, off, none⟩) n zs) (k : w.grownBy w' (some b)) (hne : b ≠ g) : Cls w' (some ⟨g, off, none⟩) n zs := by
  refine ⟨h.len, ?_⟩
  rcases h.lies with h0 | ⟨b', off', hs, hb, hc⟩
  · exact .inl h0
  · simp only [Option.some.injEq, Addr.mk.injEq, and_true] at hs
    obtain ⟨rfl, rfl⟩ := hs
    have hne' : some g ≠ some b := fun e => hne (by simpa using e.symm)
    exact .inr ⟨g, off, rfl, Nat.lt_of_lt_of_le hb k.size, fun i hi => ⟨k.cell (hc i hi).1 hne', k.cell (hc i hi).2 hne'⟩⟩
theorem cls_grown {w w' : World} {n : Nat} {s : Option Addr} {zs : List Cl} {row : Option Nat} (h : Cls w s n zs) (k : w.grownBy w' row) (hne : ∀ b off, s = some ⟨b, off, none⟩ → some b ≠ row) : Cls w' s n zs := by
  refine ⟨h.len, ?_⟩
  rcases h.lies with h0 | ⟨b', off', rfl, hb, hc⟩
  · exact .inl h0
  · have hne' := hne b' off' rfl
    exact .inr ⟨b', off', rfl, Nat.lt_of_lt_of_le hb k.size, fun i hi => ⟨k.cell (hc i hi).1 hne', k.cell (hc i hi).2 hne'⟩⟩
theorem grown_of {w w2 : World} {row : Option Nat} (h : Below w.heap.size w w2) : w.grownBy w2 row := ⟨h.os, h.tape, h.output, h.size, fun j hj _ => h.block j hj⟩
end Go.Proofs.YtonecelkkeakiaaGreatDoor
namespace Go.Proofs.YtonecelkkeakiaaGreatDoor
open Go.RowKit
/-- one of the first k classes has x -/
def covK (zs : List Cl) (x : Int) : Nat → Bool
  | 0 => false
  | k + 1 => covK zs x k || (x % mAt zs k == rAt zs k)
def covB (zs : List Cl) (x : Int) : Bool := covK zs x zs.length
theorem covK_cnt (zs : List Cl) (x : Int) (k : Nat) : covK zs x k = !(cntK zs x k == 0) := by
  induction k with
  | zero => rfl
  | succ k ih =>
    have := cntK_bd zs x k
    simp only [covK, cntK, ih]
    by_cases h2 : x % mAt zs k = rAt zs k
    · have h3 : ¬ cntK zs x k + 1 = 0 := by omega
      simp [h2, h3]
    · simp [h2]
theorem covB_cnt (zs : List Cl) (x : Int) : covB zs x = !(cntN zs x == 0) := covK_cnt zs x _
theorem covK_mono (zs : List Cl) (x : Int) {k n : Nat} (h : k ≤ n) (hk : covK zs x k = true) : covK zs x n = true := by
  induction n with
  | zero =>
    obtain rfl : k = 0 := by omega
    exact hk
  | succ n ih =>
    by_cases he : k = n + 1
    · exact he ▸ hk
    · simp only [covK, ih (by omega), Bool.true_or]
set_option maxHeartbeats 400000 in
theorem c_covers (s : Option Addr) (n cap : Nat) (zs : List Cl) (x : Int) (hn : n ≤ 1048576) (ha : allB zs = true) (w : World) (hc : Cls w s n zs) : Calls Tryz.prog 224 #[.slice s n cap, .int .i64 x] w fun e w' => e = .returned (.bool (covB zs x)) ∧ Below w.heap.size w w' := by
  have hlen := hc.len
  have HL := Lib.hid hlen
  have HR := Lib.hid (show covB zs x = covK zs x n by rw [← hlen]; rfl)
  clear hlen
  go_enter Tryz.func224, Tryz.ntmps224
  go_wp2_with fail
  go_loopw [9] (fun i wr => ∃ (k : Nat), k ≤ n ∧ i = .int .i64 k ∧ covK zs x k = false ∧ Below w.heap.size w wr) (fun i _ => n - (intOf i).toNat)
  case atStart => exact ⟨0, Nat.zero_le _, rfl, rfl, Below.refl _ _⟩
  case round =>
    obtain ⟨k, hk, rfl, hq, hB⟩ := hrel
    have HQ := Lib.hid hq
    clear hq
    by_cases hlt : k < n
    · obtain ⟨m1, m2, _, _⟩ := inB_iff.1 (allB_at ha k (by rw [HL.out]; exact hlt))
      rcases (hc.keep hB).lies with h0 | ⟨b, off, rfl, hb', hcells⟩
      · omega
      obtain ⟨hx, hy⟩ := hcells k hlt
      clear hcells
      cases he : (x % mAt zs k == rAt zs k)
      · have HE := Lib.hid (show covK zs x (k + 1) = false by simp only [covK, HQ.out, he, Bool.false_or])
        go_wp2_with fail
        refine (c_has _ _ _ m1 m2 _).mono ?_
        rintro e w5 ⟨rfl, rfl⟩
        rw [he]
        go_wp2_with fail
        go_roundw
        case rel => exact ⟨k + 1, by omega, by go_num, HE.out, (ba (ba (ba hB _) _) _).drew⟩
        case measure => simp [intOf]; omega
      · have HE := Lib.hid (show covB zs x = true by rw [HR.out]; exact covK_mono zs x (show k + 1 ≤ n by omega) (by simp only [covK, he, Bool.or_true]))
        go_wp2_with fail
        refine (c_has _ _ _ m1 m2 _).mono ?_
        rintro e w5 ⟨rfl, rfl⟩
        rw [he]
        go_wp2_with fail
        go_ret
        exact ⟨congrArg (fun b => Ending.returned (.bool b)) HE.out.symm, (ba (ba (ba hB _) _) _).drew⟩
    · have hk' : k = n := by omega
      subst hk'
      go_wp2_with fail
      go_ret
      exact ⟨congrArg (fun b => Ending.returned (.bool b)) (HR.out.trans HQ.out).symm, hB⟩
end Go.Proofs.YtonecelkkeakiaaGreatDoor
