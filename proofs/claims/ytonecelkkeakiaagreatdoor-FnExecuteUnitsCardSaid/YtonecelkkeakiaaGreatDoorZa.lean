/- Chapter 8: the law's digits. -/
import Derived.Test.YtonecelkkeakiaaGreatDoorC1
import Derived.Test.YtonecelkkeakiaaGreatDoorMathS
import Derived.Lib.ItoaNum
import Derived.Laws.IdiomStrings
import Derived.Deep.RegionWith
import Derived.WalkMore
namespace Go.Proofs.YtonecelkkeakiaaGreatDoor
open Go.RowKit
/-- the text of a number -/
def txt (n : Nat) : ByteArray := ⟨(Lib.decDigits n).toArray⟩
theorem txt_small {n : Nat} (h : n < 10) : txt n = ⟨#[UInt8.ofNat (48 + n)]⟩ := by
  unfold txt
  rw [Lib.decDigits, dif_pos h]
theorem txt_big {n : Nat} (h : 10 ≤ n) : txt n = txt (n / 10) ++ ⟨#[UInt8.ofNat (48 + n % 10)]⟩ := by
  unfold txt
  rw [Lib.decDigits, dif_neg (by omega)]
  ext1
  simp
theorem cv_byte (W : World) (b : Nat) (hb : b < 256) : (convert 22 9 (.slice (some ⟨W.heap.size, 0, none⟩) 1 1)).run Tryz.prog (W.alloc (.cells #[.int .u8 (b : Int)] 5)) = .ok (.string ⟨#[UInt8.ofNat b]⟩) (W.alloc (.cells #[.int .u8 (b : Int)] 5)) := by
  have := run_convert_bytes_back (P := Tryz.prog) (W.alloc (.cells #[.int .u8 (b : Int)] 5)) 22 9 5 ⟨W.heap.size, 0, none⟩ 1 [UInt8.ofNat b] Tryz.underlying22 Tryz.underlying5 Tryz.underlying9 (fun j hj => by
    obtain rfl : j = 0 := by simpa using hj
    have e : ((UInt8.ofNat b).toNat : Int) = b := by simp; omega
    simp only [List.getElem_cons_zero, e]
    exact World.cell?_alloc_mark W _ _ _ 0)
  simpa using this
theorem cv_txt (W : World) (n b : Nat) (hb : b < 256) (ht : txt n = ⟨#[UInt8.ofNat b]⟩) (c : Int) (hc : c = b) : (convert 22 9 (.slice (some ⟨W.heap.size, 0, none⟩) 1 1)).run Tryz.prog (W.alloc (.cells #[.int .u8 c] 5)) = .ok (.string (txt n)) (W.alloc (.cells #[.int .u8 c] 5)) := by
  subst hc
  rw [ht]
  exact cv_byte W b hb
set_option maxRecDepth 20000 in
theorem c_digits0 (w : World) : Calls Tryz.prog 17 #[.int .i64 0] w fun e w' => e = .returned (.string (txt 0)) ∧ Below w.heap.size w w' := by
  have hc := cv_txt w 0 48 (by omega) (txt_small (by omega)) 48 rfl
  generalize txt 0 = T at *
  go_enter Tryz.func17, Tryz.ntmps17
  go_wp2_with fail
  go_ret
  exact ⟨rfl, Below.alloc (Below.refl _ _) (Nat.le_refl _) _⟩
set_option maxRecDepth 20000 in
theorem c_digits1 (n : Nat) (h0 : 1 ≤ n) (h : n < 10) (w : World) : Calls Tryz.prog 17 #[.int .i64 (n : Int)] w fun e w' => e = .returned (.string (txt n)) ∧ Below w.heap.size w w' := by
  have hc := cv_txt w n (48 + n) (by omega) (txt_small h) (48 + (n : Int)) (by omega)
  generalize txt n = T at *
  go_enter Tryz.func17, Tryz.ntmps17
  go_wp2_with fail
  go_ret
  exact ⟨rfl, Below.alloc (Below.refl _ _) (Nat.le_refl _) _⟩
theorem cv_at (W : World) (b : Nat) (c : Nat) (hc : c < 256) (h : W.cell? ⟨b, 0, none⟩ = some (.int .u8 (c : Int))) : (convert 22 9 (.slice (some ⟨b, 0, none⟩) 1 1)).run Tryz.prog W = .ok (.string ⟨#[UInt8.ofNat c]⟩) W := by
  have := run_convert_bytes_back (P := Tryz.prog) W 22 9 5 ⟨b, 0, none⟩ 1 [UInt8.ofNat c] Tryz.underlying22 Tryz.underlying5 Tryz.underlying9 (fun j hj => by
    obtain rfl : j = 0 := by simpa using hj
    have e : ((UInt8.ofNat c).toNat : Int) = c := by simp; omega
    simp only [List.getElem_cons_zero, e]
    exact h)
  simpa using this
set_option maxRecDepth 20000 in
set_option maxHeartbeats 1000000 in
theorem c_digits2 (x q r : Int) (L T1 T : ByteArray) (h0 : 10 ≤ x) (h : x < 1000000) (hq : x.tdiv 10 = q) (hr : x.tmod 10 = r) (hw : Hid (IntKind.i64.wrap q = q)) (et : Hid (T1 ++ L = T)) (s1 : T1.size + L.size ≤ 1000)
    (hv : Hid (∀ (W : World) (b : Nat), W.cell? ⟨b, 0, none⟩ = some (.int .u8 (IntKind.u8.wrap (IntKind.i64.wrap (48 + r)))) → (convert 22 9 (.slice (some ⟨b, 0, none⟩) 1 1)).run Tryz.prog W = .ok (.string L) W))
    (ih : ∀ w, Calls Tryz.prog 17 #[.int .i64 q] w fun e w' => e = .returned (.string T1) ∧ Below w.heap.size w w') (w : World) : Calls Tryz.prog 17 #[.int .i64 x] w fun e w' => e = .returned (.string T) ∧ Below w.heap.size w w' := by
  have hq1 : x / 10 = q := by rw [← hq, Int.tdiv_eq_ediv_of_nonneg (by omega)]
  have hr1 : x % 10 = r := by rw [← hr, Int.tmod_eq_emod_of_nonneg (by omega)]
  have hc : ∀ W : World, (convert 22 9 (.slice (some ⟨W.heap.size, 0, none⟩) 1 1)).run Tryz.prog (W.alloc (.cells #[.int .u8 (IntKind.u8.wrap (IntKind.i64.wrap (48 + r)))] 5)) = .ok (.string L) (W.alloc (.cells #[.int .u8 (IntKind.u8.wrap (IntKind.i64.wrap (48 + r)))] 5)) :=
    fun W => hv.out _ _ (World.cell?_alloc_mark W _ _ _ 0)
  have hcd : (convert 22 9 (.slice (some ⟨w.heap.size, 0, none⟩) 1 1)).run Tryz.prog (w.alloc (.cells #[.int .u8 (IntKind.u8.wrap (IntKind.i64.wrap (48 + r)))] 5)).drew = .ok (.string L) (w.alloc (.cells #[.int .u8 (IntKind.u8.wrap (IntKind.i64.wrap (48 + r)))] 5)).drew :=
    hv.out _ _ (World.cell?_alloc_mark w _ _ _ 0)
  go_enter Tryz.func17, Tryz.ntmps17
  go_wp2_with fail
  go_region_with (go_at_call 17; rw [hw.out]; refine (ih _).mono ?_; rintro e w1 ⟨rfl, hb⟩; try have kq := hv.out w1 w.heap.size (keepc hb (show (w.alloc (.cells #[.int .u8 (IntKind.u8.wrap (IntKind.i64.wrap (48 + r)))] 5)).drew.cell? ⟨w.heap.size, 0, none⟩ = some (.int .u8 (IntKind.u8.wrap (IntKind.i64.wrap (48 + r)))) from World.cell?_alloc_mark w _ _ _ 0)))
  all_goals go_wp2_with fail
  all_goals go_ret
  all_goals refine ⟨by rw [et.out]; rfl, ?_⟩
  all_goals (repeat (first | exact Below.refl _ _ | assumption | refine Below.drew ?_ | refine bel_drewN ?_ _ | refine ba ?_ _ | refine bt2 ?_ (by assumption) | refine Below.setCell ?_ (by simp <;> omega) _))
theorem dec_len : ∀ n : Nat, (txt n).size ≤ n + 1 := by
  intro n
  induction n using Nat.strongRecOn with
  | _ n ih =>
    rcases Nat.lt_or_ge n 10 with h | h
    · rw [txt_small h]; show 1 ≤ n + 1; omega
    · rw [txt_big h, ByteArray.size_append]
      have := ih (n / 10) (by omega)
      show (txt (n / 10)).size + 1 ≤ n + 1
      omega
theorem txt_len {n : Nat} (h : n < 10000) : (txt n).size ≤ 4 := by
  have a1 : ∀ n, n < 10 → (txt n).size ≤ 1 := fun n h => by rw [txt_small h]; exact Nat.le_refl 1
  have st : ∀ k, (∀ n, n < 10 ^ k → (txt n).size ≤ k) → 1 ≤ k → ∀ n, n < 10 ^ (k + 1) → (txt n).size ≤ k + 1 := fun k hk h1 n hn => by
    rcases Nat.lt_or_ge n 10 with h | h
    · have := a1 n h; omega
    · rw [txt_big h, ByteArray.size_append]
      have := hk (n / 10) (by rw [Nat.pow_succ] at hn; omega)
      show (txt (n / 10)).size + 1 ≤ k + 1
      omega
  have a2 := st 1 a1 (by omega)
  have a3 := st 2 a2 (by omega)
  have a4 := st 3 a3 (by omega)
  exact a4 n h
theorem c_digits : ∀ (n : Nat), n < 10000 → ∀ w, Calls Tryz.prog 17 #[.int .i64 (n : Int)] w fun e w' => e = .returned (.string (txt n)) ∧ Below w.heap.size w w' := by
  intro n
  induction n using Nat.strongRecOn with
  | _ n ih =>
    intro hn w
    rcases Nat.eq_zero_or_pos n with rfl | h0
    · exact c_digits0 w
    rcases Nat.lt_or_ge n 10 with h | h
    · exact c_digits1 n h0 h w
    · have hL := txt_len (n := n) hn
      have hb := txt_big h
      have ih' := ih (n / 10) (by omega) (by omega)
      rw [Int.natCast_ediv] at ih'
      have e1 : IntKind.i64.wrap (48 + (n : Int) % 10) = 48 + (n : Int) % 10 := by rw [IntKind.wrap_i64]; omega
      have e2 : IntKind.u8.wrap (48 + (n : Int) % 10) = ((48 + n % 10 : Nat) : Int) := by rw [IntKind.wrap_u8]; omega
      refine c_digits2 (n : Int) ((n : Int) / 10) ((n : Int) % 10) ⟨#[UInt8.ofNat (48 + n % 10)]⟩ (txt (n / 10)) (txt n) (by omega) (by omega) (by rw [Int.tdiv_eq_ediv_of_nonneg (by omega)]) (by rw [Int.tmod_eq_emod_of_nonneg (by omega)]) (Lib.hid (by rw [IntKind.wrap_i64]; omega)) (Lib.hid hb.symm) ?_ (Lib.hid fun W b h => ?_) ih' w
      · have := congrArg ByteArray.size hb
        rw [ByteArray.size_append] at this
        omega
      · rw [e1, e2] at h
        exact cv_at W b _ (by omega) h
end Go.Proofs.YtonecelkkeakiaaGreatDoor
