/- Chapter 8: a number told by its digits. -/
import Derived.Test.YtonecelkkeakiaaGreatDoorZd
import Derived.Shelf.Strings.SlTrimAscii
import Derived.Lib.SmallJoins
import Derived.WalkMore
namespace Go.Proofs.YtonecelkkeakiaaGreatDoor
open Go.RowKit
theorem dec_app (l : List UInt8) (b : UInt8) (d : Nat) (hd : Lib.digitVal b = some d) : ∀ acc n, Lib.decFrom acc l = some n → Lib.decFrom acc (l ++ [b]) = some (n * 10 + d) := by
  induction l with
  | nil => intro acc n h; simp only [Lib.decFrom, Option.some.injEq] at h; subst h; simp [Lib.decFrom, hd]
  | cons a t ih =>
    intro acc n h
    simp only [List.cons_append, Lib.decFrom] at h ⊢
    cases hv : Lib.digitVal a with
    | none => rw [hv] at h; cases h
    | some v => rw [hv] at h; simp only at h ⊢; exact ih _ _ h
theorem dig_val : ∀ k, k < 10 → Lib.digitVal (UInt8.ofNat (48 + k)) = some k := by decide
theorem dig_in : ∀ k, k < 10 → ([48, 49, 50, 51, 52, 53, 54, 55, 56, 57] : List UInt8).contains (UInt8.ofNat (48 + k)) = true := by decide
theorem dec_dec : ∀ n : Nat, Lib.decFrom 0 (Lib.decDigits n) = some n := by
  intro n
  induction n using Nat.strongRecOn with
  | _ n ih =>
    rw [Lib.decDigits]
    split
    · rename_i h
      have := dec_app [] _ n (dig_val n h) 0 0 rfl
      simpa using this
    · rename_i h
      have := dec_app _ _ (n % 10) (dig_val (n % 10) (by omega)) 0 (n / 10) (ih (n / 10) (by omega))
      rw [this]
      congr 1
      omega
theorem dec_all : ∀ n : Nat, ∀ b ∈ Lib.decDigits n, ([48, 49, 50, 51, 52, 53, 54, 55, 56, 57] : List UInt8).contains b = true := by
  intro n
  induction n using Nat.strongRecOn with
  | _ n ih =>
    rw [Lib.decDigits]
    split
    · rename_i h
      intro b hb
      obtain rfl := List.mem_singleton.1 hb
      exact dig_in n h
    · rename_i h
      intro b hb
      rcases List.mem_append.1 hb with hb | hb
      · exact ih (n / 10) (by omega) b hb
      · obtain rfl := List.mem_singleton.1 hb
        exact dig_in (n % 10) (by omega)
theorem dec_ne (n : Nat) : Lib.decDigits n ≠ [] := by
  rw [Lib.decDigits]
  split <;> simp
theorem atoi_dec (n : Nat) : Lib.atoi (Lib.decDigits n) = some (n : Int) := by
  have hd := dec_dec n
  have ha := dec_all n
  cases h : Lib.decDigits n with
  | nil => exact absurd h (dec_ne n)
  | cons b r =>
    rw [h] at hd ha
    have hb := ha b (List.mem_cons_self ..)
    have h1 : (b == 45) = false := by
      cases e : b == 45
      · rfl
      · rw [eq_of_beq e] at hb; exact absurd hb (by decide)
    have h2 : (b == 43) = false := by
      cases e : b == 43
      · rfl
      · rw [eq_of_beq e] at hb; exact absurd hb (by decide)
    simp only [Lib.atoi, h1, h2, Bool.false_eq_true, if_false, Lib.decNat, List.isEmpty_cons, hd, Option.map_some]
theorem drop_all {p : UInt8 → Bool} : ∀ l : List UInt8, (∀ b ∈ l, p b = true) → l.dropWhile p = []
  | [], _ => rfl
  | b :: l, h => by rw [List.dropWhile_cons, if_pos (h b (List.mem_cons_self ..))]; exact drop_all l fun x hx => h x (List.mem_cons_of_mem _ hx)
theorem trim_all (l cs : List UInt8) (h : ∀ b ∈ l, cs.contains b = true) : Lib.trimS l cs = [] := by
  unfold Lib.trimS Lib.trimRightS Lib.trimLeftS
  rw [drop_all l.reverse (fun b hb => h b (List.mem_reverse.1 hb))]
  rfl
theorem pre_dec (n : Nat) : Lib.trimPrefix (Lib.decDigits n) [45] = Lib.decDigits n := by
  unfold Lib.trimPrefix
  have ha := dec_all n
  cases h : Lib.decDigits n with
  | nil => exact absurd h (dec_ne n)
  | cons b r =>
    rw [h] at ha
    have hb := ha b (List.mem_cons_self ..)
    rw [if_neg]
    simp only [Lib.hasPrefix, List.isPrefixOf, Bool.and_true]
    intro e
    rw [← eq_of_beq e] at hb
    exact absurd hb (by decide)
set_option maxRecDepth 20000 in
theorem c_numberTold (n : Nat) (hn : n < 10000) (w : World) : Calls Tryz.prog 196 #[.string (txt n)] w fun e w' => e = .returned (.int .i64 (n : Int)) ∧ Below w.heap.size w w' := by
  have hp : Calls Tryz.prog 248 #[.string (txt n), .string ⟨#[45]⟩] w fun e w' => e = .returned (.string (txt n)) ∧ w = w' := by
    refine (Tryz.strings_TrimPrefix (txt n) ⟨#[45]⟩ w).mono ?_
    rintro e w' ⟨rfl, rfl⟩
    refine ⟨?_, rfl⟩
    have e1 : (txt n).data.toList = Lib.decDigits n := by simp [txt]
    rw [e1]
    show Ending.returned (.string ⟨(Lib.trimPrefix (Lib.decDigits n) [45]).toArray⟩) = _
    rw [pre_dec]
    rfl
  have ht : ∀ w, Calls Tryz.prog 249 #[.string (txt n), .string ⟨#[48, 49, 50, 51, 52, 53, 54, 55, 56, 57]⟩] w fun e w' => e = .returned (.string ⟨#[]⟩) ∧ Below w.heap.size w w' := fun w => by
    refine (Any.strings_Trim_laid Tryz.lays160 (by kernel_rfl) (txt n) ⟨#[48, 49, 50, 51, 52, 53, 54, 55, 56, 57]⟩ w (by have := txt_len hn; omega) (by decide) (ascii_of_all (by decide))).mono ?_
    rintro e w' ⟨rfl, hb⟩
    refine ⟨?_, hb⟩
    have e1 : (txt n).data.toList = Lib.decDigits n := by simp [txt]
    rw [e1, trim_all _ _ (dec_all n)]
  have ha : ∀ w, Calls Tryz.prog 250 #[.string (txt n)] w fun e w' => e = .returned (.tuple #[.int .i64 (n : Int), .nilIface]) ∧ Below w.heap.size w w' := fun w => by
    refine (Tryz.strconv_Atoi (txt n) (n : Int) (by have := txt_len hn; omega) (by
      have e1 : (txt n).data.toList = Lib.decDigits n := by simp [txt]
      rw [e1, atoi_dec]) w).mono ?_
    rintro e w' ⟨rfl, t, rfl⟩
    exact ⟨rfl, Joins.below_bytesWorld _ _ _ _ (Nat.le_refl _)⟩
  have hl := txt_len hn
  generalize txt n = T at *
  go_enter Tryz.func196, Tryz.ntmps196
  go_wp2_with (first | (go_at_call 248; refine (hp).mono ?_; rintro e w1 ⟨rfl, rfl⟩) | (go_at_call 249; refine (ht _).mono ?_; rintro e w1 ⟨rfl, hb⟩))
  refine (ha w1).mono ?_
  rintro e w2 ⟨rfl, hb2⟩
  go_wp2_with fail
  go_ret
  exact ⟨rfl, bt2 hb hb2⟩
end Go.Proofs.YtonecelkkeakiaaGreatDoor
