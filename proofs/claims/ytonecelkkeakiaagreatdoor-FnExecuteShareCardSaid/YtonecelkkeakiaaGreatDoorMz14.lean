/- Chapter 8: the law's digits. -/
import Derived.Test.YtonecelkkeakiaaGreatDoorC1
import Derived.Test.YtonecelkkeakiaaGreatDoorMathS
import Derived.Lib.ItoaNum
import Derived.Laws.IdiomStrings
import Derived.Deep.RegionWith
import Derived.WalkMore
import Derived.Test.YtonecelkkeakiaaGreatDoorShelf
import Derived.Test.YtonecelkkeakiaaGreatDoorY3
import Derived.Lib.AppendIntMem
import Derived.Shelf.Strings.SlTrimAscii
import Derived.Lib.SmallJoins
import Derived.MapFrom
import Derived.Lib.Builder
import Derived.Lib.AppendStr
import Derived.Lib.UnsafeStr
import Derived.Lib.MakeNoZero
import Derived.Laws.Externs
import Derived.Laws.IdiomCopy
import Derived.Shelf.RegionOpenPlain
namespace Go.Proofs.YtonecelkkeakiaaGreatDoor
open Go.RowKit
/-- the text of a number -/
def txt (n : Nat) : ByteArray := ⟨(Lib.decDigits n).toArray⟩
theorem txt_small {n : Nat} (h : n < 10) : txt n = ⟨#[UInt8.ofNat (48 + n)]⟩ := by
  unfold txt
  rw [Lib.decDigits, dif_pos h]
theorem txt_big {n : Nat} (h : 10 ≤ n) : txt n = txt (n / 10) ++ ⟨#[UInt8.ofNat (48 + n % 10)]⟩ := by
  unfold txt
  rw [Lib.decDigits, dif_neg (by omega)]
  ext1
  simp
theorem cv_byte (W : World) (b : Nat) (hb : b < 256) : (convert 22 9 (.slice (some ⟨W.heap.size, 0, none⟩) 1 1)).run Tryz.prog (W.alloc (.cells #[.int .u8 (b : Int)] 5)) = .ok (.string ⟨#[UInt8.ofNat b]⟩) (W.alloc (.cells #[.int .u8 (b : Int)] 5)) := by
  have := run_convert_bytes_back (P := Tryz.prog) (W.alloc (.cells #[.int .u8 (b : Int)] 5)) 22 9 5 ⟨W.heap.size, 0, none⟩ 1 [UInt8.ofNat b] Tryz.underlying22 Tryz.underlying5 Tryz.underlying9 (fun j hj => by
    obtain rfl : j = 0 := by simpa using hj
    have e : ((UInt8.ofNat b).toNat : Int) = b := by simp; omega
    simp only [List.getElem_cons_zero, e]
    exact World.cell?_alloc_mark W _ _ _ 0)
  simpa using this
theorem cv_txt (W : World) (n b : Nat) (hb : b < 256) (ht : txt n = ⟨#[UInt8.ofNat b]⟩) (c : Int) (hc : c = b) : (convert 22 9 (.slice (some ⟨W.heap.size, 0, none⟩) 1 1)).run Tryz.prog (W.alloc (.cells #[.int .u8 c] 5)) = .ok (.string (txt n)) (W.alloc (.cells #[.int .u8 c] 5)) := by
  subst hc
  rw [ht]
  exact cv_byte W b hb
set_option maxRecDepth 20000 in
theorem c_digits0 (w : World) : Calls Tryz.prog 17 #[.int .i64 0] w fun e w' => e = .returned (.string (txt 0)) ∧ Below w.heap.size w w' := by
  have hc := cv_txt w 0 48 (by omega) (txt_small (by omega)) 48 rfl
  generalize txt 0 = T at *
  go_enter Tryz.func17, Tryz.ntmps17
  go_wp2_with fail
  go_ret
  exact ⟨rfl, Below.alloc (Below.refl _ _) (Nat.le_refl _) _⟩
set_option maxRecDepth 20000 in
theorem c_digits1 (n : Nat) (h0 : 1 ≤ n) (h : n < 10) (w : World) : Calls Tryz.prog 17 #[.int .i64 (n : Int)] w fun e w' => e = .returned (.string (txt n)) ∧ Below w.heap.size w w' := by
  have hc := cv_txt w n (48 + n) (by omega) (txt_small h) (48 + (n : Int)) (by omega)
  generalize txt n = T at *
  go_enter Tryz.func17, Tryz.ntmps17
  go_wp2_with fail
  go_ret
  exact ⟨rfl, Below.alloc (Below.refl _ _) (Nat.le_refl _) _⟩
theorem cv_at (W : World) (b : Nat) (c : Nat) (hc : c < 256) (h : W.cell? ⟨b, 0, none⟩ = some (.int .u8 (c : Int))) : (convert 22 9 (.slice (some ⟨b, 0, none⟩) 1 1)).run Tryz.prog W = .ok (.string ⟨#[UInt8.ofNat c]⟩) W := by
  have := run_convert_bytes_back (P := Tryz.prog) W 22 9 5 ⟨b, 0, none⟩ 1 [UInt8.ofNat c] Tryz.underlying22 Tryz.underlying5 Tryz.underlying9 (fun j hj => by
    obtain rfl : j = 0 := by simpa using hj
    have e : ((UInt8.ofNat c).toNat : Int) = c := by simp; omega
    simp only [List.getElem_cons_zero, e]
    exact h)
  simpa using this
set_option maxRecDepth 20000 in
set_option maxHeartbeats 1000000 in
theorem c_digits2 (x q r : Int) (L T1 T : ByteArray) (h0 : 10 ≤ x) (h : x < 1000000) (hq : x.tdiv 10 = q) (hr : x.tmod 10 = r) (hw : Hid (IntKind.i64.wrap q = q)) (et : Hid (T1 ++ L = T)) (s1 : T1.size + L.size ≤ 1000)
    (hv : Hid (∀ (W : World) (b : Nat), W.cell? ⟨b, 0, none⟩ = some (.int .u8 (IntKind.u8.wrap (IntKind.i64.wrap (48 + r)))) → (convert 22 9 (.slice (some ⟨b, 0, none⟩) 1 1)).run Tryz.prog W = .ok (.string L) W))
    (ih : ∀ w, Calls Tryz.prog 17 #[.int .i64 q] w fun e w' => e = .returned (.string T1) ∧ Below w.heap.size w w') (w : World) : Calls Tryz.prog 17 #[.int .i64 x] w fun e w' => e = .returned (.string T) ∧ Below w.heap.size w w' := by
  have hq1 : x / 10 = q := by rw [← hq, Int.tdiv_eq_ediv_of_nonneg (by omega)]
  have hr1 : x % 10 = r := by rw [← hr, Int.tmod_eq_emod_of_nonneg (by omega)]
  have hc : ∀ W : World, (convert 22 9 (.slice (some ⟨W.heap.size, 0, none⟩) 1 1)).run Tryz.prog (W.alloc (.cells #[.int .u8 (IntKind.u8.wrap (IntKind.i64.wrap (48 + r)))] 5)) = .ok (.string L) (W.alloc (.cells #[.int .u8 (IntKind.u8.wrap (IntKind.i64.wrap (48 + r)))] 5)) :=
    fun W => hv.out _ _ (World.cell?_alloc_mark W _ _ _ 0)
  have hcd : (convert 22 9 (.slice (some ⟨w.heap.size, 0, none⟩) 1 1)).run Tryz.prog (w.alloc (.cells #[.int .u8 (IntKind.u8.wrap (IntKind.i64.wrap (48 + r)))] 5)).drew = .ok (.string L) (w.alloc (.cells #[.int .u8 (IntKind.u8.wrap (IntKind.i64.wrap (48 + r)))] 5)).drew :=
    hv.out _ _ (World.cell?_alloc_mark w _ _ _ 0)
  go_enter Tryz.func17, Tryz.ntmps17
  go_wp2_with fail
  go_region_with (go_at_call 17; rw [hw.out]; refine (ih _).mono ?_; rintro e w1 ⟨rfl, hb⟩; try have kq := hv.out w1 w.heap.size (keepc hb (show (w.alloc (.cells #[.int .u8 (IntKind.u8.wrap (IntKind.i64.wrap (48 + r)))] 5)).drew.cell? ⟨w.heap.size, 0, none⟩ = some (.int .u8 (IntKind.u8.wrap (IntKind.i64.wrap (48 + r)))) from World.cell?_alloc_mark w _ _ _ 0)))
  all_goals go_wp2_with fail
  all_goals go_ret
  all_goals refine ⟨by rw [et.out]; rfl, ?_⟩
  all_goals (repeat (first | exact Below.refl _ _ | assumption | refine Below.drew ?_ | refine bel_drewN ?_ _ | refine ba ?_ _ | refine bt2 ?_ (by assumption) | refine Below.setCell ?_ (by simp <;> omega) _))
theorem dec_len : ∀ n : Nat, (txt n).size ≤ n + 1 := by
  intro n
  induction n using Nat.strongRecOn with
  | _ n ih =>
    rcases Nat.lt_or_ge n 10 with h | h
    · rw [txt_small h]; show 1 ≤ n + 1; omega
    · rw [txt_big h, ByteArray.size_append]
      have := ih (n / 10) (by omega)
      show (txt (n / 10)).size + 1 ≤ n + 1
      omega
theorem txt_len {n : Nat} (h : n < 10000) : (txt n).size ≤ 4 := by
  have a1 : ∀ n, n < 10 → (txt n).size ≤ 1 := fun n h => by rw [txt_small h]; exact Nat.le_refl 1
  have st : ∀ k, (∀ n, n < 10 ^ k → (txt n).size ≤ k) → 1 ≤ k → ∀ n, n < 10 ^ (k + 1) → (txt n).size ≤ k + 1 := fun k hk h1 n hn => by
    rcases Nat.lt_or_ge n 10 with h | h
    · have := a1 n h; omega
    · rw [txt_big h, ByteArray.size_append]
      have := hk (n / 10) (by rw [Nat.pow_succ] at hn; omega)
      show (txt (n / 10)).size + 1 ≤ k + 1
      omega
  have a2 := st 1 a1 (by omega)
  have a3 := st 2 a2 (by omega)
  have a4 := st 3 a3 (by omega)
  exact a4 n h
theorem c_digits : ∀ (n : Nat), n < 10000 → ∀ w, Calls Tryz.prog 17 #[.int .i64 (n : Int)] w fun e w' => e = .returned (.string (txt n)) ∧ Below w.heap.size w w' := by
  intro n
  induction n using Nat.strongRecOn with
  | _ n ih =>
    intro hn w
    rcases Nat.eq_zero_or_pos n with rfl | h0
    · exact c_digits0 w
    rcases Nat.lt_or_ge n 10 with h | h
    · exact c_digits1 n h0 h w
    · have hL := txt_len (n := n) hn
      have hb := txt_big h
      have ih' := ih (n / 10) (by omega) (by omega)
      rw [Int.natCast_ediv] at ih'
      have e1 : IntKind.i64.wrap (48 + (n : Int) % 10) = 48 + (n : Int) % 10 := by rw [IntKind.wrap_i64]; omega
      have e2 : IntKind.u8.wrap (48 + (n : Int) % 10) = ((48 + n % 10 : Nat) : Int) := by rw [IntKind.wrap_u8]; omega
      refine c_digits2 (n : Int) ((n : Int) / 10) ((n : Int) % 10) ⟨#[UInt8.ofNat (48 + n % 10)]⟩ (txt (n / 10)) (txt n) (by omega) (by omega) (by rw [Int.tdiv_eq_ediv_of_nonneg (by omega)]) (by rw [Int.tmod_eq_emod_of_nonneg (by omega)]) (Lib.hid (by rw [IntKind.wrap_i64]; omega)) (Lib.hid hb.symm) ?_ (Lib.hid fun W b h => ?_) ih' w
      · have := congrArg ByteArray.size hb
        rw [ByteArray.size_append] at this
        omega
      · rw [e1, e2] at h
        exact cv_at W b _ (by omega) h
end Go.Proofs.YtonecelkkeakiaaGreatDoor
namespace Go.Proofs.YtonecelkkeakiaaGreatDoor
open Go.RowKit
theorem itoa_txt (n : Nat) : (⟨(Lib.itoa (n : Int)).toArray⟩ : ByteArray) = txt n := by
  unfold Lib.itoa txt
  rw [if_neg (by omega)]
  simp
theorem g_pow : Tryz.prog.globalNamed "internal/strconv.uint64pow10" = some 1 := by kernel_rfl
/-- what is leant on of the library's variables -/
structure Env (w : World) : Prop where
  ml : ∃ m, w.cell? ⟨0, 0, none⟩ = some (.int .i64 m)
  pw : Lib.TabIs Tryz.prog w "internal/strconv.uint64pow10" IntKind.u64 Lib.pow10Tab
theorem Env.keep {w w' : World} (h : Env w) (hb : Below w.heap.size w w') : Env w' := by
  obtain ⟨⟨m, hm⟩, hp⟩ := h
  refine ⟨⟨m, keepc hb hm⟩, ?_⟩
  unfold Lib.TabIs World.var? at hp ⊢
  rw [g_pow] at hp ⊢
  simp only [Option.bind_some] at hp ⊢
  have hl : 1 < w.heap.size := by
    rcases Nat.lt_or_ge 1 w.heap.size with h | h
    · exact h
    · rw [Array.getElem?_eq_none h] at hp; cases hp
  rw [hb.block 1 hl]
  exact hp
theorem Env.low {w w' : World} {B : Nat} (h : Env w) (hb : Below B w w') (hB : 2 ≤ B) : Env w' := by
  obtain ⟨⟨m, hm⟩, hp⟩ := h
  refine ⟨⟨m, (hb.cell (p := ⟨0, 0, none⟩) (by show 0 < B; omega)).trans hm⟩, ?_⟩
  unfold Lib.TabIs World.var? at hp ⊢
  rw [g_pow] at hp ⊢
  simp only [Option.bind_some] at hp ⊢
  rw [hb.block 1 (by omega)]
  exact hp
theorem c_itoa (n : Nat) (hn : n < 1000000000) (w : World) (hE : Env w) : Calls Tryz.prog 30 #[.int .i64 (n : Int)] w fun e w' => e = .returned (.string (txt n)) ∧ Below w.heap.size w w' := by
  refine (Tryz.strconv_Itoa (n : Int) (by omega) (by omega) w hE.pw).mono ?_
  rintro e w' ⟨rfl, k, os, rfl⟩
  exact ⟨by rw [itoa_txt], Lib.below_grow _ w (Nat.le_refl _) k os⟩
theorem c_numberAnswer (n : Nat) (hn : n < 1000000000) (ok : Bool) (w : World) (hE : Env w) : Calls Tryz.prog 103 #[.int .i64 (n : Int), .bool ok] w fun e w' => e = .returned (.tuple #[.string (txt n), .bool ok]) ∧ Below w.heap.size w w' := by
  go_enter Tryz.func103, Tryz.ntmps103
  go_wp2_with (go_at_call 30; refine (c_itoa n hn _ hE).mono ?_; rintro e w1 ⟨rfl, hb⟩)
  go_ret2
  exact ⟨rfl, hb⟩
theorem uniI_nat (m : Int) : uniI m = ((uniI m).toNat : Int) := by unfold uniI; omega
theorem uniI_le {m : Int} (m1 : 1 ≤ m) (m2 : m ≤ 1000) : (uniI m).toNat ≤ 1000 := by
  have h := uniC_le m (oneTo m.toNat)
  rw [oneTo_length] at h
  unfold uniI
  omega
theorem c_units (g cap k : Nat) (m : Int) (B : Value) (m1 : 1 ≤ m) (m2 : m ≤ 1000) (w : World) (hE : Env w) (hc : w.cell? ⟨g, 0, none⟩ = some (.int .i64 m)) : Calls Tryz.prog 71 #[B, .slice (some ⟨g, 0, none⟩) (k + 1) cap] w fun e w' => e = .returned (.tuple #[.string (txt (uniI m).toNat), .bool true]) ∧ Below w.heap.size w w' := by
  have hU := c_implUnits1 m m1 m2 w
  have hle := uniI_le m1 m2
  rw [uniI_nat m] at hU
  generalize (uniI m).toNat = u at *
  go_enter Tryz.func71, Tryz.ntmps71
  go_wp2_with (go_at_call 19; refine (hU).mono ?_; rintro e w1 ⟨rfl, hb⟩)
  refine (c_numberAnswer u (by omega) true w1 (hE.keep hb)).mono ?_
  rintro e w2 ⟨rfl, hb2⟩
  go_wp2_with fail
  go_ret2
  exact ⟨rfl, bt2 hb hb2⟩
end Go.Proofs.YtonecelkkeakiaaGreatDoor
namespace Go.Proofs.YtonecelkkeakiaaGreatDoor
open Go.RowKit
theorem dec_app (l : List UInt8) (b : UInt8) (d : Nat) (hd : Lib.digitVal b = some d) : ∀ acc n, Lib.decFrom acc l = some n → Lib.decFrom acc (l ++ [b]) = some (n * 10 + d) := by
  induction l with
  | nil => intro acc n h; simp only [Lib.decFrom, Option.some.injEq] at h; subst h; simp [Lib.decFrom, hd]
  | cons a t ih =>
    intro acc n h
    simp only [List.cons_append, Lib.decFrom] at h ⊢
    cases hv : Lib.digitVal a with
    | none => rw [hv] at h; cases h
    | some v => rw [hv] at h; simp only at h ⊢; exact ih _ _ h
theorem dig_val : ∀ k, k < 10 → Lib.digitVal (UInt8.ofNat (48 + k)) = some k := by decide
theorem dig_in : ∀ k, k < 10 → ([48, 49, 50, 51, 52, 53, 54, 55, 56, 57] : List UInt8).contains (UInt8.ofNat (48 + k)) = true := by decide
theorem dec_dec : ∀ n : Nat, Lib.decFrom 0 (Lib.decDigits n) = some n := by
  intro n
  induction n using Nat.strongRecOn with
  | _ n ih =>
    rw [Lib.decDigits]
    split
    · rename_i h
      have := dec_app [] _ n (dig_val n h) 0 0 rfl
      simpa using this
    · rename_i h
      have := dec_app _ _ (n % 10) (dig_val (n % 10) (by omega)) 0 (n / 10) (ih (n / 10) (by omega))
      rw [this]
      congr 1
      omega
theorem dec_all : ∀ n : Nat, ∀ b ∈ Lib.decDigits n, ([48, 49, 50, 51, 52, 53, 54, 55, 56, 57] : List UInt8).contains b = true := by
  intro n
  induction n using Nat.strongRecOn with
  | _ n ih =>
    rw [Lib.decDigits]
    split
    · rename_i h
      intro b hb
      obtain rfl := List.mem_singleton.1 hb
      exact dig_in n h
    · rename_i h
      intro b hb
      rcases List.mem_append.1 hb with hb | hb
      · exact ih (n / 10) (by omega) b hb
      · obtain rfl := List.mem_singleton.1 hb
        exact dig_in (n % 10) (by omega)
theorem dec_ne (n : Nat) : Lib.decDigits n ≠ [] := by
  rw [Lib.decDigits]
  split <;> simp
theorem atoi_dec (n : Nat) : Lib.atoi (Lib.decDigits n) = some (n : Int) := by
  have hd := dec_dec n
  have ha := dec_all n
  cases h : Lib.decDigits n with
  | nil => exact absurd h (dec_ne n)
  | cons b r =>
    rw [h] at hd ha
    have hb := ha b (List.mem_cons_self ..)
    have h1 : (b == 45) = false := by
      cases e : b == 45
      · rfl
      · rw [eq_of_beq e] at hb; exact absurd hb (by decide)
    have h2 : (b == 43) = false := by
      cases e : b == 43
      · rfl
      · rw [eq_of_beq e] at hb; exact absurd hb (by decide)
    simp only [Lib.atoi, h1, h2, Bool.false_eq_true, if_false, Lib.decNat, List.isEmpty_cons, hd, Option.map_some]
theorem drop_all {p : UInt8 → Bool} : ∀ l : List UInt8, (∀ b ∈ l, p b = true) → l.dropWhile p = []
  | [], _ => rfl
  | b :: l, h => by rw [List.dropWhile_cons, if_pos (h b (List.mem_cons_self ..))]; exact drop_all l fun x hx => h x (List.mem_cons_of_mem _ hx)
theorem trim_all (l cs : List UInt8) (h : ∀ b ∈ l, cs.contains b = true) : Lib.trimS l cs = [] := by
  unfold Lib.trimS Lib.trimRightS Lib.trimLeftS
  rw [drop_all l.reverse (fun b hb => h b (List.mem_reverse.1 hb))]
  rfl
theorem pre_dec (n : Nat) : Lib.trimPrefix (Lib.decDigits n) [45] = Lib.decDigits n := by
  unfold Lib.trimPrefix
  have ha := dec_all n
  cases h : Lib.decDigits n with
  | nil => exact absurd h (dec_ne n)
  | cons b r =>
    rw [h] at ha
    have hb := ha b (List.mem_cons_self ..)
    rw [if_neg]
    simp only [Lib.hasPrefix, List.isPrefixOf, Bool.and_true]
    intro e
    rw [← eq_of_beq e] at hb
    exact absurd hb (by decide)
set_option maxRecDepth 20000 in
theorem c_numberTold (n : Nat) (hn : n < 10000) (w : World) : Calls Tryz.prog 196 #[.string (txt n)] w fun e w' => e = .returned (.int .i64 (n : Int)) ∧ Below w.heap.size w w' := by
  have hp : Calls Tryz.prog 248 #[.string (txt n), .string ⟨#[45]⟩] w fun e w' => e = .returned (.string (txt n)) ∧ w = w' := by
    refine (Tryz.strings_TrimPrefix (txt n) ⟨#[45]⟩ w).mono ?_
    rintro e w' ⟨rfl, rfl⟩
    refine ⟨?_, rfl⟩
    have e1 : (txt n).data.toList = Lib.decDigits n := by simp [txt]
    rw [e1]
    show Ending.returned (.string ⟨(Lib.trimPrefix (Lib.decDigits n) [45]).toArray⟩) = _
    rw [pre_dec]
    rfl
  have ht : ∀ w, Calls Tryz.prog 249 #[.string (txt n), .string ⟨#[48, 49, 50, 51, 52, 53, 54, 55, 56, 57]⟩] w fun e w' => e = .returned (.string ⟨#[]⟩) ∧ Below w.heap.size w w' := fun w => by
    refine (Any.strings_Trim_laid Tryz.lays160 (by kernel_rfl) (txt n) ⟨#[48, 49, 50, 51, 52, 53, 54, 55, 56, 57]⟩ w (by have := txt_len hn; omega) (by decide) (ascii_of_all (by decide))).mono ?_
    rintro e w' ⟨rfl, hb⟩
    refine ⟨?_, hb⟩
    have e1 : (txt n).data.toList = Lib.decDigits n := by simp [txt]
    rw [e1, trim_all _ _ (dec_all n)]
  have ha : ∀ w, Calls Tryz.prog 250 #[.string (txt n)] w fun e w' => e = .returned (.tuple #[.int .i64 (n : Int), .nilIface]) ∧ Below w.heap.size w w' := fun w => by
    refine (Tryz.strconv_Atoi (txt n) (n : Int) (by have := txt_len hn; omega) (by
      have e1 : (txt n).data.toList = Lib.decDigits n := by simp [txt]
      rw [e1, atoi_dec]) w).mono ?_
    rintro e w' ⟨rfl, t, rfl⟩
    exact ⟨rfl, Joins.below_bytesWorld _ _ _ _ (Nat.le_refl _)⟩
  have hl := txt_len hn
  generalize txt n = T at *
  go_enter Tryz.func196, Tryz.ntmps196
  go_wp2_with (first | (go_at_call 248; refine (hp).mono ?_; rintro e w1 ⟨rfl, rfl⟩) | (go_at_call 249; refine (ht _).mono ?_; rintro e w1 ⟨rfl, hb⟩))
  refine (ha w1).mono ?_
  rintro e w2 ⟨rfl, hb2⟩
  go_wp2_with fail
  go_ret
  exact ⟨rfl, bt2 hb hb2⟩
end Go.Proofs.YtonecelkkeakiaaGreatDoor
namespace Go.Proofs.YtonecelkkeakiaaGreatDoor
open Go.RowKit
theorem ins_new (w : World) (r : Nat) (es : Array MapEntry) (clock : Nat) (k : ByteArray) (v : Value) (hw : w.heap[r]? = some (.map es clock)) (hn : Instr.findNow .string (.string k) es.toList 0 = some none) :
    (Instr.mapUpdate 45 (.map (some r)) (.string k) v).run Tryz.prog w = .ok () { w with heap := w.heap.setIfInBounds r (.map (es.push { key := .string k, val := v, born := clock }) (clock + 1)) } := by
  have hk : MapKept.IsKey .string (.string k) := trivial
  simp [Instr.mapUpdate, run_underlying Tryz.underlying45, MapKept.run_getObj_map hw, MapKept.run_checkKey Tryz.underlying9 hk, MapKept.run_findKey Tryz.underlying9 hn, MapKept.run_setObj_map _ hw, Result.andThen]
theorem ins_own (w : World) (es : Array MapEntry) (clock : Nat) (k : ByteArray) (v : Value) (hn : Instr.findNow .string (.string k) es.toList 0 = some none) :
    (Instr.mapUpdate 45 (.map (some w.heap.size)) (.string k) v).run Tryz.prog (w.alloc (.map es clock)) = .ok () (w.alloc (.map (es.push { key := .string k, val := v, born := clock }) (clock + 1))) := by
  rw [ins_new (w.alloc (.map es clock)) w.heap.size es clock k v (heap_alloc_new w _) hn]
  have : ∀ o o' : Obj, (w.heap.push o).setIfInBounds w.heap.size o' = w.heap.push o' := fun o o' => by
    apply Array.ext_getElem?
    intro i
    rcases Nat.lt_trichotomy i w.heap.size with h | h | h
    · rw [Array.getElem?_setIfInBounds_ne (by omega), Array.getElem?_push_lt h, Array.getElem?_push_lt h]
    · subst h; simp
    · rw [Array.getElem?_eq_none (by simp; omega), Array.getElem?_eq_none (by simp; omega)]
  show Result.ok () { w with heap := (w.heap.push _).setIfInBounds w.heap.size _ } = _
  rw [this]
  rfl
/-- the words, with what runs them, in the order of the text -/
def cmdL : List (ByteArray × Value) := [
(⟨#[99, 108, 97, 115, 115, 101, 115]⟩, (.agg #[.int .i64 (-1), .func (.func 46) #[] #[]])),
  (⟨#[112, 117, 116]⟩, (.agg #[.int .i64 2, .func (.func 47) #[] #[]])),
  (⟨#[100, 114, 111, 112]⟩, (.agg #[.int .i64 1, .func (.func 48) #[] #[]])),
  (⟨#[115, 112, 108, 105, 116]⟩, (.agg #[.int .i64 2, .func (.func 49) #[] #[]])),
  (⟨#[109, 111, 118, 101]⟩, (.agg #[.int .i64 1, .func (.func 50) #[] #[]])),
  (⟨#[108, 101, 97, 115, 116]⟩, (.agg #[.int .i64 0, .func (.func 51) #[] #[]])),
  (⟨#[115, 111, 114, 116]⟩, (.agg #[.int .i64 0, .func (.func 52) #[] #[]])),
  (⟨#[115, 104, 111, 119]⟩, (.agg #[.int .i64 0, .func (.func 53) #[] #[]])),
  (⟨#[112, 101, 114, 105, 111, 100]⟩, (.agg #[.int .i64 0, .func (.func 54) #[] #[]])),
  (⟨#[115, 104, 97, 114, 101]⟩, (.agg #[.int .i64 0, .func (.func 55) #[] #[]])),
  (⟨#[116, 105, 109, 101, 115]⟩, (.agg #[.int .i64 0, .func (.func 56) #[] #[]])),
  (⟨#[104, 111, 108, 101, 115]⟩, (.agg #[.int .i64 0, .func (.func 57) #[] #[]])),
  (⟨#[102, 105, 114, 115, 116]⟩, (.agg #[.int .i64 0, .func (.func 58) #[] #[]])),
  (⟨#[114, 117, 110]⟩, (.agg #[.int .i64 0, .func (.func 59) #[] #[]])),
  (⟨#[115, 112, 97, 114, 101]⟩, (.agg #[.int .i64 0, .func (.func 60) #[] #[]])),
  (⟨#[97, 108, 108]⟩, (.agg #[.int .i64 0, .func (.func 61) #[] #[]])),
  (⟨#[97, 112, 97, 114, 116]⟩, (.agg #[.int .i64 0, .func (.func 62) #[] #[]])),
  (⟨#[101, 120, 97, 99, 116]⟩, (.agg #[.int .i64 0, .func (.func 63) #[] #[]])),
  (⟨#[110, 97, 116, 117, 114, 97, 108]⟩, (.agg #[.int .i64 0, .func (.func 64) #[] #[]])),
  (⟨#[116, 119, 105, 110, 115]⟩, (.agg #[.int .i64 0, .func (.func 65) #[] #[]])),
  (⟨#[108, 105, 110, 101]⟩, (.agg #[.int .i64 3, .func (.func 66) #[] #[]])),
  (⟨#[115, 113, 117, 97, 114, 101, 115]⟩, (.agg #[.int .i64 2, .func (.func 67) #[] #[]])),
  (⟨#[112, 111, 119, 101, 114]⟩, (.agg #[.int .i64 3, .func (.func 68) #[] #[]])),
  (⟨#[111, 114, 100, 101, 114]⟩, (.agg #[.int .i64 2, .func (.func 69) #[] #[]])),
  (⟨#[114, 111, 111, 116]⟩, (.agg #[.int .i64 1, .func (.func 70) #[] #[]])),
  (⟨#[117, 110, 105, 116, 115]⟩, (.agg #[.int .i64 1, .func (.func 71) #[] #[]])),
  (⟨#[116, 105, 108, 101]⟩, (.agg #[.int .i64 (-1), .func (.func 72) #[] #[]])),
  (⟨#[115, 116, 101, 112]⟩, (.agg #[.int .i64 (-1), .func (.func 73) #[] #[]]))]
/-- the table when its first k words are laid -/
def cmdE : List (ByteArray × Value) → Nat → List MapEntry
  | [], _ => []
  | (k, v) :: l, i => { key := .string k, val := v, born := i } :: cmdE l (i + 1)
def cmdM (k : Nat) : Obj := .map (cmdE (cmdL.take k) 0).toArray k
theorem ins_k (w : World) (k : Nat) (x : ByteArray) (v : Value) (hn : Instr.findNow .string (.string x) (cmdE (cmdL.take k) 0) 0 = some none) (he : (cmdE (cmdL.take k) 0).toArray.push { key := .string x, val := v, born := k } = (cmdE (cmdL.take (k + 1)) 0).toArray) :
    (Instr.mapUpdate 45 (.map (some w.heap.size)) (.string x) v).run Tryz.prog (w.alloc (cmdM k)) = .ok () (w.alloc (cmdM (k + 1))) := by
  unfold cmdM
  rw [ins_own w _ k x v (by simpa using hn), he]
theorem mk_run (w : World) : (Instr.makeMap 45 none).run Tryz.prog w = .ok (.map (some w.heap.size)) (w.alloc (.map #[] 0)) := by
  simp [Instr.makeMap, newObj, Sem.run]
theorem cmdM_0 : cmdM 0 = .map #[] 0 := rfl
set_option maxRecDepth 100000 in
set_option maxHeartbeats 4000000 in
theorem c_commands (w : World) : Calls Tryz.prog 26 #[] w fun e w' => e = .returned (.map (some w.heap.size)) ∧ w.alloc (cmdM 28) = w' := by
  have hmk := mk_run w
  have h0 : (Instr.mapUpdate 45 (.map (some w.heap.size)) (.string ⟨#[99, 108, 97, 115, 115, 101, 115]⟩) (.agg #[.int .i64 (-1), .func (.func 46) #[] #[]])).run Tryz.prog (w.alloc (.map #[] 0)) = .ok () (w.alloc (cmdM 1)) := ins_k w 0 _ _ (by rfl) (by rfl)
  have h1 : (Instr.mapUpdate 45 (.map (some w.heap.size)) (.string ⟨#[112, 117, 116]⟩) (.agg #[.int .i64 2, .func (.func 47) #[] #[]])).run Tryz.prog (w.alloc (cmdM 1)) = .ok () (w.alloc (cmdM 2)) := ins_k w 1 _ _ (by rfl) (by rfl)
  have h2 : (Instr.mapUpdate 45 (.map (some w.heap.size)) (.string ⟨#[100, 114, 111, 112]⟩) (.agg #[.int .i64 1, .func (.func 48) #[] #[]])).run Tryz.prog (w.alloc (cmdM 2)) = .ok () (w.alloc (cmdM 3)) := ins_k w 2 _ _ (by rfl) (by rfl)
  have h3 : (Instr.mapUpdate 45 (.map (some w.heap.size)) (.string ⟨#[115, 112, 108, 105, 116]⟩) (.agg #[.int .i64 2, .func (.func 49) #[] #[]])).run Tryz.prog (w.alloc (cmdM 3)) = .ok () (w.alloc (cmdM 4)) := ins_k w 3 _ _ (by rfl) (by rfl)
  have h4 : (Instr.mapUpdate 45 (.map (some w.heap.size)) (.string ⟨#[109, 111, 118, 101]⟩) (.agg #[.int .i64 1, .func (.func 50) #[] #[]])).run Tryz.prog (w.alloc (cmdM 4)) = .ok () (w.alloc (cmdM 5)) := ins_k w 4 _ _ (by rfl) (by rfl)
  have h5 : (Instr.mapUpdate 45 (.map (some w.heap.size)) (.string ⟨#[108, 101, 97, 115, 116]⟩) (.agg #[.int .i64 0, .func (.func 51) #[] #[]])).run Tryz.prog (w.alloc (cmdM 5)) = .ok () (w.alloc (cmdM 6)) := ins_k w 5 _ _ (by rfl) (by rfl)
  have h6 : (Instr.mapUpdate 45 (.map (some w.heap.size)) (.string ⟨#[115, 111, 114, 116]⟩) (.agg #[.int .i64 0, .func (.func 52) #[] #[]])).run Tryz.prog (w.alloc (cmdM 6)) = .ok () (w.alloc (cmdM 7)) := ins_k w 6 _ _ (by rfl) (by rfl)
  have h7 : (Instr.mapUpdate 45 (.map (some w.heap.size)) (.string ⟨#[115, 104, 111, 119]⟩) (.agg #[.int .i64 0, .func (.func 53) #[] #[]])).run Tryz.prog (w.alloc (cmdM 7)) = .ok () (w.alloc (cmdM 8)) := ins_k w 7 _ _ (by rfl) (by rfl)
  have h8 : (Instr.mapUpdate 45 (.map (some w.heap.size)) (.string ⟨#[112, 101, 114, 105, 111, 100]⟩) (.agg #[.int .i64 0, .func (.func 54) #[] #[]])).run Tryz.prog (w.alloc (cmdM 8)) = .ok () (w.alloc (cmdM 9)) := ins_k w 8 _ _ (by rfl) (by rfl)
  have h9 : (Instr.mapUpdate 45 (.map (some w.heap.size)) (.string ⟨#[115, 104, 97, 114, 101]⟩) (.agg #[.int .i64 0, .func (.func 55) #[] #[]])).run Tryz.prog (w.alloc (cmdM 9)) = .ok () (w.alloc (cmdM 10)) := ins_k w 9 _ _ (by rfl) (by rfl)
  have h10 : (Instr.mapUpdate 45 (.map (some w.heap.size)) (.string ⟨#[116, 105, 109, 101, 115]⟩) (.agg #[.int .i64 0, .func (.func 56) #[] #[]])).run Tryz.prog (w.alloc (cmdM 10)) = .ok () (w.alloc (cmdM 11)) := ins_k w 10 _ _ (by rfl) (by rfl)
  have h11 : (Instr.mapUpdate 45 (.map (some w.heap.size)) (.string ⟨#[104, 111, 108, 101, 115]⟩) (.agg #[.int .i64 0, .func (.func 57) #[] #[]])).run Tryz.prog (w.alloc (cmdM 11)) = .ok () (w.alloc (cmdM 12)) := ins_k w 11 _ _ (by rfl) (by rfl)
  have h12 : (Instr.mapUpdate 45 (.map (some w.heap.size)) (.string ⟨#[102, 105, 114, 115, 116]⟩) (.agg #[.int .i64 0, .func (.func 58) #[] #[]])).run Tryz.prog (w.alloc (cmdM 12)) = .ok () (w.alloc (cmdM 13)) := ins_k w 12 _ _ (by rfl) (by rfl)
  have h13 : (Instr.mapUpdate 45 (.map (some w.heap.size)) (.string ⟨#[114, 117, 110]⟩) (.agg #[.int .i64 0, .func (.func 59) #[] #[]])).run Tryz.prog (w.alloc (cmdM 13)) = .ok () (w.alloc (cmdM 14)) := ins_k w 13 _ _ (by rfl) (by rfl)
  have h14 : (Instr.mapUpdate 45 (.map (some w.heap.size)) (.string ⟨#[115, 112, 97, 114, 101]⟩) (.agg #[.int .i64 0, .func (.func 60) #[] #[]])).run Tryz.prog (w.alloc (cmdM 14)) = .ok () (w.alloc (cmdM 15)) := ins_k w 14 _ _ (by rfl) (by rfl)
  have h15 : (Instr.mapUpdate 45 (.map (some w.heap.size)) (.string ⟨#[97, 108, 108]⟩) (.agg #[.int .i64 0, .func (.func 61) #[] #[]])).run Tryz.prog (w.alloc (cmdM 15)) = .ok () (w.alloc (cmdM 16)) := ins_k w 15 _ _ (by rfl) (by rfl)
  have h16 : (Instr.mapUpdate 45 (.map (some w.heap.size)) (.string ⟨#[97, 112, 97, 114, 116]⟩) (.agg #[.int .i64 0, .func (.func 62) #[] #[]])).run Tryz.prog (w.alloc (cmdM 16)) = .ok () (w.alloc (cmdM 17)) := ins_k w 16 _ _ (by rfl) (by rfl)
  have h17 : (Instr.mapUpdate 45 (.map (some w.heap.size)) (.string ⟨#[101, 120, 97, 99, 116]⟩) (.agg #[.int .i64 0, .func (.func 63) #[] #[]])).run Tryz.prog (w.alloc (cmdM 17)) = .ok () (w.alloc (cmdM 18)) := ins_k w 17 _ _ (by rfl) (by rfl)
  have h18 : (Instr.mapUpdate 45 (.map (some w.heap.size)) (.string ⟨#[110, 97, 116, 117, 114, 97, 108]⟩) (.agg #[.int .i64 0, .func (.func 64) #[] #[]])).run Tryz.prog (w.alloc (cmdM 18)) = .ok () (w.alloc (cmdM 19)) := ins_k w 18 _ _ (by rfl) (by rfl)
  have h19 : (Instr.mapUpdate 45 (.map (some w.heap.size)) (.string ⟨#[116, 119, 105, 110, 115]⟩) (.agg #[.int .i64 0, .func (.func 65) #[] #[]])).run Tryz.prog (w.alloc (cmdM 19)) = .ok () (w.alloc (cmdM 20)) := ins_k w 19 _ _ (by rfl) (by rfl)
  have h20 : (Instr.mapUpdate 45 (.map (some w.heap.size)) (.string ⟨#[108, 105, 110, 101]⟩) (.agg #[.int .i64 3, .func (.func 66) #[] #[]])).run Tryz.prog (w.alloc (cmdM 20)) = .ok () (w.alloc (cmdM 21)) := ins_k w 20 _ _ (by rfl) (by rfl)
  have h21 : (Instr.mapUpdate 45 (.map (some w.heap.size)) (.string ⟨#[115, 113, 117, 97, 114, 101, 115]⟩) (.agg #[.int .i64 2, .func (.func 67) #[] #[]])).run Tryz.prog (w.alloc (cmdM 21)) = .ok () (w.alloc (cmdM 22)) := ins_k w 21 _ _ (by rfl) (by rfl)
  have h22 : (Instr.mapUpdate 45 (.map (some w.heap.size)) (.string ⟨#[112, 111, 119, 101, 114]⟩) (.agg #[.int .i64 3, .func (.func 68) #[] #[]])).run Tryz.prog (w.alloc (cmdM 22)) = .ok () (w.alloc (cmdM 23)) := ins_k w 22 _ _ (by rfl) (by rfl)
  have h23 : (Instr.mapUpdate 45 (.map (some w.heap.size)) (.string ⟨#[111, 114, 100, 101, 114]⟩) (.agg #[.int .i64 2, .func (.func 69) #[] #[]])).run Tryz.prog (w.alloc (cmdM 23)) = .ok () (w.alloc (cmdM 24)) := ins_k w 23 _ _ (by rfl) (by rfl)
  have h24 : (Instr.mapUpdate 45 (.map (some w.heap.size)) (.string ⟨#[114, 111, 111, 116]⟩) (.agg #[.int .i64 1, .func (.func 70) #[] #[]])).run Tryz.prog (w.alloc (cmdM 24)) = .ok () (w.alloc (cmdM 25)) := ins_k w 24 _ _ (by rfl) (by rfl)
  have h25 : (Instr.mapUpdate 45 (.map (some w.heap.size)) (.string ⟨#[117, 110, 105, 116, 115]⟩) (.agg #[.int .i64 1, .func (.func 71) #[] #[]])).run Tryz.prog (w.alloc (cmdM 25)) = .ok () (w.alloc (cmdM 26)) := ins_k w 25 _ _ (by rfl) (by rfl)
  have h26 : (Instr.mapUpdate 45 (.map (some w.heap.size)) (.string ⟨#[116, 105, 108, 101]⟩) (.agg #[.int .i64 (-1), .func (.func 72) #[] #[]])).run Tryz.prog (w.alloc (cmdM 26)) = .ok () (w.alloc (cmdM 27)) := ins_k w 26 _ _ (by rfl) (by rfl)
  have h27 : (Instr.mapUpdate 45 (.map (some w.heap.size)) (.string ⟨#[115, 116, 101, 112]⟩) (.agg #[.int .i64 (-1), .func (.func 73) #[] #[]])).run Tryz.prog (w.alloc (cmdM 27)) = .ok () (w.alloc (cmdM 28)) := ins_k w 27 _ _ (by rfl) (by rfl)
  go_enter Tryz.func26, Tryz.ntmps26
  go_wp2_with fail
  go_ret
  exact ⟨rfl, rfl⟩
end Go.Proofs.YtonecelkkeakiaaGreatDoor
namespace Go.Proofs.YtonecelkkeakiaaGreatDoor
open Go.RowKit
theorem bld_size : (Tryz.prog.info? 51).map (·.size) = some 2 := by kernel_rfl
theorem bld_byte : (Tryz.prog.info? 5).map (fun i => (i.zero, i.size, i.bytes)) = some (some (.int .u8 0), 1, 1) := by kernel_rfl
set_option maxRecDepth 100000 in
theorem c_copyUsed (b : Nat) (w : World) (h0 : w.cell? ⟨b, 0, none⟩ = some (.pointer (some ⟨b, 0, none⟩))) : Calls Tryz.prog 75 #[.pointer (some ⟨b, 0, none⟩)] w fun e w' => e = .returned (.tuple #[]) ∧ w = w' := by
  obtain ⟨j, hj, _⟩ := Option.map_eq_some_iff.1 bld_size
  have hn := Lib.run_neq_ptr_same (P := Tryz.prog) w ⟨b, 0, none⟩ Tryz.underlying49 hj
  go_enter Tryz.func75, Tryz.ntmps75
  go_wp2_with fail
  try rw [hn]
  go_wp2_with fail
  go_end0
  exact ⟨rfl, rfl⟩
set_option maxRecDepth 100000 in
theorem c_copyFresh (b : Nat) (w : World) (h0 : w.cell? ⟨b, 0, none⟩ = some (.pointer none)) (hsh : w.shape? b = some (51, 2)) (hfz : w.frozen? ⟨b, 0, none⟩ = false) : Calls Tryz.prog 75 #[.pointer (some ⟨b, 0, none⟩)] w fun e w' => e = .returned (.tuple #[]) ∧ w.setCell ⟨b, 0, none⟩ (.pointer (some ⟨b, 0, none⟩)) = w' := by
  obtain ⟨j, hj, hjs⟩ := Option.map_eq_some_iff.1 bld_size
  go_enter Tryz.func75, Tryz.ntmps75
  go_wp2_with fail
  rw [Lib.run_to_unsafe w ⟨b, 0, none⟩ Tryz.underlying49 Tryz.underlying120 hj (by rw [hjs]; decide) hsh (Nat.zero_lt_succ 1)]
  simp only [Result.andThen]
  rw [Oper.upon_value]
  go_wp2_with fail
  rw [run_callFunc_extern Tryz.func127 (by kernel_rfl) (by kernel_rfl) (by kernel_rfl) (e := Extern.AbiNoEscape.same) (by kernel_rfl)]
  rw [Lib.run_noEscape]
  simp only [Result.andThen]
  rw [Oper.upon_value]
  go_wp2_with fail
  rw [Lib.run_from_unsafe w ⟨b, 0, none⟩ Tryz.underlying120 Tryz.underlying49 hj hsh (by kernel_rfl)]
  simp only [Result.andThen]
  rw [Oper.upon_value]
  go_wp2_with fail
  go_end0
  exact ⟨rfl, rfl⟩
theorem c_copyCheck (B b : Nat) (bs : List Value) (w : World) (h : Lib.IsBuilder 51 5 B b bs w) :
    Calls Tryz.prog 75 #[.pointer (some ⟨b, 0, none⟩)] w fun e w' => e = .returned (.tuple #[]) ∧ Lib.BuilderAt 51 5 B b (.pointer (some ⟨b, 0, none⟩)) bs w' ∧ Below B w w' := by
  rcases h with h | h
  · refine (c_copyFresh b w h.cell0 h.shape h.frozen0).mono ?_
    rintro e w' ⟨rfl, rfl⟩
    exact ⟨rfl, h.used _, (Below.refl B w).setCell (p := ⟨b, 0, none⟩) h.1 _⟩
  · refine (c_copyUsed b w h.cell0).mono ?_
    rintro e w' ⟨rfl, rfl⟩
    exact ⟨rfl, h, Below.refl B _⟩
set_option maxHeartbeats 2000000 in
set_option maxRecDepth 100000 in
theorem c_writeString (B b : Nat) (bs : List Value) (s : ByteArray) (w : World) (h : Lib.IsBuilder 51 5 B b bs w) (hlen : bs.length + s.size ≤ 140737488355328) (hBw : B ≤ w.heap.size) :
    Calls Tryz.prog 28 #[.pointer (some ⟨b, 0, none⟩), .string s] w fun e w' => e = .returned (.tuple #[.int .i64 s.size, .nilIface]) ∧ Lib.BuilderAt 51 5 B b (.pointer (some ⟨b, 0, none⟩)) (bs ++ Lib.strCells s) w' ∧ Below B w w' := by
  obtain ⟨i0, hi, hz⟩ := Option.map_eq_some_iff.1 bld_byte
  have hz0 : i0.zero = some (.int .u8 0) := congrArg (·.1) hz
  have hz1 : i0.size = 1 := congrArg (·.2.1) hz
  have hz2 : i0.bytes = 1 := congrArg (·.2.2) hz
  clear hz
  go_enter Tryz.func28, Tryz.ntmps28
  go_wp2_with (go_at_call 75; refine (c_copyCheck B b bs _ h).mono ?_)
  rintro e w1 ⟨rfl, h1, hb1⟩
  obtain ⟨hB, v, hbk, hown, hne⟩ := h1
  have c0 : w1.cell? ⟨b, 0, none⟩ = some (.pointer (some ⟨b, 0, none⟩)) := by rw [Lib.cell_of_heap hbk]; rfl
  have c1 : w1.cell? ⟨b, 1, none⟩ = some v := by rw [Lib.cell_of_heap hbk]; rfl
  go_wp2_with (at_builtin; refine Lib.wpList_append_own_string _ rfl _ _ 22 9 rfl B 5 i0 Tryz.underlying22 Tryz.underlying9 hi hz0 hz1 hz2 _ _ _ rfl hown s rfl ?c3 ?c4 ?c5 ?_)
  case c3 => unfold maxLen; omega
  case c4 => omega
  case c5 => have := hb1.size; omega
  intro v' w2 hown' hgrow _
  have hlt : b < w1.heap.size := by
    rcases Nat.lt_or_ge b w1.heap.size with h' | h'
    · exact h'
    · simp [Array.getElem?_eq_none h'] at hbk
  have hb2 : w2.heap[b]? = some (.cells #[.pointer (some ⟨b, 0, none⟩), v] 51 (0, 0)) := by
    rw [hgrow.block b hlt (fun e => hne e.symm)]
    exact hbk
  have d0 : w2.cell? ⟨b, 0, none⟩ = some (.pointer (some ⟨b, 0, none⟩)) := by rw [Lib.cell_of_heap hb2]; rfl
  have d1 : w2.cell? ⟨b, 1, none⟩ = some v := by rw [Lib.cell_of_heap hb2]; rfl
  have f1 : w2.frozen? ⟨b, 1, none⟩ = false := Lib.frozen_of_heap hb2 1
  obtain ⟨ao, n', cap, rfl⟩ : ∃ ao n' cap, v' = .slice ao n' cap := by
    rcases hown'.2 with ⟨hv, _⟩ | ⟨g, cap, cur, hv, _⟩
    · exact ⟨_, _, _, hv⟩
    · exact ⟨_, _, _, hv⟩
  go_wp2_with fail
  go_ret2
  refine ⟨rfl, ?_, ?_⟩
  · exact Lib.BuilderAt.put (T := 51) (e := 5) hB hb2 (bs' := bs ++ Lib.strCells s) (by simpa [Lib.strCells_length] using hown') (by decide)
  · exact (hb1.grown hgrow (by have := hb1.size; omega) (fun k hk => (hown.lt k hk).1)).setCell (p := ⟨b, 1, none⟩) hB _
end Go.Proofs.YtonecelkkeakiaaGreatDoor
