/- Chapter 8: what the library's variables hold; a number's answer; the word units. -/
import Derived.Test.YtonecelkkeakiaaGreatDoorZa
import Derived.Test.YtonecelkkeakiaaGreatDoorShelf
import Derived.Test.YtonecelkkeakiaaGreatDoorY3
import Derived.Lib.AppendIntMem
import Derived.WalkMore
namespace Go.Proofs.YtonecelkkeakiaaGreatDoor
open Go.RowKit
theorem itoa_txt (n : Nat) : (⟨(Lib.itoa (n : Int)).toArray⟩ : ByteArray) = txt n := by
  unfold Lib.itoa txt
  rw [if_neg (by omega)]
  simp
theorem g_pow : Tryz.prog.globalNamed "internal/strconv.uint64pow10" = some 1 := by kernel_rfl
/-- what is leant on of the library's variables -/
structure Env (w : World) : Prop where
  ml : ∃ m, w.cell? ⟨0, 0, none⟩ = some (.int .i64 m)
  pw : Lib.TabIs Tryz.prog w "internal/strconv.uint64pow10" IntKind.u64 Lib.pow10Tab
theorem Env.keep {w w' : World} (h : Env w) (hb : Below w.heap.size w w') : Env w' := by
  obtain ⟨⟨m, hm⟩, hp⟩ := h
  refine ⟨⟨m, keepc hb hm⟩, ?_⟩
  unfold Lib.TabIs World.var? at hp ⊢
  rw [g_pow] at hp ⊢
  simp only [Option.bind_some] at hp ⊢
  have hl : 1 < w.heap.size := by
    rcases Nat.lt_or_ge 1 w.heap.size with h | h
    · exact h
    · rw [Array.getElem?_eq_none h] at hp; cases hp
  rw [hb.block 1 hl]
  exact hp
theorem Env.low {w w' : World} {B : Nat} (h : Env w) (hb : Below B w w') (hB : 2 ≤ B) : Env w' := by
  obtain ⟨⟨m, hm⟩, hp⟩ := h
  refine ⟨⟨m, (hb.cell (p := ⟨0, 0, none⟩) (by show 0 < B; omega)).trans hm⟩, ?_⟩
  unfold Lib.TabIs World.var? at hp ⊢
  rw [g_pow] at hp ⊢
  simp only [Option.bind_some] at hp ⊢
  rw [hb.block 1 (by omega)]
  exact hp
theorem c_itoa (n : Nat) (hn : n < 1000000000) (w : World) (hE : Env w) : Calls Tryz.prog 30 #[.int .i64 (n : Int)] w fun e w' => e = .returned (.string (txt n)) ∧ Below w.heap.size w w' := by
  refine (Tryz.strconv_Itoa (n : Int) (by omega) (by omega) w hE.pw).mono ?_
  rintro e w' ⟨rfl, k, os, rfl⟩
  exact ⟨by rw [itoa_txt], Lib.below_grow _ w (Nat.le_refl _) k os⟩
theorem c_numberAnswer (n : Nat) (hn : n < 1000000000) (ok : Bool) (w : World) (hE : Env w) : Calls Tryz.prog 103 #[.int .i64 (n : Int), .bool ok] w fun e w' => e = .returned (.tuple #[.string (txt n), .bool ok]) ∧ Below w.heap.size w w' := by
  go_enter Tryz.func103, Tryz.ntmps103
  go_wp2_with (go_at_call 30; refine (c_itoa n hn _ hE).mono ?_; rintro e w1 ⟨rfl, hb⟩)
  go_ret2
  exact ⟨rfl, hb⟩
theorem uniI_nat (m : Int) : uniI m = ((uniI m).toNat : Int) := by unfold uniI; omega
theorem uniI_le {m : Int} (m1 : 1 ≤ m) (m2 : m ≤ 1000) : (uniI m).toNat ≤ 1000 := by
  have h := uniC_le m (oneTo m.toNat)
  rw [oneTo_length] at h
  unfold uniI
  omega
theorem c_units (g cap k : Nat) (m : Int) (B : Value) (m1 : 1 ≤ m) (m2 : m ≤ 1000) (w : World) (hE : Env w) (hc : w.cell? ⟨g, 0, none⟩ = some (.int .i64 m)) : Calls Tryz.prog 71 #[B, .slice (some ⟨g, 0, none⟩) (k + 1) cap] w fun e w' => e = .returned (.tuple #[.string (txt (uniI m).toNat), .bool true]) ∧ Below w.heap.size w w' := by
  have hU := c_implUnits1 m m1 m2 w
  have hle := uniI_le m1 m2
  rw [uniI_nat m] at hU
  generalize (uniI m).toNat = u at *
  go_enter Tryz.func71, Tryz.ntmps71
  go_wp2_with (go_at_call 19; refine (hU).mono ?_; rintro e w1 ⟨rfl, hb⟩)
  refine (c_numberAnswer u (by omega) true w1 (hE.keep hb)).mono ?_
  rintro e w2 ⟨rfl, hb2⟩
  go_wp2_with fail
  go_ret2
  exact ⟨rfl, bt2 hb hb2⟩
end Go.Proofs.YtonecelkkeakiaaGreatDoor
