/- Chapter 8: the law's told2: classes as numbers with blanks before. -/
import Derived.Test.YtonecelkkeakiaaGreatDoorMz15
import Derived.Test.YtonecelkkeakiaaGreatDoorMz6
import Derived.Defers
import Derived.Recover
import Derived.Test.YtonecelkkeakiaaGreatDoorMz14
import Derived.Test.YtonecelkkeakiaaGreatDoorMz2
import Derived.Lib.SplitLaws
import Derived.Test.YtonecelkkeakiaaGreatDoorMathS
namespace Go.Proofs.YtonecelkkeakiaaGreatDoor
open Go.RowKit
/-- the numbers of classes -/
def nsOf : List Cl → List Nat
  | [] => []
  | c :: t => c.1.toNat :: c.2.toNat :: nsOf t
/-- each number with a blank before -/
def bl : List Nat → ByteArray
  | [] => ⟨#[]⟩
  | n :: r => ⟨#[32]⟩ ++ (txt n ++ bl r)
theorem e_l (b : ByteArray) : (⟨#[]⟩ : ByteArray) ++ b = b := by
  apply ByteArray.ext
  simp [ByteArray.data_append]
theorem e_r (b : ByteArray) : b ++ (⟨#[]⟩ : ByteArray) = b := by
  apply ByteArray.ext
  simp [ByteArray.data_append]
theorem nsOf_length : ∀ zs : List Cl, (nsOf zs).length = 2 * zs.length
  | [] => rfl
  | c :: t => by have := nsOf_length t; simp only [nsOf, List.length_cons]; omega
theorem nsOf_append : ∀ a b : List Cl, nsOf (a ++ b) = nsOf a ++ nsOf b
  | [], _ => rfl
  | c :: t, b => by simp only [List.cons_append, nsOf, nsOf_append t b]
theorem bl_append : ∀ a b : List Nat, bl (a ++ b) = bl a ++ bl b
  | [], b => by simp [bl, e_l]
  | n :: r, b => by simp only [List.cons_append, bl, bl_append r b, ByteArray.append_assoc]
theorem bl_line : ∀ (n : Nat) (r : List Nat), bl (n :: r) = ⟨#[32]⟩ ++ line (n :: r)
  | n, [] => by simp [bl, line, e_r]
  | n, m :: r => by
    have h := bl_line m r
    show ⟨#[32]⟩ ++ (txt n ++ bl (m :: r)) = ⟨#[32]⟩ ++ (txt n ++ (⟨#[32]⟩ ++ line (m :: r)))
    rw [h]
theorem bl_size : ∀ ns : List Nat, (∀ n ∈ ns, n < 10000) → (bl ns).size ≤ 5 * ns.length
  | [], _ => Nat.le_refl _
  | n :: r, h => by
    have h1 := txt_len (h n (List.mem_cons_self ..))
    have h2 := bl_size r fun x hx => h x (List.mem_cons_of_mem _ hx)
    show (⟨#[32]⟩ ++ (txt n ++ bl r) : ByteArray).size ≤ _
    rw [ByteArray.size_append, ByteArray.size_append]
    show 1 + ((txt n).size + (bl r).size) ≤ _
    simp only [List.length_cons]
    omega
/-- what is told behind k rounds -/
def tld (zs : List Cl) (k : Nat) : ByteArray := bl (nsOf (zs.take k))
theorem tld_succ (zs : List Cl) (k : Nat) (h : k < zs.length) : tld zs (k + 1) = tld zs k ++ ⟨#[32]⟩ ++ txt (rAt zs k).toNat ++ ⟨#[32]⟩ ++ txt (mAt zs k).toNat := by
  unfold tld
  rw [List.take_succ_eq_append_getElem h, nsOf_append, bl_append]
  have e : zs[k] = (rAt zs k, mAt zs k) := by simp [rAt, mAt, h]
  rw [e]
  simp [nsOf, bl, ByteArray.append_assoc, e_r]
/-- classes of numbers that are told -/
def fitB (zs : List Cl) : Prop := ∀ k, k < zs.length → 0 ≤ rAt zs k ∧ rAt zs k < 10000 ∧ 0 ≤ mAt zs k ∧ mAt zs k < 10000
theorem nsOf_lt : ∀ zs : List Cl, fitB zs → ∀ n ∈ nsOf zs, n < 10000
  | [], _, n, hn => by simp [nsOf] at hn
  | c :: t, h, n, hn => by
    have h0 := h 0 (by simp)
    simp [rAt, mAt] at h0
    simp only [nsOf, List.mem_cons] at hn
    rcases hn with rfl | rfl | hn
    · omega
    · omega
    · exact nsOf_lt t (fun k hk => by
        have := h (k + 1) (by simpa using hk)
        simpa [rAt, mAt] using this) n hn
theorem tld_size (zs : List Cl) (h : fitB zs) (k : Nat) (hk : k ≤ zs.length) : (tld zs k).size ≤ 10 * k := by
  have h1 := bl_size (nsOf (zs.take k)) (nsOf_lt _ fun j hj => by
    have hj2 : j < k ∧ j < zs.length := by rw [List.length_take] at hj; omega
    have := h j hj2.2
    simpa [rAt, mAt, hj2.1, hj2.2] using this)
  rw [nsOf_length, List.length_take, Nat.min_eq_left hk] at h1
  unfold tld
  omega
set_option maxRecDepth 20000 in
set_option maxHeartbeats 1000000 in
theorem c_told2 (s : Option Addr) (n cap : Nat) (zs : List Cl) (hn : n ≤ 1000) (hf : fitB zs) (w : World) (hc : Cls w s n zs) : Calls Tryz.prog 16 #[.slice s n cap] w fun e w' => e = .returned (.string (bl (nsOf zs))) ∧ Below w.heap.size w w' := by
  have hlen := hc.len
  have hT0 : tld zs 0 = ⟨#[]⟩ := by simp [tld, nsOf, bl]
  have hTn : tld zs n = bl (nsOf zs) := by unfold tld; rw [← hlen, List.take_length]
  have hS := Lib.hid (fun k (h : k < n) => tld_succ zs k (by omega))
  have hZ := Lib.hid (fun k (h : k ≤ n) => tld_size zs hf k (by omega))
  have hD : Hid (∀ k, k < n → ∃ a b : Nat, rAt zs k = (a : Int) ∧ mAt zs k = (b : Int) ∧ a < 10000 ∧ b < 10000) := Lib.hid fun k h => by
    obtain ⟨h1, h2, h3, h4⟩ := hf k (by omega)
    exact ⟨(rAt zs k).toNat, (mAt zs k).toNat, by omega, by omega, by omega, by omega⟩
  have hDig := Lib.hid (fun (a : Nat) (h : a < 10000) w => c_digits a h w)
  rw [← hTn]
  have HT0 := Lib.hid hT0
  clear hTn hf hT0
  generalize htd : tld zs = td at *
  clear htd
  go_enter Tryz.func16, Tryz.ntmps16
  go_wp2_with fail
  go_loopw [3, 4] (fun t i wr => ∃ k : Nat, k ≤ n ∧ i = .int .i64 k ∧ t = .string (td k) ∧ Below w.heap.size w wr) (fun _ i _ => n - (intOf i).toNat)
  case atStart => exact ⟨0, Nat.zero_le _, rfl, by rw [HT0.out], Below.refl _ _⟩
  case round =>
    obtain ⟨k, hk, rfl, rfl, hB⟩ := hrel
    have hcr := hc.keep hB
    by_cases hlt : k < n
    · rcases hcr.lies with h0 | ⟨b, off, rfl, hb', hcells⟩
      · omega
      obtain ⟨x0, x1⟩ := hcells k hlt
      obtain ⟨p, q, ep, eq, hp, hq⟩ := hD.out k hlt
      have HS := hS.out k hlt
      rw [ep, eq] at HS
      rw [ep] at x0
      rw [eq] at x1
      have e1 : ((p : Int)).toNat = p := Int.toNat_natCast p
      have e2 : ((q : Int)).toNat = q := Int.toNat_natCast q
      rw [e1, e2] at HS
      have q0 : ∀ P : Abv wr, P.x.cell? ⟨b, off + k * 2, none⟩ = some (.int .i64 (p : Int)) := fun P => P.cell x0
      have q1 : ∀ P : Abv wr, P.x.cell? ⟨b, off + k * 2 + 1, none⟩ = some (.int .i64 (q : Int)) := fun P => P.cell x1
      have d0 := fun X => hDig.out p hp X
      have d1 := fun X => hDig.out q hq X
      have z0 := hZ.out k hk
      have z1 := txt_len hp
      have z2 := txt_len hq
      have HSS := Lib.hid HS
      clear HS hcells x0 x1 ep eq e1 e2 hp hq hcr
      generalize td k = T at *
      generalize txt p = Tp at *
      generalize txt q = Tq at *
      have s1 : ¬ 9223372036854775807 < T.size + 1 := by omega
      have s2 : ¬ 9223372036854775807 < T.size + 1 + Tp.size := by omega
      have s3 : ¬ 9223372036854775807 < T.size + 1 + Tp.size + 1 := by omega
      have s4 : ¬ 9223372036854775807 < T.size + 1 + Tp.size + 1 + Tq.size := by omega
      go_wp2_with fail
      refine wp_region_above (by kernel_rfl) (by kernel_rfl) ?_
      iterate 7 (refine q_step (fun K hK => ?_); go_simp; refine hK _ ?_; clear hK K)
      refine q_step (fun K hK => ?_)
      go_simp
      refine ⟨_, fun _ => calls_above (d0 _), hK _ ?_⟩
      clear hK K d0
      iterate 7 (refine q_step (fun K hK => ?_); go_simp; refine hK _ ?_; clear hK K)
      refine q_step (fun K hK => ?_)
      go_simp
      refine ⟨_, fun _ => calls_above (d1 _), hK _ ?_⟩
      clear hK K d1
      iterate 2 (refine q_step (fun K hK => ?_); go_simp; refine hK _ ?_; clear hK K)
      refine q_nil ?_
      intro _ hw'
      obtain ⟨P, hp'⟩ := hw'
      subst hp'
      have hBP := Lib.hid (hB.trans (P.h.mono hB.size))
      clear q0 q1 s1 s2 s3 s4
      go_wp2_with fail
      go_roundw
      case rel => exact ⟨k + 1, by omega, by go_num, by rw [HSS.out], hBP.out⟩
      case measure => simp [intOf]; omega
    · have hk' : k = n := by omega
      subst hk'
      go_wp2_with fail
      go_ret
      exact ⟨rfl, hB⟩
end Go.Proofs.YtonecelkkeakiaaGreatDoor
namespace Go.Proofs.YtonecelkkeakiaaGreatDoor
open Go.RowKit Go.Shelf
theorem c_caught (p : Value) (w : World) : CallsD Tryz.prog 76 #[p] .returning w fun e u' w' => e = .returned (.tuple #[]) ∧ u' = .returning ∧ w' = w := by
  refine callsD_of_wpS Tryz.func76 rfl fun c₀ cs hu => ?_
  apply wpS_seq
  apply wpS_region
  simp [wpOpsS, go_sem, recoverD, hu, Tryz.ntmps76, Exit.thenS]
  refine wpS_of_wp ?_
  simp only [Array.replicate_succ, Array.replicate_zero, List.push_toArray, List.nil_append, List.cons_append]
  go_wp2_with fail
  cases c₀
  simp_all [bodyPostS, results, Tryz.results76]
/-- the line of the word units -/
def unitsL (m : Nat) : ByteArray := ⟨#[117, 110, 105, 116, 115, 32]⟩ ++ txt m
theorem cut_units (m : Nat) : Lib.cut (unitsL m).data.toList [32] = ([117, 110, 105, 116, 115], (line [m]).data.toList, true) := by
  have e : (unitsL m).data.toList = [117, 110, 105, 116, 115] ++ 32 :: (txt m).data.toList := by
    unfold unitsL
    simp [ByteArray.data_append]
  have hi : Lib.index (unitsL m).data.toList [32] = 5 := by
    rw [Lib.index_one, e, idx_some 32 _ _ (by decide)]
    rfl
  unfold Lib.cut
  rw [hi, if_pos (by decide), e]
  rfl
set_option maxRecDepth 20000 in
set_option maxHeartbeats 1000000 in
theorem c_ansUnits (m R : Nat) (B : Value) (m1 : 1 ≤ m) (m2 : m ≤ 1000) (w : World) (hE : Env w) (hR : w.heap[R]? = some (cmdM 28)) :
    Calls Tryz.prog 29 #[B, .string (unitsL m), .map (some R)] w fun e w' => e = .returned (.string (txt (uniI m).toNat)) ∧ Below w.heap.size w w' := by
  have hmf : ∀ (fn : Fn) (first cap : Array Value) (w : World), (Instr.makeFunc fn first cap).run Tryz.prog w = .ok (.func fn first cap) w := fun _ _ _ _ => rfl
  have hl := txt_len (n := m) (by omega)
  have hT := fun w hE hR => c_told ⟨#[117, 110, 105, 116, 115]⟩ 1 71 25 [m] R (by simp) (by show (txt m).size ≤ 100000; omega) (by simp; omega) (by simp) (unitsL m) (by unfold unitsL; rw [ByteArray.size_append]; show 6 + (txt m).size ≤ 100000; omega) (cut_units m) (by decide) (.inr (by simp)) (by rfl) w hE hR
  generalize unitsL m = T at *
  go_enter_defers Tryz.func29, Tryz.ntmps29
  have hb0 : Below w.heap.size w (w.alloc (.cells #[.string ⟨#[]⟩] 9)) := ba (Below.refl _ _) _
  have hRl := (Array.getElem?_eq_some_iff.1 hR).1
  go_wp2_with fail
  refine (hT _ (hE.keep hb0) ((hb0.block R hRl).trans hR)).mono ?_
  rintro e w1 ⟨g, cap, rfl, hO1, hb1⟩
  have hst := st_new w1 (.func 71) 1 75
  have hbW : Below w.heap.size w w1 := hb0.trans (hb1.mono hb0.size)
  have hb2 : Below w1.heap.size w1 (w1.alloc (.cells #[.int .i64 1, .func (.func 71) #[] #[]] 75)) := ba (Below.refl _ _) _
  have hE2 := (hE.keep hbW).keep hb2
  have hc2 := keepc hb2 (OwnI.cell hO1 (by simp [ints]) 0 (by simp))
  have hU := c_units g cap 0 (m : Int) B (by omega) (by omega) _ hE2 (by simpa [ints] using hc2)
  obtain ⟨u, hu⟩ : ∃ u, (uniI (m : Int)).toNat = u := ⟨_, rfl⟩
  have HU := Lib.hid hu
  rw [hu] at hU
  clear hu
  clear hT hE2 hc2
  go_wp2_with fail
  refine hU.mono ?_
  rintro e w2 ⟨rfl, hb3⟩
  have hb4 := hb1.trans ((hb2.trans (hb3.mono hb2.size)).mono hb1.size)
  have r0 : w2.cell? ⟨w.heap.size, 0, none⟩ = some (.string ⟨#[]⟩) := keepc hb4 (World.cell?_alloc_mark w _ _ _ 0)
  have r1 : w2.frozen? ⟨w.heap.size, 0, none⟩ = false := keepf hb4 (World.cell?_alloc_mark w _ _ _ 0) (by rw [World.frozen?_alloc_mark]; simp)
  have hfin : Below w.heap.size w (w2.setCell ⟨w.heap.size, 0, none⟩ (.string (txt u))) := (hb0.trans (hb4.mono hb0.size)).setCell (p := ⟨w.heap.size, 0, none⟩) (Nat.le_refl _) _
  have r2 := set_hit (v := .string (txt u)) r0
  clear hU hst hb1 hb2 hb3 hO1
  go_wp2_with fail
  refine leaves_cons (f := 76) (args := #[.pointer (some ⟨w.heap.size, 0, none⟩)]) (by simp) (by simp [go_sem]) ?_
  refine (c_caught (.pointer (some ⟨w.heap.size, 0, none⟩)) _).mono ?_
  rintro e u' w'' ⟨rfl, rfl, rfl⟩
  simp [Leaves, settle, results, Tryz.results29, go_sem, r2, hfin]
  rw [HU.out]
end Go.Proofs.YtonecelkkeakiaaGreatDoor
namespace Go.Proofs.YtonecelkkeakiaaGreatDoor
open Go.RowKit Go.Shelf
/-- lines, each with its end -/
def scr : List ByteArray → ByteArray
  | [] => ⟨#[]⟩
  | l :: r => l ++ (⟨#[10]⟩ ++ scr r)
theorem scr_hit (l S : ByteArray) (h : ∀ b ∈ l.data.toList, b ≠ 10) : Lib.indexB (l ++ (⟨#[10]⟩ ++ S)) ⟨#[10]⟩ = (l.size : Nat) := by
  show Lib.index (l ++ (⟨#[10]⟩ ++ S)).data.toList [10] = _
  rw [Lib.index_one]
  have e : (l ++ (⟨#[10]⟩ ++ S)).data.toList = l.data.toList ++ 10 :: S.data.toList := by simp [ByteArray.data_append]
  rw [e, idx_some 10 _ _ h]
  rfl
theorem scr_miss : Lib.indexB ⟨#[]⟩ ⟨#[10]⟩ = -1 := by decide
theorem scr_tail (l S : ByteArray) : (l ++ (⟨#[10]⟩ ++ S)).extract (l.size + 1) (l ++ (⟨#[10]⟩ ++ S)).size = S := by
  have h := ex_right (l ++ ⟨#[10]⟩) S
  rw [ByteArray.append_assoc, ByteArray.size_append] at h
  rw [ByteArray.size_append, ByteArray.size_append, ← Nat.add_assoc]
  exact h
theorem scr_count : ∀ ls : List ByteArray, (∀ l ∈ ls, ∀ b ∈ l.data.toList, b ≠ 10) → Lib.countB (scr ls) ⟨#[10]⟩ = ls.length
  | [], _ => Lib.countB_miss _ _ scr_miss
  | l :: r, h => by
    have hi := scr_hit l (scr r) (h l (List.mem_cons_self ..))
    show Lib.countB (l ++ (⟨#[10]⟩ ++ scr r)) ⟨#[10]⟩ = _
    rw [Lib.countB_hit _ _ _ (by decide) hi]
    show 1 + Lib.countB ((l ++ (⟨#[10]⟩ ++ scr r)).extract (l.size + 1) _) _ = _
    rw [scr_tail, scr_count r fun x hx => h x (List.mem_cons_of_mem _ hx)]
    simp only [List.length_cons]
    omega
theorem scr_split : ∀ ls : List ByteArray, (∀ l ∈ ls, ∀ b ∈ l.data.toList, b ≠ 10) → Lib.splitB ⟨#[10]⟩ 0 ls.length (scr ls) = ls ++ [⟨#[]⟩]
  | [], _ => rfl
  | l :: r, h => by
    have hi := scr_hit l (scr r) (h l (List.mem_cons_self ..))
    show Lib.splitB ⟨#[10]⟩ 0 (r.length + 1) (l ++ (⟨#[10]⟩ ++ scr r)) = _
    rw [Lib.splitB_hit _ _ _ _ _ hi]
    show (l ++ (⟨#[10]⟩ ++ scr r)).extract 0 l.size :: Lib.splitB ⟨#[10]⟩ 0 r.length ((l ++ (⟨#[10]⟩ ++ scr r)).extract (l.size + 1) _) = _
    rw [scr_tail, ex_left, scr_split r fun x hx => h x (List.mem_cons_of_mem _ hx)]
    rfl
theorem c_split (ls : List ByteArray) (h : ∀ l ∈ ls, ∀ b ∈ l.data.toList, b ≠ 10) (hs : (scr ls).size ≤ 100000) (w : World) (hE : Env w) :
    Calls Tryz.prog 27 #[.string (scr ls), .string ⟨#[10]⟩] w fun e w' => e = .returned (.slice (some ⟨w.heap.size, 0, none⟩) (ls.length + 1) (ls.length + 1)) ∧ w.alloc (.cells ((ls ++ [(⟨#[]⟩ : ByteArray)]).map Value.string).toArray 9) = w' := by
  obtain ⟨m, hm⟩ := hE.ml
  refine (Tryz.strings_Split (scr ls) ⟨#[10]⟩ m w (by omega) hm (by decide)).mono ?_
  rintro e w' ⟨rfl, rfl⟩
  rw [scr_count ls h, scr_split ls h]
  exact ⟨rfl, rfl⟩
theorem bld_keep {B b : Nat} {bs : List Value} {w w' : World} (h : Lib.IsBuilder 51 5 B b bs w) (hb : Below w.heap.size w w') : Lib.IsBuilder 51 5 B b bs w' := by
  have key : ∀ p, Lib.BuilderAt 51 5 B b p bs w → Lib.BuilderAt 51 5 B b p bs w' := by
    rintro p ⟨h1, v, h2, h3, h4⟩
    refine ⟨h1, v, (hb.block b (Array.getElem?_eq_some_iff.1 h2).1).trans h2, World.ownsRow.kept h3 (row := none) ⟨hb.os, hb.tape, hb.output, hb.size, fun k hk _ => hb.block k hk⟩ ?_, h4⟩
    rcases h3.2 with ⟨e, _⟩ | ⟨g, cap, cur, e, _⟩
    · exact .inl (by rw [e]; rfl)
    · exact .inr (by rw [e]; simp [Value.ownBlock])
  exact h.imp (key _) (key _)
set_option maxRecDepth 20000 in
set_option maxHeartbeats 1000000 in
theorem c_runUnits (m : Nat) (m1 : 1 ≤ m) (m2 : m ≤ 1000) (w : World) (hE : Env w) :
    Calls Tryz.prog 9 #[.string (scr [unitsL m])] w fun e w' => e = .returned (.string (txt (uniI m).toNat ++ ⟨#[10, 99, 108, 97, 115, 115, 101, 115, 32, 49, 10]⟩)) ∧ Below w.heap.size w w' := by
  have hl := txt_len (n := m) (by omega)
  have h10 : ∀ l ∈ [unitsL m], ∀ b ∈ l.data.toList, b ≠ 10 := by
    intro l hl b hb e
    obtain rfl := List.mem_singleton.1 hl
    have e2 : (unitsL m).data.toList = [117, 110, 105, 116, 115, 32] ++ Lib.decDigits m := by
      unfold unitsL
      simp [ByteArray.data_append, txt_list]
    rw [e2] at hb
    rcases List.mem_append.1 hb with hb | hb
    · rw [e] at hb; exact absurd hb (by decide)
    · have := dec_all m b hb
      rw [e] at this
      exact absurd this (by decide)
  have hs : (scr [unitsL m]).size ≤ 600 := by
    show (unitsL m ++ (⟨#[10]⟩ ++ ⟨#[]⟩)).size ≤ 600
    unfold unitsL
    rw [ByteArray.size_append, ByteArray.size_append]
    show 6 + (txt m).size + 1 ≤ 600
    omega
  have hsp := fun w hE => c_split [unitsL m] h10 (by omega) w hE
  have hA := fun R B w hE hR => c_ansUnits m R B m1 m2 w hE hR
  obtain ⟨u, hu⟩ : ∃ u, (uniI (m : Int)).toNat = u := ⟨_, rfl⟩
  have hul := txt_len (n := u) (by rw [← hu]; have := uniI_le (m := (m : Int)) (by omega) (by omega); omega)
  rw [hu]
  simp only [hu] at hA
  clear hu h10
  generalize scr [unitsL m] = S at *
  generalize unitsL m = T at *
  generalize txt u = A at *
  go_enter Tryz.func9, Tryz.ntmps9
  go_wp2_with (first
    | (go_at_call 25; refine (c_wholeClass _).mono ?_; rintro e w1 ⟨rfl, hb⟩)
    | (go_at_call 26; refine (c_commands _).mono ?_; rintro e w2 ⟨rfl, rfl⟩))
  obtain ⟨W2, hW2⟩ : ∃ W2, ((w1.alloc (.cells #[.int .i64 0, .int .i64 1] 41)).alloc (.cells #[.slice (some ⟨w1.heap.size, 0, none⟩) 1 1] 44)).alloc (cmdM 28) = W2 := ⟨_, rfl⟩
  have hB2 : Below w1.heap.size w1 W2 := by rw [← hW2]; exact ba (ba (ba (Below.refl _ _) _) _) _
  have hz2 : W2.heap.size = w1.heap.size + 3 := by rw [← hW2]; simp
  have hw2 : Boxed W2 (w1.heap.size + 1) 44 (.slice (some ⟨w1.heap.size, 0, none⟩) 1 1) := by
    rw [← hW2]
    have h := Boxed.new (w1.alloc (.cells #[.int .i64 0, .int .i64 1] 41)) 44 (.slice (some ⟨w1.heap.size, 0, none⟩) 1 1)
    rw [World.size_alloc] at h
    exact h.alloc _
  have hR2 : W2.heap[w1.heap.size + 1 + 1]? = some (cmdM 28) := by
    rw [← hW2]
    have h := heap_alloc_new ((w1.alloc (.cells #[.int .i64 0, .int .i64 1] 41)).alloc (.cells #[.slice (some ⟨w1.heap.size, 0, none⟩) 1 1] 44)) (cmdM 28)
    rw [World.size_alloc, World.size_alloc] at h
    exact h
  have hBw : Below w.heap.size w W2 := hb.trans (hB2.mono hb.size)
  have hE2 := hE.keep hBw
  rw [hW2]
  clear hW2
  refine (hsp W2 hE2).mono ?_
  rintro e W3 ⟨rfl, hW3⟩
  have hB3 : Below W2.heap.size W2 W3 := by rw [← hW3]; exact ba (Below.refl _ _) _
  have hz3 : W3.heap.size = W2.heap.size + 1 := by rw [← hW3]; simp
  have hln : W3.cell? ⟨W2.heap.size, 0, none⟩ = some (.string T) := by rw [← hW3]; exact World.cell?_alloc_mark W2 _ _ _ 0
  clear hW3 hsp
  generalize w1.heap.size = c at *
  have hB3 : Below (c + 3) W2 W3 := hz2 ▸ hB3
  have hz5 : W3.heap.size = c + 4 := by omega
  clear hz3
  have hln : W3.cell? ⟨c + 3, 0, none⟩ = some (.string T) := hz2 ▸ hln
  have hbd := Lib.fresh_isBuilder 51 5 W3
  have hB4 : Below W3.heap.size W3 (W3.alloc (.cells #[.pointer none, .slice none 0 0] 51)) := ba (Below.refl _ _) _
  have hln4 := keepc hB4 hln
  obtain ⟨W4, hW4⟩ : ∃ W4, W3.alloc (.cells #[.pointer none, .slice none 0 0] 51) = W4 := ⟨_, rfl⟩
  have hz4 : W4.heap.size = c + 5 := by rw [← hW4, World.size_alloc]; omega
  rw [hW4] at hbd hB4 hln4
  have HW4 := Lib.hid hW4
  clear hW4
  have hbd : Lib.IsBuilder 51 5 (c + 4) (c + 4) [] W4 := hz5 ▸ hbd
  have hB34 : Below (c + 3) W2 W4 := hB3.trans (hB4.mono (by omega))
  have hE4 := hE2.keep (by rw [hz2]; exact hB34)
  have hR4 : W4.heap[c + 1 + 1]? = some (cmdM 28) := (hB34.block _ (by omega)).trans hR2
  have hw4 : Boxed W4 (c + 1) 44 (.slice (some ⟨c, 0, none⟩) 1 1) := (hB34.block _ (by omega)).trans hw2
  have hBw4 : Below w.heap.size w W4 := hBw.trans (hB34.mono (by have := hBw.size; omega))
  have HZ2 := Lib.hid hz2
  have HZ3 := Lib.hid hz5
  have HZ4 := Lib.hid hz4
  rw [hz2]
  clear hz2 hz4 hB4 hB3 hB34 hln hw2 hR2 hE2 hE hB2
  simp only [List.length_cons, List.length_nil, Nat.reduceAdd, Nat.zero_add]
  go_wp2_with fail
  rw [HW4.out]
  clear hz5
  go_loopw [8, 25] (fun _ kk wr => (kk = .int .i64 0 ∧ wr = W4) ∨ (kk = .int .i64 1 ∧ Lib.IsBuilder 51 5 (c + 4) (c + 4) (Lib.strCells (A ++ ⟨#[10]⟩)) wr ∧ Below (c + 4) W4 wr)) (fun _ kk _ => 1 - (intOf kk).toNat)
  case atStart => exact .inl ⟨rfl, rfl⟩
  case round =>
    rcases hrel with ⟨rfl, rfl⟩ | ⟨rfl, hbd1, hB1⟩
    · have hans := hA (c + 1 + 1) (.pointer (some ⟨c + 1, 0, none⟩)) wr hE4 hR4
      have hsz : (A ++ ⟨#[10]⟩ : ByteArray).size = A.size + 1 := by rw [ByteArray.size_append]; rfl
      go_wp2_with (go_at_call 29; refine (hans).mono ?_; rintro e w1 ⟨rfl, hb⟩)
      have q1 := bld_keep hbd hb
      have q2 : ([] : List Value).length + (A ++ ⟨#[10]⟩ : ByteArray).size ≤ 140737488355328 := by rw [hsz, List.length_nil]; omega
      have q3 : c + 4 ≤ w1.heap.size := by have := hb.size; rw [HZ4.out] at this; omega
      have q4 := c_writeString (c + 4) (c + 4) [] (A ++ ⟨#[10]⟩) w1 q1 q2 q3
      refine q4.mono ?_
      rintro e w5 ⟨rfl, hbd2, hb2⟩
      have HB5 := Lib.hid (show Below (c + 4) wr w5 from (hb.mono (by rw [HZ4.out]; omega)).trans hb2)
      clear hans hb hb2
      go_wp2_with fail
      go_roundw
      case rel => exact .inr ⟨by go_num, .inr hbd2, HB5.out⟩
      case measure => simp [intOf]
    · have hE5 := hE4.low hB1 (by omega)
      have hc5 : wr.cell? ⟨c + 1, 0, none⟩ = some (.slice (some ⟨c, 0, none⟩) 1 1) := Boxed.cell ((hB1.block _ (by omega)).trans hw4)
      have hit : Calls Tryz.prog 30 #[.int .i64 1] wr fun e w' => e = .returned (.string ⟨#[49]⟩) ∧ Below wr.heap.size wr w' := by
        have h := c_itoa 1 (by omega) wr hE5
        rw [txt_small (by omega)] at h
        exact h
      have hw5 := hB1.size
      go_wp2_with (go_at_call 30; refine (hit).mono ?_; rintro e w1 ⟨rfl, hb⟩)
      have hK : (⟨#[99, 108, 97, 115, 115, 101, 115, 32]⟩ ++ ⟨#[49]⟩ ++ ⟨#[10]⟩ : ByteArray) = ⟨#[99, 108, 97, 115, 115, 101, 115, 32, 49, 10]⟩ := rfl
      rw [hK]
      have hsz : (A ++ ⟨#[10]⟩ : ByteArray).size = A.size + 1 := by rw [ByteArray.size_append]; rfl
      have q1 := bld_keep hbd1 hb
      have q2 : (Lib.strCells (A ++ ⟨#[10]⟩)).length + (⟨#[99, 108, 97, 115, 115, 101, 115, 32, 49, 10]⟩ : ByteArray).size ≤ 140737488355328 := by
        rw [Lib.strCells_length, hsz]
        show A.size + 1 + 10 ≤ _
        omega
      have q3 : c + 4 ≤ w1.heap.size := by have := hb.size; have := hB1.size; rw [HZ4.out] at this; omega
      have q4 := c_writeString (c + 4) (c + 4) (Lib.strCells (A ++ ⟨#[10]⟩)) ⟨#[99, 108, 97, 115, 115, 101, 115, 32, 49, 10]⟩ w1 q1 q2 q3
      refine q4.mono ?_
      clear q4
      rintro e w5 ⟨rfl, hbd2, hb2⟩
      have q5 : Lib.IsBuilder 51 5 (c + 4) (c + 4) (Lib.byteCells ((A ++ ⟨#[10]⟩ : ByteArray).data.toList ++ [99, 108, 97, 115, 115, 101, 115, 32, 49, 10])) w5 := by
        refine .inr ?_
        have e : Lib.byteCells ((A ++ ⟨#[10]⟩ : ByteArray).data.toList ++ [99, 108, 97, 115, 115, 101, 115, 32, 49, 10]) = Lib.strCells (A ++ ⟨#[10]⟩) ++ Lib.strCells ⟨#[99, 108, 97, 115, 115, 101, 115, 32, 49, 10]⟩ := by
          rw [Lib.strCells_eq, Lib.strCells_eq]
          unfold Lib.byteCells
          rw [List.map_append]
        rw [e]
        exact hbd2
      have q6 := Tryz.Builder_String (c + 4) (c + 4) _ w5 q5 (by simp)
      have e7 : (⟨((A ++ (⟨#[10]⟩ : ByteArray)).data.toList ++ [99, 108, 97, 115, 115, 101, 115, 32, 49, 10]).toArray⟩ : ByteArray) = A ++ ⟨#[10, 99, 108, 97, 115, 115, 101, 115, 32, 49, 10]⟩ := by
        apply ByteArray.ext
        simp [ByteArray.data_append]
      rw [e7] at q6
      have hbe : Below w.heap.size w w5 := by
        have h1 := hBw.size
        rw [HZ2.out] at h1
        have h2 := hB1.size
        rw [HZ4.out] at h2
        exact hBw4.trans ((hB1.mono (by omega)).trans ((hb.mono (by omega)).trans (hb2.mono (by omega))))
      clear q5 q1 q2 q3 hbd2
      go_wp2_with (first
        | (go_at_call 31; refine q6.mono ?_; rintro e w6 ⟨rfl, hb6⟩))
      go_ret
      exact ⟨rfl, hbe.trans (hb6.mono (by have := hBw.size; rw [HZ2.out] at this; omega))⟩
end Go.Proofs.YtonecelkkeakiaaGreatDoor
namespace Go.Proofs.YtonecelkkeakiaaGreatDoor
open Go.RowKit
/-- a row of bytes -/
def BytesAt (w : World) (k : Nat) : Prop := ∃ cs f, w.heap[k]? = some (.cells cs 5 f)
set_option maxHeartbeats 2000000 in
set_option maxRecDepth 100000 in
theorem c_writeString2 (B b : Nat) (bs : List Value) (s : ByteArray) (w : World) (h : Lib.IsBuilder 51 5 B b bs w) (hlen : bs.length + s.size ≤ 140737488355328) (hBw : B ≤ w.heap.size) :
    Calls Tryz.prog 28 #[.pointer (some ⟨b, 0, none⟩), .string s] w fun e w' => e = .returned (.tuple #[.int .i64 s.size, .nilIface]) ∧ Lib.BuilderAt 51 5 B b (.pointer (some ⟨b, 0, none⟩)) (bs ++ Lib.strCells s) w' ∧ Below B w w' ∧ (∀ k, k < w.heap.size → k ≠ b → ¬ BytesAt w k → w'.heap[k]? = w.heap[k]?) := by
  obtain ⟨i0, hi, hz⟩ := Option.map_eq_some_iff.1 bld_byte
  have hz0 : i0.zero = some (.int .u8 0) := congrArg (·.1) hz
  have hz1 : i0.size = 1 := congrArg (·.2.1) hz
  have hz2 : i0.bytes = 1 := congrArg (·.2.2) hz
  clear hz
  have hcc : Calls Tryz.prog 75 #[.pointer (some ⟨b, 0, none⟩)] w fun e w' => e = .returned (.tuple #[]) ∧ Lib.BuilderAt 51 5 B b (.pointer (some ⟨b, 0, none⟩)) bs w' ∧ Below B w w' ∧ (∀ k, k ≠ b → w'.heap[k]? = w.heap[k]?) := by
    rcases h with h | h
    · refine (c_copyFresh b w h.cell0 h.shape h.frozen0).mono ?_
      rintro e w' ⟨rfl, rfl⟩
      exact ⟨rfl, h.used _, (Below.refl B w).setCell (p := ⟨b, 0, none⟩) h.1 _, fun k hk => Below.heap_setCell _ _ _ _ hk⟩
    · refine (c_copyUsed b w h.cell0).mono ?_
      rintro e w' ⟨rfl, rfl⟩
      exact ⟨rfl, h, Below.refl B _, fun _ _ => rfl⟩
  go_enter Tryz.func28, Tryz.ntmps28
  go_wp2_with (go_at_call 75; refine hcc.mono ?_)
  rintro e w1 ⟨rfl, h1, hb1, hk1⟩
  obtain ⟨hB, v, hbk, hown, hne⟩ := h1
  have c0 : w1.cell? ⟨b, 0, none⟩ = some (.pointer (some ⟨b, 0, none⟩)) := by rw [Lib.cell_of_heap hbk]; rfl
  have c1 : w1.cell? ⟨b, 1, none⟩ = some v := by rw [Lib.cell_of_heap hbk]; rfl
  go_wp2_with (at_builtin; refine Lib.wpList_append_own_string _ rfl _ _ 22 9 rfl B 5 i0 Tryz.underlying22 Tryz.underlying9 hi hz0 hz1 hz2 _ _ _ rfl hown s rfl ?c3 ?c4 ?c5 ?_)
  case c3 => unfold maxLen; omega
  case c4 => omega
  case c5 => have := hb1.size; omega
  intro v' w2 hown' hgrow _
  have hlt : b < w1.heap.size := by
    rcases Nat.lt_or_ge b w1.heap.size with h' | h'
    · exact h'
    · simp [Array.getElem?_eq_none h'] at hbk
  have hb2 : w2.heap[b]? = some (.cells #[.pointer (some ⟨b, 0, none⟩), v] 51 (0, 0)) := by
    rw [hgrow.block b hlt (fun e => hne e.symm)]
    exact hbk
  have d0 : w2.cell? ⟨b, 0, none⟩ = some (.pointer (some ⟨b, 0, none⟩)) := by rw [Lib.cell_of_heap hb2]; rfl
  have d1 : w2.cell? ⟨b, 1, none⟩ = some v := by rw [Lib.cell_of_heap hb2]; rfl
  have f1 : w2.frozen? ⟨b, 1, none⟩ = false := Lib.frozen_of_heap hb2 1
  obtain ⟨ao, n', cap, rfl⟩ : ∃ ao n' cap, v' = .slice ao n' cap := by
    rcases hown'.2 with ⟨hv, _⟩ | ⟨g, cap, cur, hv, _⟩
    · exact ⟨_, _, _, hv⟩
    · exact ⟨_, _, _, hv⟩
  go_wp2_with fail
  go_ret2
  refine ⟨rfl, ?_, ?_, fun k hk hkb hnb => ?_⟩
  · exact Lib.BuilderAt.put (T := 51) (e := 5) hB hb2 (bs' := bs ++ Lib.strCells s) (by simpa [Lib.strCells_length] using hown') (by decide)
  · exact (hb1.grown hgrow (by have := hb1.size; omega) (fun k hk => (hown.lt k hk).1)).setCell (p := ⟨b, 1, none⟩) hB _
  · have hkv : some k ≠ v.ownBlock := fun e => by
      rcases hown.2 with ⟨hv, _⟩ | ⟨g, cap', cur, hv, _, hg, _⟩
      · rw [hv] at e; simp [Value.ownBlock] at e
      · rw [hv] at e
        simp only [Value.ownBlock, Option.some.injEq] at e
        subst e
        exact hnb ⟨cur, (0, 0), (hk1 _ hkb).symm.trans hg⟩
    rw [Below.heap_setCell _ _ _ _ hkb, hgrow.block k (Nat.lt_of_lt_of_le hk hb1.size) hkv, hk1 k hkb]
/-- what changes at one block alone, U, and from B on -/
structure KpB (B U : Nat) (w w' : World) : Prop where
  os : w'.os = w.os
  tape : w'.tape = w.tape
  output : w'.output = w.output
  size : w.heap.size ≤ w'.heap.size
  block : ∀ k, k < B → k ≠ U → w'.heap[k]? = w.heap[k]?
theorem KpB.refl (B U : Nat) (w : World) : KpB B U w w := ⟨rfl, rfl, rfl, Nat.le_refl _, fun _ _ _ => rfl⟩
theorem KpB.trans {B U : Nat} {a b c : World} (h : KpB B U a b) (k : KpB B U b c) : KpB B U a c :=
  ⟨k.os.trans h.os, k.tape.trans h.tape, k.output.trans h.output, Nat.le_trans h.size k.size, fun i hi hU => (k.block i hi hU).trans (h.block i hi hU)⟩
theorem KpB.mono {B C U : Nat} {w w' : World} (h : KpB B U w w') (hC : C ≤ B) : KpB C U w w' := ⟨h.os, h.tape, h.output, h.size, fun i hi hU => h.block i (Nat.lt_of_lt_of_le hi hC) hU⟩
theorem KpB.of_below {B U : Nat} {w w' : World} (h : Below B w w') : KpB B U w w' := ⟨h.os, h.tape, h.output, h.size, fun i hi _ => h.block i hi⟩
theorem KpB.below {B U C : Nat} {w w' : World} (h : KpB B U w w') (hB : C ≤ B) (hU : C ≤ U) : Below C w w' := ⟨h.os, h.tape, h.output, h.size, fun i hi => h.block i (by omega) (by omega)⟩
theorem KpB.setCell {B U : Nat} {w w' : World} (h : KpB B U w w') (j : Nat) (v : Value) : KpB B U w (w'.setCell ⟨U, j, none⟩ v) :=
  ⟨h.os, h.tape, h.output, by have := h.size; simpa [World.setCell] using this, fun i hi hU => (Below.heap_setCell _ _ _ _ hU).trans (h.block i hi hU)⟩
theorem Env.kpB {w w' : World} {B U : Nat} (h : Env w) (hb : KpB B U w w') (hB : 2 ≤ B) (hU : 2 ≤ U) : Env w' := h.low (B := 2) (hb.below hB hU) (Nat.le_refl _)
end Go.Proofs.YtonecelkkeakiaaGreatDoor
