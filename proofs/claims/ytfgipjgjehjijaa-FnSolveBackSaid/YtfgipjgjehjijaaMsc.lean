/- FnSolveBack: its run, on whatever tape (own text). -/
import Derived.Test.YtfgipjgjehjijaaOz
import Derived.Test.YtfgipjgjehjijaaMsb
import Derived.Test.YtfgipjgjehjijaaMathSb
namespace Go.Proofs.Ytfgipjgjehjijaa
open Go Go.Conc Go.ConcN Go.RowKit Go.Conc.Lib Go.ConcR.Gen Go.ConcN.Gen
open Go.ConcR (KK wgBlock WgAt stA smA rd wr mk Payload DC0)

noncomputable def bodyB : Code := Try.f3.body.getD .skip
noncomputable def bB3 : Code := cR (cR (cR bodyB))
noncomputable def bB7 : Code := cR (cR (cR (cR bB3)))
noncomputable def opsB4 : Array Oper := opsOf (cL bB3)
noncomputable def kB4 : List Item := [.code (cR bB3)]
noncomputable def opsB9 : Array Oper := opsOf (cL bB7)
noncomputable def kB9 : List Item := [.code (cR bB7)]
noncomputable def opsBA : Array Oper := opsOf (cL (cR bB7))
noncomputable def kBA : List Item := [.code (cR (cR bB7))]
noncomputable def actB4 (s : Option Addr) (len cap : Nat) (a m : Int) : Act := ⟨#[.slice s len cap, undef, .bool false, .int .i64 a, .int .i64 m, undef, undef, undef, undef, undef, undef, undef, undef, undef, undef, .slice s len cap, .int .i64 len, .bool false, .tuple #[.int .i64 a, .int .i64 m], .slice s len cap, .tuple #[.int .i64 a, .int .i64 m], .int .i64 a, .int .i64 m, undef, .int .i64 a, .int .i64 m, undef, undef, undef, undef, undef, undef, undef, undef, undef, undef, undef, undef, undef, undef, undef, undef, undef, undef, undef, undef, undef, undef, undef, undef, undef, undef, undef, undef, undef, undef, undef, undef, undef, undef, undef, undef, undef, undef, undef, undef, undef, undef, undef, undef, undef, undef, undef, undef, undef, undef, undef, undef, undef, undef, undef, undef, undef, undef, undef, undef, undef, undef, undef, undef, undef, undef, undef, undef, undef, undef, undef, undef, undef, undef, undef, undef, undef, undef, undef, undef, undef, undef, undef, undef, undef, undef, undef, undef, undef], []⟩
noncomputable def actB9 (s : Option Addr) (len cap : Nat) (a m : Int) : Act := ⟨#[.slice s len cap, undef, .bool false, .int .i64 a, .int .i64 m, .int .i64 (bakV a m), .bool true, .int .i64 (bakV a m), .bool true, .int .i64 (bakV (bakV a m) m), .bool true, undef, undef, undef, undef, .slice s len cap, .int .i64 len, .bool false, .tuple #[.int .i64 a, .int .i64 m], .slice s len cap, .tuple #[.int .i64 a, .int .i64 m], .int .i64 a, .int .i64 m, .tuple #[.int .i64 (bakV a m), .bool true], .int .i64 a, .int .i64 m, .tuple #[.int .i64 (bakV a m), .bool true], .int .i64 (bakV a m), .bool true, .tuple #[.int .i64 (bakV a m), .bool true], .int .i64 a, .int .i64 m, .tuple #[.int .i64 (bakV a m), .bool true], .int .i64 (bakV a m), .bool true, .bool true, .bool true, .bool false, .bool false, .int .i64 (bakV a m), .int .i64 (bakV a m), .bool false, .bool false, .bool false, .bool true, .bool false, .bool false, undef, undef, undef, undef, undef, undef, undef, undef, .tuple #[.int .i64 (bakV (bakV a m) m), .bool true], .int .i64 (bakV a m), .int .i64 m, .tuple #[.int .i64 (bakV (bakV a m) m), .bool true], .int .i64 (bakV (bakV a m) m), .bool true, undef, .int .i64 a, .int .i64 m, undef, undef, undef, undef, undef, undef, undef, undef, undef, undef, undef, undef, undef, undef, undef, undef, undef, undef, undef, undef, undef, undef, undef, undef, undef, undef, undef, undef, undef, undef, undef, undef, undef, undef, undef, undef, undef, undef, undef, undef, undef, undef, undef, undef, undef, undef, undef, undef, undef, undef, undef], []⟩
noncomputable def actBA (s : Option Addr) (len cap : Nat) (a m : Int) : Act := ⟨#[.slice s len cap, undef, .bool false, .int .i64 a, .int .i64 m, .int .i64 (bakV a m), .bool true, .int .i64 (bakV a m), .bool true, .int .i64 (bakV (bakV a m) m), .bool true, .int .i64 (ordX a m), .bool true, undef, undef, .slice s len cap, .int .i64 len, .bool false, .tuple #[.int .i64 a, .int .i64 m], .slice s len cap, .tuple #[.int .i64 a, .int .i64 m], .int .i64 a, .int .i64 m, .tuple #[.int .i64 (bakV a m), .bool true], .int .i64 a, .int .i64 m, .tuple #[.int .i64 (bakV a m), .bool true], .int .i64 (bakV a m), .bool true, .tuple #[.int .i64 (bakV a m), .bool true], .int .i64 a, .int .i64 m, .tuple #[.int .i64 (bakV a m), .bool true], .int .i64 (bakV a m), .bool true, .bool true, .bool true, .bool false, .bool false, .int .i64 (bakV a m), .int .i64 (bakV a m), .bool false, .bool false, .bool false, .bool true, .bool false, .bool false, undef, undef, undef, undef, undef, undef, undef, undef, .tuple #[.int .i64 (bakV (bakV a m) m), .bool true], .int .i64 (bakV a m), .int .i64 m, .tuple #[.int .i64 (bakV (bakV a m) m), .bool true], .int .i64 (bakV (bakV a m) m), .bool true, .tuple #[.int .i64 (ordX a m), .bool true], .int .i64 a, .int .i64 m, .tuple #[.int .i64 (ordX a m), .bool true], .int .i64 (ordX a m), .bool true, undef, .int .i64 (bakV a m), .int .i64 m, undef, undef, undef, undef, undef, undef, undef, undef, undef, undef, undef, undef, undef, undef, undef, undef, undef, undef, undef, undef, undef, undef, undef, undef, undef, undef, undef, undef, undef, undef, undef, undef, undef, undef, undef, undef, undef, undef, undef, undef, undef, undef, undef, undef, undef], []⟩
noncomputable def entryB (s : Option Addr) (len cap : Nat) : Goroutine := G ((base 3).at ⟨#[.slice s len cap, undef, undef, undef, undef, undef, undef, undef, undef, undef, undef, undef, undef, undef, undef, undef, undef, undef, undef, undef, undef, undef, undef, undef, undef, undef, undef, undef, undef, undef, undef, undef, undef, undef, undef, undef, undef, undef, undef, undef, undef, undef, undef, undef, undef, undef, undef, undef, undef, undef, undef, undef, undef, undef, undef, undef, undef, undef, undef, undef, undef, undef, undef, undef, undef, undef, undef, undef, undef, undef, undef, undef, undef, undef, undef, undef, undef, undef, undef, undef, undef, undef, undef, undef, undef, undef, undef, undef, undef, undef, undef, undef, undef, undef, undef, undef, undef, undef, undef, undef, undef, undef, undef, undef, undef, undef, undef, undef, undef, undef, undef, undef, undef, undef, undef], []⟩ [.code bodyB]) []
/-- At the first SolveBack. -/
noncomputable def entB (s : Option Addr) (len cap : Nat) (a m : Int) : Goroutine := G ((base 7).at ⟨#[.int .i64 a, .int .i64 m, undef, undef, undef, undef, undef, undef, undef, undef, undef, undef, undef, undef, undef, undef, undef], []⟩ [.code (Try.f7.body.getD .skip)]) ((base 3).at (actB4 s len cap a m) (.inRegion opsB4 (2 :: [3, 4, 5, 6, 7]) :: kB4) :: [])
theorem enterB_eq (s : Option Addr) (len cap : Nat) : G (Frame.enter Try.prog 3 #[.slice s len cap] .normal) [] = entryB s len cap := by
  simp [entryB, Frame.enter, Frame.at, Try.func3, base, bodyB, Try.f3, Array.replicate_succ]

section
variable {B : Nat} {W : World} {s : Option Addr} {len cap : Nat}
set_option maxRecDepth 100000 in
set_option maxHeartbeats 8000000 in
theorem longB (hl : 1048576 < len) {N : Nat} {Sh : Loc → Prop} (w : World) (hN : W.heap.size ≤ N) (hF : Fa W.heap.size W N [] w) :
    Goes Try.prog true AtRel (DE (EvL Sh B)) (AtEnd Try.prog Sh B (PostL W)) 60 (entryB s len cap) w := by
  have hd : decide ((1048576 : Int) < (len : Int)) = true := by simp; omega
  simp only [entryB, bodyB, Try.f3, Option.getD_some]
  u_c stepG_seq Fa.atRel hF
  u_reg Fa.atRel hF
  u_op Fa.atRel hF
  u_c stepG_region_end Fa.atRel hF
  u_c stepG_seq Fa.atRel hF
  u_c stepG_seq Fa.atRel hF
  u_reg Fa.atRel hF
  u_op Fa.atRel hF
  u_op Fa.atRel hF
  u_op Fa.atRel hF
  u_c stepG_region_end Fa.atRel hF
  u_cond true Fa.atRel hF
  repeat (first | u_c stepG_seq Fa.atRel hF | u_c stepG_skip Fa.atRel hF | u_c stepG_region_end Fa.atRel hF | u_reg Fa.atRel hF | u_op Fa.atRel hF | u_c stepG_ret' Fa.atRel hF)
  refine Goes.stop (fun w₂ r₂ => ⟨rfl, .bool true, #[], ?_, by simp, rfl, (hF.atRel r₂).below hN⟩)
  simp [G, stepG, unwind, doReturn, results, Frame.at, base, Try.func3, Try.f3, seen, GStep.after]

set_option maxRecDepth 100000 in
set_option maxHeartbeats 8000000 in
theorem preB (hl : len ≤ 1048576) (hB : W.heap.size < B) (hc : Code0 W s len cap) (w : World) (hF : Fa W.heap.size W W.heap.size [] w) :
    Goes Try.prog true AtRel (DE (EvL (fun _ => False) B)) (fun g' w' => ∃ a m : Int, (-5 ≤ a ∧ a ≤ 2000024 ∧ 0 ≤ m ∧ m ≤ 20) ∧ g' = entB s len cap a m ∧ Fa W.heap.size W (W.heap.size + 1) [] w') 2600 (entryB s len cap) w := by
  have hd : decide ((1048576 : Int) < (len : Int)) = false := by simp; omega
  simp only [entryB, bodyB, bB3, entB, actB4, opsB4, kB4, cR, cL, opsOf, Try.f3, Option.getD_some]
  refine goes_join (m := 2500) (n := 100) atRel_refl ?_
  u_c stepG_seq Fa.atRel hF
  u_reg Fa.atRel hF
  u_op Fa.atRel hF
  u_c stepG_region_end Fa.atRel hF
  u_c stepG_seq Fa.atRel hF
  u_c stepG_seq Fa.atRel hF
  u_reg Fa.atRel hF
  u_op Fa.atRel hF
  u_op Fa.atRel hF
  u_op Fa.atRel hF
  u_c stepG_region_end Fa.atRel hF
  u_cond false Fa.atRel hF
  u_c stepG_skip Fa.atRel hF
  u_c stepG_seq Fa.atRel hF
  u_reg Fa.atRel hF
  u_op Fa.atRel hF
  refine Goes.stop (fun w₉ r₉ => ?_)
  replace hF := hF.atRel r₉
  clear r₉
  refine Goes.call (m := 97) (nf := 2400) (Post := fun v w' => ∃ a m : Int, -5 ≤ a ∧ a ≤ 2000024 ∧ 0 ≤ m ∧ m ≤ 20 ∧ v = .tuple #[.int .i64 a, .int .i64 m] ∧ Fa W.heap.size W (W.heap.size + 1) [] w') terms_b rfl (by rfl) (by k_ne) rfl ?_ (fun v w₁ hp => ?_)
  · walk_nrm
    exact k_DrawSolveBack (Nat.le_refl _) hB (by simp) hc.bt hc.lc hc.cm hc.nn _ hF
  obtain ⟨a, m, a1, a2, m1, m2, rfl, hF⟩ := hp
  walk_nrm
  repeat (first | u_c stepG_seq Fa.atRel hF | u_c stepG_region_end Fa.atRel hF | u_reg Fa.atRel hF | u_op Fa.atRel hF)
  u_call Try.func7 (by rfl) Try.f7 Fa.atRel hF
  refine Goes.stop (fun w₂ r₂ => ?_)
  exact ⟨a, m, ⟨a1, a2, m1, m2⟩, rfl, hF.atRel r₂⟩

set_option maxRecDepth 100000 in
set_option maxHeartbeats 16000000 in
/-- There is none. -/
theorem noneB {a m : Int} (ho : linO a 1 m = false) {Sh : Loc → Prop} {sz : Nat} (hs : W.heap.size ≤ sz) (hSh : ∀ a : Addr, Sh (.cell a) → a.block < sz) (hB : sz + 100 < B) (w : World) (hF : Fa W.heap.size W sz [] w) :
    Goes Try.prog true AtRel (DE (EvL Sh B)) (AtEnd Try.prog Sh B (PostL W)) ((100 + 100 + 100 + 400000 + 500 + 20) + 50 + 100 + 400000 + 20) (entB s len cap a m) w := by
  have h2 := fun sz (h1 : W.heap.size ≤ sz) (h2 : ∀ a : Addr, Sh (.cell a) → a.block < sz) (h3 : sz + 4 < B) a₀' ops₀' i₀' rest₀' k₀' => sBackWalk (S := AtEnd Try.prog Sh B (PostL W)) (n := 100) (a := a) (m := m) (Sh := Sh) (B := B) (N := W.heap.size) (sz := sz) (W := W) (L := []) (b₀ := base 3) (a₀ := a₀') (ops₀ := ops₀') (i₀ := i₀') (rest₀ := rest₀') (k₀ := k₀') (cs := []) h1 h2 h3 (by simp)
  generalize hK2 : 100 + 100 + 100 + 400000 + 500 + 20 = K2 at h2 ⊢
  simp only [Try.f8, Option.getD_some] at h2
  refine backWalk (S := AtEnd Try.prog Sh B (PostL W)) (n := K2 + 50) (N := W.heap.size) (sz := sz) (W := W) (L := []) hs hSh (by omega) (by simp) (fun w' hF => ?_) w hF
  simp only [actB4, opsB4, kB4, bB3, bodyB, cR, cL, opsOf, Try.f3, Option.getD_some]
  rw [ho] at h2 ⊢
  generalize bakV a m = x at *
  clear ho
  walk_nrm
  repeat (first | u_c stepG_seq Fa.atRel hF | u_c stepG_region_end Fa.atRel hF | u_reg Fa.atRel hF | u_op Fa.atRel hF)
  (refine Goes.step rfl (fun _ h₁ => ?_); replace hF := Fa.atRel hF h₁; clear h₁)
  refine goes_call rfl rfl (by k_ne) rfl Try.func8 (by rfl) rfl ⟨by u_nil, ?_⟩
  walk_nrmf Try.f8
  refine goes_more _ (h2 _ (by omega) (fun a h => by have := hSh a h; omega) (by omega) _ _ _ _ _ (fun sz' w' s1 s2 hF => ?_) _ hF)
  clear h2 hK2
  walk_nrm
  repeat (first | u_c stepG_seq Fa.atRel hF | u_c stepG_region_end Fa.atRel hF | u_reg Fa.atRel hF | u_op Fa.atRel hF)
  u_cond true Fa.atRel hF
  repeat (first | u_c stepG_seq Fa.atRel hF | u_c stepG_region_end Fa.atRel hF | u_reg Fa.atRel hF | u_op Fa.atRel hF | u_c stepG_ret' Fa.atRel hF)
  refine Goes.stop (fun w₂ r₂ => ⟨rfl, .bool true, #[], ?_, by simp, rfl, (hF.atRel r₂).below (by omega)⟩)
  simp [G, stepG, unwind, doReturn, results, Frame.at, base, Try.func3, Try.f3, seen, GStep.after]

set_option maxRecDepth 100000 in
set_option maxHeartbeats 32000000 in
/-- There is one: on to its order. -/
theorem midB {a m : Int} (ho : linO a 1 m = true) (ho2 : linO (bakV a m) 1 m = true) {Sh : Loc → Prop} {sz : Nat} (hs : W.heap.size ≤ sz) (hSh : ∀ a : Addr, Sh (.cell a) → a.block < sz) (hB : sz + 100 < B) (w : World) (hF : Fa W.heap.size W sz [] w) :
    Goes Try.prog true AtRel (DE (EvL Sh B)) (fun g' w' => g' = entO a m ((base 3).at (actB9 s len cap a m) (.inRegion opsB9 (2 :: [3, 4, 5, 6, 7]) :: kB9) :: []) ∧ ∃ sz', sz ≤ sz' ∧ sz' ≤ sz + 20 ∧ Fa W.heap.size W sz' [] w')
      (((60 + 100 + 400000 + 20) + 100 + 100 + 100 + 400000 + 500 + 20) + 50 + 100 + 400000 + 20) (entB s len cap a m) w := by
  have h2 := fun sz (h1 : W.heap.size ≤ sz) (h2 : ∀ a : Addr, Sh (.cell a) → a.block < sz) (h3 : sz + 4 < B) S n a₀' ops₀' i₀' rest₀' k₀' => sBackWalk (S := S) (n := n) (a := a) (m := m) (Sh := Sh) (B := B) (N := W.heap.size) (sz := sz) (W := W) (L := []) (b₀ := base 3) (a₀ := a₀') (ops₀ := ops₀') (i₀ := i₀') (rest₀ := rest₀') (k₀ := k₀') (cs := []) h1 h2 h3 (by simp)
  have h3 := fun sz (h1 : W.heap.size ≤ sz) (h2 : ∀ a : Addr, Sh (.cell a) → a.block < sz) (h3 : sz + 2 < B) S n a₀' ops₀' i₀' rest₀' k₀' => backWalk (S := S) (n := n) (a := bakV a m) (m := m) (Sh := Sh) (B := B) (N := W.heap.size) (sz := sz) (W := W) (L := []) (b₀ := base 3) (a₀ := a₀') (ops₀ := ops₀') (i₀ := i₀') (rest₀ := rest₀') (k₀ := k₀') (cs := []) h1 h2 h3 (by simp)
  generalize hK3 : 60 + 100 + 400000 + 20 = K3
  generalize hK2 : K3 + 100 + 100 + 100 + 400000 + 500 + 20 = K2
  simp only [Try.f8, Option.getD_some] at h2
  simp only [Try.f7, Option.getD_some] at h3
  refine backWalk (n := K2 + 50) (N := W.heap.size) (sz := sz) (W := W) (L := []) hs hSh (by omega) (by simp) (fun w' hF => ?_) w hF
  simp only [actB4, opsB4, kB4, entO, actB9, opsB9, kB9, bB7, bB3, bodyB, bodyS, cR, cL, opsOf, Try.f3, Option.getD_some]
  rw [ho] at h2 ⊢
  rw [ho2] at h3
  clear ho ho2
  generalize bakV (bakV a m) m = y at *
  generalize bakV a m = x at *
  walk_nrm
  repeat (first | u_c stepG_seq Fa.atRel hF | u_c stepG_region_end Fa.atRel hF | u_reg Fa.atRel hF | u_op Fa.atRel hF)
  (refine Goes.step rfl (fun _ h₁ => ?_); replace hF := Fa.atRel hF h₁; clear h₁)
  refine goes_call rfl rfl (by k_ne) rfl Try.func8 (by rfl) rfl ⟨by u_nil, ?_⟩
  walk_nrmf Try.f8
  subst hK2
  refine Goes.mono (n := (K3 + 100) + 100 + 100 + 400000 + 500 + 20) (h2 _ (by omega) (fun a h => by have := hSh a h; omega) (by omega) _ _ _ _ _ _ _ (fun sz' w' s1 s2 hF => ?_) _ hF) (by omega)
  clear h2
  walk_nrm
  repeat (first | u_c stepG_seq Fa.atRel hF | u_c stepG_region_end Fa.atRel hF | u_reg Fa.atRel hF | u_op Fa.atRel hF)
  u_cond false Fa.atRel hF
  u_c stepG_skip Fa.atRel hF
  repeat (first | u_c stepG_seq Fa.atRel hF | u_c stepG_region_end Fa.atRel hF | u_reg Fa.atRel hF | u_op Fa.atRel hF)
  (refine Goes.step rfl (fun _ h₁ => ?_); replace hF := Fa.atRel hF h₁; clear h₁)
  refine goes_call rfl rfl (by k_ne) rfl Try.func7 (by rfl) rfl ⟨by u_nil, ?_⟩
  walk_nrmf Try.f7
  subst hK3
  refine Goes.mono (n := 60 + 100 + 400000 + 20) (h3 _ (by omega) (fun a h => by have := hSh a h; omega) (by omega) _ _ _ _ _ _ _ (fun w' hF => ?_) _ hF) (by omega)
  clear h3
  walk_nrm
  repeat (first | u_c stepG_seq Fa.atRel hF | u_c stepG_region_end Fa.atRel hF | u_reg Fa.atRel hF | u_op Fa.atRel hF)
  u_call Try.func9 (by rfl) Try.f9 Fa.atRel hF
  refine Goes.stop (fun w₂ r₂ => ?_)
  exact ⟨rfl, sz' + 2, by omega, by omega, hF.atRel r₂⟩

set_option maxRecDepth 100000 in
set_option maxHeartbeats 8000000 in
/-- .. and to that of the other. -/
theorem mid2B {a m : Int} {Sh : Loc → Prop} {sz : Nat} (w : World) (hF : Fa W.heap.size W sz [] w) :
    Goes Try.prog true AtRel (DE (EvL Sh B)) (fun g' w' => g' = entO (bakV a m) m ((base 3).at (actBA s len cap a m) (.inRegion opsBA (2 :: [3, 4, 5, 6, 7]) :: kBA) :: []) ∧ Fa W.heap.size W sz [] w')
      60 (retG (base 3) (actB9 s len cap a m) opsB9 2 [3, 4, 5, 6, 7] kB9 [] (.tuple #[.int .i64 (ordX a m), .bool true])) w := by
  simp only [retG, entO, actB9, opsB9, kB9, actBA, opsBA, kBA, bB7, bB3, bodyB, bodyS, cR, cL, opsOf, Try.f3, Option.getD_some]
  generalize bakV (bakV a m) m = y at *
  generalize bakV a m = x at *
  generalize ordX a m = k at *
  walk_nrm
  repeat (first | u_c stepG_seq Fa.atRel hF | u_c stepG_region_end Fa.atRel hF | u_reg Fa.atRel hF | u_op Fa.atRel hF)
  u_call Try.func9 (by rfl) Try.f9 Fa.atRel hF
  refine Goes.stop (fun w₂ r₂ => ?_)
  exact ⟨rfl, hF.atRel r₂⟩
end
end Go.Proofs.Ytfgipjgjehjijaa
namespace Go.Proofs.Ytfgipjgjehjijaa
open Go Go.Conc Go.ConcN Go.RowKit Go.Conc.Lib Go.ConcR.Gen Go.ConcN.Gen
open Go.ConcR (KK wgBlock WgAt stA smA rd wr mk Payload DC0)

section
variable {B : Nat} {W : World} {s : Option Addr} {len cap : Nat}
set_option maxRecDepth 100000 in
set_option maxHeartbeats 32000000 in
theorem endB {a m : Int} (h1 : 1 ≤ m) (hm : m ≤ 20) (ha1 : -1000000 ≤ a) (ha2 : a ≤ 1000000) (hx0 : 0 ≤ bakV a m) (hx1 : bakV a m < m) (hy : bakV (bakV a m) m = a % m) (hp : a * bakV a m % m = 1 % m) {Sh : Loc → Prop} {sz : Nat} (hs : W.heap.size ≤ sz) (w : World) (hF : Fa W.heap.size W sz [] w) :
    Goes Try.prog true AtRel (DE (EvL Sh B)) (AtEnd Try.prog Sh B (PostL W)) 120 (retG (base 3) (actBA s len cap a m) opsBA 2 [3, 4, 5, 6, 7] kBA [] (.tuple #[.int .i64 (ordX a m), .bool true])) w := by
  simp only [retG, actBA, opsBA, kBA, bB7, bB3, bodyB, cR, cL, opsOf, Try.f3, Option.getD_some]
  obtain ⟨r0, r1⟩ := emod_bd a m h1
  have d1 : (a - a % m).tmod m = 0 := Int.tmod_eq_zero_of_dvd (Int.dvd_self_sub_emod)
  rw [hy]
  generalize bakV a m = x at *
  generalize ordX a m = k at *
  have q1 : -20000000 ≤ a * x := by
    have := Int.mul_le_mul_of_nonneg_right ha1 hx0
    have h2 : (1000000 : Int) * x ≤ 1000000 * 20 := Int.mul_le_mul_of_nonneg_left (by omega) (by omega)
    omega
  have q2 : a * x ≤ 20000000 := by
    have := Int.mul_le_mul_of_nonneg_right ha2 hx0
    have h2 : (1000000 : Int) * x ≤ 1000000 * 20 := Int.mul_le_mul_of_nonneg_left (by omega) (by omega)
    omega
  have w1 : IntKind.i64.wrap (a - a % m) = a - a % m := by rw [IntKind.wrap_i64]; omega
  have w2 : IntKind.i64.wrap (a * x) = a * x := by rw [IntKind.wrap_i64]; omega
  have w3 : IntKind.i64.wrap (1 - m) = 1 - m := by rw [IntKind.wrap_i64]; omega
  have w4 : IntKind.i64.wrap 0 = 0 := by rw [IntKind.wrap_i64]; omega
  have w5 : IntKind.i64.wrap 1 = 1 := by rw [IntKind.wrap_i64]; omega
  have hm0 : ¬ m = 0 := by omega
  generalize hy' : a % m = y at *
  clear hy hy'
  walk_nrm
  repeat (first | u_op Fa.atRel hF | u_c stepG_region_end Fa.atRel hF)
  u_c stepG_seq Fa.atRel hF
  u_reg Fa.atRel hF
  by_cases hm1 : m = 1
  · have hb : (m == 1) = true := by simpa using hm1
    clear hm1 hp q1 q2
    u_op Fa.atRel hF
    u_op Fa.atRel hF
    u_op Fa.atRel hF
    u_op Fa.atRel hF
    u_op Fa.atRel hF
    u_op Fa.atRel hF
    u_op Fa.atRel hF
    u_op Fa.atRel hF
    u_op Fa.atRel hF
    u_op Fa.atRel hF
    u_op Fa.atRel hF
    u_op Fa.atRel hF
    u_op Fa.atRel hF
    u_op Fa.atRel hF
    u_op Fa.atRel hF
    u_op Fa.atRel hF
    u_op Fa.atRel hF
    u_op Fa.atRel hF
    u_op Fa.atRel hF
    u_op Fa.atRel hF
    u_op Fa.atRel hF
    u_op Fa.atRel hF
    u_op Fa.atRel hF
    u_op Fa.atRel hF
    u_skip Fa.atRel hF
    u_skip Fa.atRel hF
    u_skip Fa.atRel hF
    u_skip Fa.atRel hF
    u_skip Fa.atRel hF
    u_skip Fa.atRel hF
    u_op Fa.atRel hF
    u_op Fa.atRel hF
    u_skip Fa.atRel hF
    u_skip Fa.atRel hF
    u_skip Fa.atRel hF
    u_skip Fa.atRel hF
    u_skip Fa.atRel hF
    u_skip Fa.atRel hF
    u_skip Fa.atRel hF
    u_skip Fa.atRel hF
    u_op Fa.atRel hF
    u_op Fa.atRel hF
    u_op Fa.atRel hF
    u_c stepG_region_end Fa.atRel hF
    u_c stepG_ret' Fa.atRel hF
    refine Goes.stop (fun w₂ r₂ => ⟨rfl, .bool true, #[], ?_, by simp, rfl, (hF.atRel r₂).below hs⟩)
    simp [G, stepG, unwind, doReturn, results, Frame.at, base, Try.func3, Try.f3, seen, GStep.after]
  · have hb : (m == 1) = false := by simpa using hm1
    have hp1 : a * x % m = 1 := by rw [hp]; exact Int.emod_eq_of_lt (by omega) (by omega)
    rcases prod_rem (by omega) hp1 with ht | ht
    · clear hm1 hp hp1 q1 q2
      u_op Fa.atRel hF
      u_op Fa.atRel hF
      u_op Fa.atRel hF
      u_op Fa.atRel hF
      u_op Fa.atRel hF
      u_op Fa.atRel hF
      u_op Fa.atRel hF
      u_op Fa.atRel hF
      u_op Fa.atRel hF
      u_op Fa.atRel hF
      u_op Fa.atRel hF
      u_op Fa.atRel hF
      u_op Fa.atRel hF
      u_op Fa.atRel hF
      u_op Fa.atRel hF
      u_op Fa.atRel hF
      u_op Fa.atRel hF
      u_op Fa.atRel hF
      u_op Fa.atRel hF
      u_op Fa.atRel hF
      u_op Fa.atRel hF
      u_op Fa.atRel hF
      u_op Fa.atRel hF
      u_op Fa.atRel hF
      u_op Fa.atRel hF
      u_op Fa.atRel hF
      u_op Fa.atRel hF
      u_op Fa.atRel hF
      u_op Fa.atRel hF
      u_op Fa.atRel hF
      u_op Fa.atRel hF
      u_op Fa.atRel hF
      u_skip Fa.atRel hF
      u_skip Fa.atRel hF
      u_skip Fa.atRel hF
      u_skip Fa.atRel hF
      u_skip Fa.atRel hF
      u_skip Fa.atRel hF
      u_skip Fa.atRel hF
      u_skip Fa.atRel hF
      u_op Fa.atRel hF
      u_op Fa.atRel hF
      u_op Fa.atRel hF
      u_c stepG_region_end Fa.atRel hF
      u_c stepG_ret' Fa.atRel hF
      refine Goes.stop (fun w₂ r₂ => ⟨rfl, .bool true, #[], ?_, by simp, rfl, (hF.atRel r₂).below hs⟩)
      simp [G, stepG, unwind, doReturn, results, Frame.at, base, Try.func3, Try.f3, seen, GStep.after]
    · have hb2 : (1 - m == 1) = false := by simp; omega
      clear hm1 hp hp1 q1 q2
      u_op Fa.atRel hF
      u_op Fa.atRel hF
      u_op Fa.atRel hF
      u_op Fa.atRel hF
      u_op Fa.atRel hF
      u_op Fa.atRel hF
      u_op Fa.atRel hF
      u_op Fa.atRel hF
      u_op Fa.atRel hF
      u_op Fa.atRel hF
      u_op Fa.atRel hF
      u_op Fa.atRel hF
      u_op Fa.atRel hF
      u_op Fa.atRel hF
      u_op Fa.atRel hF
      u_op Fa.atRel hF
      u_op Fa.atRel hF
      u_op Fa.atRel hF
      u_op Fa.atRel hF
      u_op Fa.atRel hF
      u_op Fa.atRel hF
      u_op Fa.atRel hF
      u_op Fa.atRel hF
      u_op Fa.atRel hF
      u_op Fa.atRel hF
      u_op Fa.atRel hF
      u_op Fa.atRel hF
      u_op Fa.atRel hF
      u_op Fa.atRel hF
      u_op Fa.atRel hF
      u_op Fa.atRel hF
      u_op Fa.atRel hF
      u_op Fa.atRel hF
      u_op Fa.atRel hF
      u_op Fa.atRel hF
      u_op Fa.atRel hF
      u_op Fa.atRel hF
      u_op Fa.atRel hF
      u_op Fa.atRel hF
      u_op Fa.atRel hF
      u_op Fa.atRel hF
      u_op Fa.atRel hF
      u_op Fa.atRel hF
      u_c stepG_region_end Fa.atRel hF
      u_c stepG_ret' Fa.atRel hF
      refine Goes.stop (fun w₂ r₂ => ⟨rfl, .bool true, #[], ?_, by simp, rfl, (hF.atRel r₂).below hs⟩)
      simp [G, stepG, unwind, doReturn, results, Frame.at, base, Try.func3, Try.f3, seen, GStep.after]
end

theorem runB (s : Option Addr) (len cap : Nat) (W : World) (hc : Code0 W s len cap) : Ends W (solo (entryB s len cap) W) #[] := by
  rcases Nat.lt_or_ge 1048576 len with hl | hl
  · exact (Stn.first (W.heap.size + 1000) W (entryB s len cap)).ends fun Sh sz h1 _ _ _ w hF => ⟨60, longB hl w h1 hF⟩
  · have h0 := (first_at (W.heap.size + 1000) W (entryB s len cap)).walk (fun g w ⟨e, hF⟩ => ⟨2600, by subst e; exact preB hl (by omega) hc w hF⟩)
    refine (h0.trans (Q' := Ends W) fun mc t h => ?_).ends
    obtain ⟨gs, g, w, sl, q, e, hs, h0, ⟨a, m, ⟨a1, a2, m1, m2⟩, hg, hF⟩, L0, P0⟩ := h
    have hS : Stn (W.heap.size + 1000) W.heap.size W [] (W.heap.size + 1) _ mc t := At.stn (s := gs.size) ⟨gs, g, w, sl, q, e, rfl, h0, ⟨hg, hF⟩, L0, P0⟩ (by omega)
    cases ho : linO a 1 m with
    | false => exact .refl (hS.ends fun Sh sz h1 h2 hc _ w hF => ⟨_, noneB ho h1 (fun a h => (hc a h).2) (by omega) w hF⟩)
    | true =>
      obtain ⟨⟨hna, hmod⟩, hlb⟩ : (numB a = true ∧ modB m = true) ∧ linB a 1 m = true := by
        have h1 : numB 1 = true := by decide
        simpa [linO, h1] using ho
      obtain ⟨k1, _⟩ := modB_iff.1 hmod
      obtain ⟨f1, f2, f3, f4, f5, f6, f7⟩ := back_facts k1 m2 hlb
      have hbv : bakV a m = linX a 1 m := by simp [bakV, ho, selI]
      rw [← hbv] at f1 f2 f3 f4 f5 f7
      have hnx : numB (bakV a m) = true := by simp [numB]; omega
      have ho2 : linO (bakV a m) 1 m = true := by
        have h1 : numB 1 = true := by decide
        simp [linO, h1, hnx, hmod, f3]
      have hbv2 : bakV (bakV a m) m = a % m := by
        rw [← f4]
        show selI (linO (bakV a m) 1 m) (linX (bakV a m) 1 m) = _
        rw [ho2]
        rfl
      obtain ⟨b1, b2⟩ : -1000000 ≤ a ∧ a ≤ 1000000 := by simpa [numB] using hna
      have v1 : ordV a m = ordX a m := by simp [ordV, hna, hmod]
      have v2 : ordB a m = true := by simp [ordB, hna, hmod, f6]
      have v3 : ordV (bakV a m) m = ordX a m := by simp [ordV, hnx, hmod, f5]
      have v4 : ordB (bakV a m) m = true := by rw [f5] at f6; simp [ordB, hnx, hmod, f6]
      refine (hS.walk (hi2 := W.heap.size + 1 + 20) fun Sh sz h1 h2 hc _ _ w hF => ⟨_, goes_mono (fun g' w' hx => ⟨hx.1, by obtain ⟨sz', s1, s2, hF'⟩ := hx.2; exact ⟨sz', s1, by omega, hF'⟩⟩) (midB ho ho2 h1 (fun a h => (hc a h).2) (by omega) w hF)⟩).trans fun mc t h => ?_
      have hO := orderCall a m (by omega) h
      rw [v1, v2] at hO
      refine hO.trans fun mc t h => ?_
      refine (h.walk (hi2 := W.heap.size + 1 + 20 + 20) fun Sh sz h1 h2 hc _ _ w hF => ⟨_, goes_mono (fun g' w' hx => ⟨hx.1, sz, Nat.le_refl _, by omega, hx.2⟩) (mid2B w hF)⟩).trans fun mc t h => ?_
      have hO2 := orderCall (bakV a m) m (by omega) h
      rw [v3, v4] at hO2
      refine hO2.trans fun mc t h => ?_
      exact .refl (h.ends fun Sh sz h1 _ _ _ w hF => ⟨_, endB k1 m2 b1 b2 f1 f2 hbv2 f7 h1 w hF⟩)
end Go.Proofs.Ytfgipjgjehjijaa
