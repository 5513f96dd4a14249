/- FnRoot: its run, on whatever tape (own text). -/
import Derived.Test.YtfgipjgjehjijaaOz
import Derived.Test.YtfgipjgjehjijaaMathRo
namespace Go.Proofs.Ytfgipjgjehjijaa
open Go Go.Conc Go.ConcN Go.RowKit Go.Conc.Lib Go.ConcR.Gen Go.ConcN.Gen
open Go.ConcR (KK wgBlock WgAt stA smA rd wr mk Payload DC0)

noncomputable def bodyJ : Code := Try.f5.body.getD .skip
noncomputable def bJ3 : Code := cR (cR (cR bodyJ))
noncomputable def bJ7 : Code := cR (cR (cR (cR bJ3)))
noncomputable def bJ12 : Code := cR (cR (cR (cR (cR bJ7))))
noncomputable def bJ13 : Code := cR bJ12
noncomputable def bJ14 : Code := cR bJ13
noncomputable def lpJ1 : Code := cR (cR (cL bJ12))
noncomputable def lpJ2 : Code := cR (cR (cL bJ13))
noncomputable def opsJ4 : Array Oper := opsOf (cL bJ3)
noncomputable def kJ4 : List Item := [.code (cR bJ3)]
noncomputable def opsJ9 : Array Oper := opsOf (cL bJ7)
noncomputable def kJ9 : List Item := [.code (cR bJ7)]
/-- The law's frame while SolveRoot runs .. -/
noncomputable def actJ4 (s : Option Addr) (len cap : Nat) (m : Int) : Act := ⟨#[.slice s len cap, undef, .bool false, .int .i64 m, undef, undef, undef, undef, undef, undef, undef, undef, undef, undef, .slice s len cap, .int .i64 len, .bool false, .slice s len cap, .int .i64 m, undef, .int .i64 m, undef, undef, undef, undef, undef, undef, undef, undef, undef, undef, undef, undef, undef, undef, undef, undef, undef, undef, undef, undef, undef, undef, undef, undef, undef, undef, undef, undef, undef, undef, undef, undef, undef, undef, undef, undef, undef, undef, undef, undef, undef, undef, undef, undef, undef, undef, undef, undef, undef, undef, undef, undef, undef, undef, undef, undef, undef, undef, undef, undef, undef, undef, undef, undef, undef, undef, undef, undef, undef, undef, undef, undef, undef, undef, undef, undef, undef, undef, undef, undef, undef, undef, undef, undef, undef, undef, undef, undef, undef, undef, undef, undef, undef, undef, undef, undef, undef, undef], []⟩
/-- .. and while SolveOrder does. -/
noncomputable def actJ9 (s : Option Addr) (len cap : Nat) (m : Int) : Act := ⟨#[.slice s len cap, undef, .bool false, .int .i64 m, .int .i64 (rootR m).1, .bool true, .int .i64 (rootR m).1, .bool true, .int .i64 (unQ m), .bool true, undef, undef, undef, undef, .slice s len cap, .int .i64 len, .bool false, .slice s len cap, .int .i64 m, .tuple #[.int .i64 (rootR m).1, .bool true], .int .i64 m, .tuple #[.int .i64 (rootR m).1, .bool true], .int .i64 (rootR m).1, .bool true, .tuple #[.int .i64 (rootR m).1, .bool true], .int .i64 m, .tuple #[.int .i64 (rootR m).1, .bool true], .int .i64 (rootR m).1, .bool true, .bool true, .bool true, .bool false, .bool false, .int .i64 (rootR m).1, .int .i64 (rootR m).1, .bool false, .bool false, .bool false, .bool true, .bool false, .bool false, undef, undef, undef, undef, undef, undef, undef, undef, .tuple #[.int .i64 (unQ m), .bool true], .int .i64 m, .tuple #[.int .i64 (unQ m), .bool true], .int .i64 (unQ m), .bool true, undef, .int .i64 (rootR m).1, .int .i64 m, undef, undef, undef, undef, undef, undef, undef, undef, undef, undef, undef, undef, undef, undef, undef, undef, undef, undef, undef, undef, undef, undef, undef, undef, undef, undef, undef, undef, undef, undef, undef, undef, undef, undef, undef, undef, undef, undef, undef, undef, undef, undef, undef, undef, undef, undef, undef, undef, undef, undef, undef, undef, undef, undef, undef, undef, undef, undef, undef, undef, undef, undef], []⟩
noncomputable def entryJ (s : Option Addr) (len cap : Nat) : Goroutine := G ((base 5).at ⟨#[.slice s len cap, undef, undef, undef, undef, undef, undef, undef, undef, undef, undef, undef, undef, undef, undef, undef, undef, undef, undef, undef, undef, undef, undef, undef, undef, undef, undef, undef, undef, undef, undef, undef, undef, undef, undef, undef, undef, undef, undef, undef, undef, undef, undef, undef, undef, undef, undef, undef, undef, undef, undef, undef, undef, undef, undef, undef, undef, undef, undef, undef, undef, undef, undef, undef, undef, undef, undef, undef, undef, undef, undef, undef, undef, undef, undef, undef, undef, undef, undef, undef, undef, undef, undef, undef, undef, undef, undef, undef, undef, undef, undef, undef, undef, undef, undef, undef, undef, undef, undef, undef, undef, undef, undef, undef, undef, undef, undef, undef, undef, undef, undef, undef, undef, undef, undef, undef, undef, undef, undef], []⟩ [.code bodyJ]) []
theorem enterJ_eq (s : Option Addr) (len cap : Nat) : G (Frame.enter Try.prog 5 #[.slice s len cap] .normal) [] = entryJ s len cap := by
  simp [entryJ, Frame.enter, Frame.at, Try.func5, base, bodyJ, Try.f5, Array.replicate_succ]

section
variable {B : Nat} {W : World} {s : Option Addr} {len cap : Nat}
set_option maxRecDepth 100000 in
set_option maxHeartbeats 8000000 in
theorem longJ (hl : 1048576 < len) {N : Nat} {Sh : Loc → Prop} (w : World) (hN : W.heap.size ≤ N) (hF : Fa W.heap.size W N [] w) :
    Goes Try.prog true AtRel (DE (EvL Sh B)) (AtEnd Try.prog Sh B (PostL W)) 60 (entryJ s len cap) w := by
  have hd : decide ((1048576 : Int) < (len : Int)) = true := by simp; omega
  simp only [entryJ, bodyJ, Try.f5, Option.getD_some]
  u_c stepG_seq Fa.atRel hF
  u_reg Fa.atRel hF
  u_op Fa.atRel hF
  u_c stepG_region_end Fa.atRel hF
  u_c stepG_seq Fa.atRel hF
  u_c stepG_seq Fa.atRel hF
  u_reg Fa.atRel hF
  u_op Fa.atRel hF
  u_op Fa.atRel hF
  u_op Fa.atRel hF
  u_c stepG_region_end Fa.atRel hF
  u_cond true Fa.atRel hF
  repeat (first | u_c stepG_seq Fa.atRel hF | u_c stepG_skip Fa.atRel hF | u_c stepG_region_end Fa.atRel hF | u_reg Fa.atRel hF | u_op Fa.atRel hF | u_c stepG_ret' Fa.atRel hF)
  refine Goes.stop (fun w₂ r₂ => ⟨rfl, .bool true, #[], ?_, by simp, rfl, (hF.atRel r₂).below hN⟩)
  simp [G, stepG, unwind, doReturn, results, Frame.at, base, Try.func5, Try.f5, seen, GStep.after]

set_option maxRecDepth 100000 in
set_option maxHeartbeats 8000000 in
theorem preJ (hl : len ≤ 1048576) (hB : W.heap.size < B) (hc : Code0 W s len cap) (w : World) (hF : Fa W.heap.size W W.heap.size [] w) :
    Goes Try.prog true AtRel (DE (EvL (fun _ => False) B)) (fun g' w' => ∃ m : Int, (0 ≤ m ∧ m < 50) ∧ g' = entR m ((base 5).at (actJ4 s len cap m) (.inRegion opsJ4 (1 :: [2, 3, 4, 5, 6]) :: kJ4) :: []) ∧ Fa W.heap.size W (W.heap.size + 1) [] w') 900 (entryJ s len cap) w := by
  have hd : decide ((1048576 : Int) < (len : Int)) = false := by simp; omega
  simp only [entryJ, bodyJ, bJ3, entR, actJ4, opsJ4, kJ4, bodyR, cR, cL, opsOf, Try.f5, Option.getD_some]
  refine goes_join (m := 800) (n := 100) atRel_refl ?_
  u_c stepG_seq Fa.atRel hF
  u_reg Fa.atRel hF
  u_op Fa.atRel hF
  u_c stepG_region_end Fa.atRel hF
  u_c stepG_seq Fa.atRel hF
  u_c stepG_seq Fa.atRel hF
  u_reg Fa.atRel hF
  u_op Fa.atRel hF
  u_op Fa.atRel hF
  u_op Fa.atRel hF
  u_c stepG_region_end Fa.atRel hF
  u_cond false Fa.atRel hF
  u_c stepG_skip Fa.atRel hF
  u_c stepG_seq Fa.atRel hF
  u_reg Fa.atRel hF
  u_op Fa.atRel hF
  refine Goes.stop (fun w₉ r₉ => ?_)
  replace hF := hF.atRel r₉
  clear r₉
  refine Goes.call (m := 197) (nf := 600) (Post := fun v w' => ∃ m : Int, 0 ≤ m ∧ m < 50 ∧ v = .int .i64 m ∧ Fa W.heap.size W (W.heap.size + 1) [] w') terms_b rfl (by rfl) (by k_ne) rfl ?_ (fun v w₁ hp => ?_)
  · walk_nrm
    exact k_DrawSolveRoot (Nat.le_refl _) hB (by simp) hc.bt hc.lc hc.cm hc.nn _ hF
  obtain ⟨m, m1, m2, rfl, hF⟩ := hp
  walk_nrm
  repeat (first | u_c stepG_seq Fa.atRel hF | u_c stepG_region_end Fa.atRel hF | u_reg Fa.atRel hF | u_op Fa.atRel hF)
  u_call Try.func15 (by rfl) Try.f15 Fa.atRel hF
  refine Goes.stop (fun w₂ r₂ => ?_)
  exact ⟨m, ⟨m1, m2⟩, rfl, hF.atRel r₂⟩

set_option maxRecDepth 100000 in
set_option maxHeartbeats 16000000 in
/-- There is no root. -/
theorem noneJ {m : Int} (hr : (rootR m).2 = false) {Sh : Loc → Prop} {sz : Nat} (hs : W.heap.size ≤ sz) (w : World) (hF : Fa W.heap.size W sz [] w) :
    Goes Try.prog true AtRel (DE (EvL Sh B)) (AtEnd Try.prog Sh B (PostL W)) (100 + 600000000 + 3 + 60)
      (retG (base 5) (actJ4 s len cap m) opsJ4 1 [2, 3, 4, 5, 6] kJ4 [] (.tuple #[.int .i64 (rootR m).1, .bool (rootR m).2])) w := by
  simp only [retG, actJ4, opsJ4, kJ4, bodyJ, bJ3, cR, cL, opsOf, Try.f5, Option.getD_some]
  walk_nrm
  refine goes_join (m := 100 + 600000000 + 3) (n := 60) atRel_refl ?_
  repeat (first | u_c stepG_seq Fa.atRel hF | u_c stepG_region_end Fa.atRel hF | u_reg Fa.atRel hF | u_op Fa.atRel hF)
  refine Goes.stop (fun w₉ r₉ => ?_)
  replace hF := hF.atRel r₉
  clear r₉
  refine Goes.call (m := 100) (nf := 600000000) (Post := fun v w' => v = .tuple #[.int .i64 (rootR m).1, .bool (rootR m).2] ∧ Since AtRel w₉ w') terms_b rfl (by rfl) (by k_ne) rfl ?_ (fun v w₁ hp => ?_)
  · walk_nrm
    exact k_specRoot terms_b m _
  obtain ⟨rfl, hsn⟩ := hp
  replace hF := hF.since hsn
  clear hsn
  rw [hr]
  clear hr
  generalize (rootR m).1 = r
  walk_nrm
  repeat (first | u_c stepG_seq Fa.atRel hF | u_c stepG_region_end Fa.atRel hF | u_reg Fa.atRel hF | u_op Fa.atRel hF)
  u_cond true Fa.atRel hF
  repeat (first | u_c stepG_seq Fa.atRel hF | u_c stepG_region_end Fa.atRel hF | u_reg Fa.atRel hF | u_op Fa.atRel hF | u_c stepG_ret' Fa.atRel hF)
  refine Goes.stop (fun w₂ r₂ => ⟨rfl, .bool true, #[], ?_, by simp, rfl, (hF.atRel r₂).below hs⟩)
  simp [G, stepG, unwind, doReturn, results, Frame.at, base, Try.func5, Try.f5, seen, GStep.after]

set_option maxRecDepth 100000 in
set_option maxHeartbeats 16000000 in
/-- There is one: on to its order. -/
theorem midJ {m : Int} (h1 : 1 ≤ m) (h2 : m ≤ 1000) (hr : (rootR m).2 = true) {Sh : Loc → Prop} {sz : Nat} (hs : W.heap.size ≤ sz) (hSh : ∀ a : Addr, Sh (.cell a) → a.block < sz) (hSo : ∀ b, sz ≤ b → ¬ Sh (.obj b)) (hB : sz + 100 < B) (w : World) (hF : Fa W.heap.size W sz [] w) :
    Goes Try.prog true AtRel (DE (EvL Sh B)) (fun g' w' => g' = entO (rootR m).1 m ((base 5).at (actJ9 s len cap m) (.inRegion opsJ9 (2 :: [3, 4, 5, 6, 7]) :: kJ9) :: []) ∧ Fa W.heap.size W (sz + 10) [] w') ((60 + 30 + 30 + m.toNat * (102100 + 40) + 160 + 3 + 400) + 100 + 600000000 + 3 + 60)
      (retG (base 5) (actJ4 s len cap m) opsJ4 1 [2, 3, 4, 5, 6] kJ4 [] (.tuple #[.int .i64 (rootR m).1, .bool (rootR m).2])) w := by
  have hU := fun a₀' ops₀' i₀' rest₀' k₀' => unitsWalk (S := fun g' w' => g' = entO (rootR m).1 m ((base 5).at (actJ9 s len cap m) (.inRegion opsJ9 (2 :: [3, 4, 5, 6, 7]) :: kJ9) :: []) ∧ Fa W.heap.size W (sz + 10) [] w') (n := 60) (Sh := Sh) (B := B) (N := W.heap.size) (sz := sz) (W := W) (L := []) (b₀ := base 5) (a₀ := a₀') (ops₀ := ops₀') (i₀ := i₀') (rest₀ := rest₀') (k₀ := k₀') (cs := []) h1 h2 hs hSh hSo (by omega) (by simp)
  generalize hKu : 60 + 30 + 30 + m.toNat * (102100 + 40) + 160 + 3 + 400 = Ku at hU ⊢
  simp only [bodyU, Try.f12, entO, actJ9, opsJ9, kJ9, bodyJ, bJ3, bJ7, bodyS, cR, cL, opsOf, Try.f5, Option.getD_some] at hU
  simp only [retG, actJ4, opsJ4, kJ4, entO, actJ9, opsJ9, kJ9, bodyJ, bJ3, bJ7, bodyS, cR, cL, opsOf, Try.f5, Option.getD_some]
  walk_nrm
  refine goes_join (m := Ku + 100 + 600000000 + 3) (n := 60) atRel_refl ?_
  repeat (first | u_c stepG_seq Fa.atRel hF | u_c stepG_region_end Fa.atRel hF | u_reg Fa.atRel hF | u_op Fa.atRel hF)
  refine Goes.stop (fun w₉ r₉ => ?_)
  replace hF := hF.atRel r₉
  clear r₉
  refine Goes.call (m := Ku + 100) (nf := 600000000) (Post := fun v w' => v = .tuple #[.int .i64 (rootR m).1, .bool (rootR m).2] ∧ Since AtRel w₉ w') terms_b rfl (by rfl) (by k_ne) rfl ?_ (fun v w₁ hp => ?_)
  · walk_nrm
    exact k_specRoot terms_b m _
  obtain ⟨rfl, hsn⟩ := hp
  replace hF := hF.since hsn
  clear hsn
  rw [hr]
  generalize (rootR m).1 = r at *
  walk_nrm
  repeat (first | u_c stepG_seq Fa.atRel hF | u_c stepG_region_end Fa.atRel hF | u_reg Fa.atRel hF | u_op Fa.atRel hF)
  u_cond false Fa.atRel hF
  u_c stepG_skip Fa.atRel hF
  u_c stepG_seq Fa.atRel hF
  u_reg Fa.atRel hF
  u_op Fa.atRel hF
  (refine Goes.step rfl (fun _ h₁ => ?_); replace hF := Fa.atRel hF h₁; clear h₁)
  refine goes_call rfl rfl (by k_ne) rfl Try.func12 (by rfl) rfl ⟨by u_nil, ?_⟩
  walk_nrmf Try.f12
  refine goes_more _ (hU _ _ _ _ _ (fun w' hF => ?_) _ hF)
  clear hU hKu
  walk_nrm
  repeat (first | u_c stepG_seq Fa.atRel hF | u_c stepG_region_end Fa.atRel hF | u_reg Fa.atRel hF | u_op Fa.atRel hF)
  u_call Try.func9 (by rfl) Try.f9 Fa.atRel hF
  refine Goes.stop (fun w₂ r₂ => ?_)
  exact ⟨rfl, hF.atRel r₂⟩
end
end Go.Proofs.Ytfgipjgjehjijaa
