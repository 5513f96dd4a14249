/- FnOrder: its run, on whatever tape (own text). -/
import Derived.Test.YtfgipjgjehjijaaLd
import Derived.Test.YtfgipjgjehjijaaLe
import Derived.Test.YtfgipjgjehjijaaOz
import Derived.Test.YtfgipjgjehjijaaMathOr
namespace Go.Proofs.Ytfgipjgjehjijaa
open Go Go.Conc Go.ConcN Go.RowKit Go.Conc.Lib Go.ConcR.Gen Go.ConcN.Gen
open Go.ConcR (KK wgBlock WgAt stA smA rd wr mk Payload DC0)

noncomputable def bodyOL : Code := Try.f4.body.getD .skip
noncomputable def mainOL : Code := cR (cR (cR bodyOL))
noncomputable def opsOL : Array Oper := opsOf (cL mainOL)
noncomputable def kOL : List Item := [.code (cR mainOL)]
/-- The law's frame while SolveOrder runs. -/
noncomputable def actOL (s : Option Addr) (len cap : Nat) (a m : Int) : Act :=
  ⟨#[.slice s len cap, undef, .bool false, .int .i64 a, .int .i64 m, undef, undef, undef, undef, undef, undef, undef, undef, .slice s len cap, .int .i64 len, .bool false, .tuple #[.int .i64 a, .int .i64 m], .slice s len cap, .tuple #[.int .i64 a, .int .i64 m], .int .i64 a, .int .i64 m, undef, .int .i64 a, .int .i64 m, undef, undef, undef, undef, undef, undef, undef, undef, undef, undef, undef, undef, undef, undef, undef, undef, undef, undef, undef, undef, undef, undef, undef, undef, undef, undef, undef, undef, undef, undef, undef, undef, undef, undef, undef, undef, undef, undef, undef, undef, undef, undef, undef, undef, undef, undef, undef, undef, undef, undef, undef, undef, undef, undef, undef, undef, undef], []⟩
noncomputable def entryOL (s : Option Addr) (len cap : Nat) : Goroutine := G ((base 4).at ⟨#[.slice s len cap, undef, undef, undef, undef, undef, undef, undef, undef, undef, undef, undef, undef, undef, undef, undef, undef, undef, undef, undef, undef, undef, undef, undef, undef, undef, undef, undef, undef, undef, undef, undef, undef, undef, undef, undef, undef, undef, undef, undef, undef, undef, undef, undef, undef, undef, undef, undef, undef, undef, undef, undef, undef, undef, undef, undef, undef, undef, undef, undef, undef, undef, undef, undef, undef, undef, undef, undef, undef, undef, undef, undef, undef, undef, undef, undef, undef, undef, undef, undef, undef], []⟩ [.code bodyOL]) []
theorem enterOL_eq (s : Option Addr) (len cap : Nat) : G (Frame.enter Try.prog 4 #[.slice s len cap] .normal) [] = entryOL s len cap := by
  simp [entryOL, Frame.enter, Frame.at, Try.func4, base, bodyOL, Try.f4, Array.replicate_succ]

section
variable {B : Nat} {W : World} {s : Option Addr} {len cap : Nat}
set_option maxRecDepth 100000 in
set_option maxHeartbeats 8000000 in
theorem longOL (hl : 1048576 < len) {N : Nat} {Sh : Loc → Prop} (w : World) (hN : W.heap.size ≤ N) (hF : Fa W.heap.size W N [] w) :
    Goes Try.prog true AtRel (DE (EvL Sh B)) (AtEnd Try.prog Sh B (PostL W)) 60 (entryOL s len cap) w := by
  have hd : decide ((1048576 : Int) < (len : Int)) = true := by simp; omega
  simp only [entryOL, bodyOL, Try.f4, Option.getD_some]
  u_c stepG_seq Fa.atRel hF
  u_reg Fa.atRel hF
  u_op Fa.atRel hF
  u_c stepG_region_end Fa.atRel hF
  u_c stepG_seq Fa.atRel hF
  u_c stepG_seq Fa.atRel hF
  u_reg Fa.atRel hF
  u_op Fa.atRel hF
  u_op Fa.atRel hF
  u_op Fa.atRel hF
  u_c stepG_region_end Fa.atRel hF
  u_cond true Fa.atRel hF
  repeat (first | u_c stepG_seq Fa.atRel hF | u_c stepG_skip Fa.atRel hF | u_c stepG_region_end Fa.atRel hF | u_reg Fa.atRel hF | u_op Fa.atRel hF | u_c stepG_ret' Fa.atRel hF)
  refine Goes.stop (fun w₂ r₂ => ⟨rfl, .bool true, #[], ?_, by simp, rfl, (hF.atRel r₂).below hN⟩)
  simp [G, stepG, unwind, doReturn, results, Frame.at, base, Try.func4, Try.f4, seen, GStep.after]

set_option maxRecDepth 100000 in
set_option maxHeartbeats 8000000 in
theorem preOL (hl : len ≤ 1048576) (hB : W.heap.size < B) (hc : Code0 W s len cap) (w : World) (hF : Fa W.heap.size W W.heap.size [] w) :
    Goes Try.prog true AtRel (DE (EvL (fun _ => False) B)) (fun g' w' => ∃ a m : Int, (-5 ≤ a ∧ a ≤ 2000024 ∧ 0 ≤ m ∧ m ≤ 20) ∧ g' = entO a m ((base 4).at (actOL s len cap a m) (.inRegion opsOL (2 :: [3, 4, 5, 6, 7]) :: kOL) :: []) ∧ Fa W.heap.size W (W.heap.size + 1) [] w') 2600 (entryOL s len cap) w := by
  have hd : decide ((1048576 : Int) < (len : Int)) = false := by simp; omega
  simp only [entryOL, bodyOL, mainOL, entO, actOL, opsOL, kOL, bodyS, cR, cL, opsOf, Try.f4, Option.getD_some]
  refine goes_join (m := 2500) (n := 100) atRel_refl ?_
  u_c stepG_seq Fa.atRel hF
  u_reg Fa.atRel hF
  u_op Fa.atRel hF
  u_c stepG_region_end Fa.atRel hF
  u_c stepG_seq Fa.atRel hF
  u_c stepG_seq Fa.atRel hF
  u_reg Fa.atRel hF
  u_op Fa.atRel hF
  u_op Fa.atRel hF
  u_op Fa.atRel hF
  u_c stepG_region_end Fa.atRel hF
  u_cond false Fa.atRel hF
  u_c stepG_skip Fa.atRel hF
  u_c stepG_seq Fa.atRel hF
  u_reg Fa.atRel hF
  u_op Fa.atRel hF
  refine Goes.stop (fun w₉ r₉ => ?_)
  replace hF := hF.atRel r₉
  clear r₉
  refine Goes.call (m := 97) (nf := 2400) (Post := fun v w' => ∃ a m : Int, -5 ≤ a ∧ a ≤ 2000024 ∧ 0 ≤ m ∧ m ≤ 20 ∧ v = .tuple #[.int .i64 a, .int .i64 m] ∧ Fa W.heap.size W (W.heap.size + 1) [] w') terms_b rfl (by rfl) (by k_ne) rfl ?_ (fun v w₁ hp => ?_)
  · walk_nrm
    exact k_DrawSolveOrder (Nat.le_refl _) hB (by simp) hc.bt hc.lc hc.cm hc.nn _ hF
  obtain ⟨a, m, a1, a2, m1, m2, rfl, hF⟩ := hp
  walk_nrm
  repeat (first | u_c stepG_seq Fa.atRel hF | u_c stepG_region_end Fa.atRel hF | u_reg Fa.atRel hF | u_op Fa.atRel hF)
  u_call Try.func9 (by rfl) Try.f9 Fa.atRel hF
  refine Goes.stop (fun w₂ r₂ => ?_)
  exact ⟨a, m, ⟨a1, a2, m1, m2⟩, rfl, hF.atRel r₂⟩

set_option maxRecDepth 100000 in
set_option maxHeartbeats 16000000 in
theorem endOL {a m : Int} (m2 : m ≤ 20) {Sh : Loc → Prop} {sz : Nat} (hs : W.heap.size ≤ sz) (hSh : ∀ a : Addr, Sh (.cell a) → a.block < sz) (hSo : ∀ b, sz ≤ b → ¬ Sh (.obj b)) (hB : sz + 100 < B) (w : World) (hF : Fa W.heap.size W sz [] w) :
    Goes Try.prog true AtRel (DE (EvL Sh B)) (AtEnd Try.prog Sh B (PostL W)) ((500001300 + 30 + 30 + m.toNat * (102100 + 40) + 160 + 3 + 400) + 200 + 400000 + 3 + 60)
      (retG (base 4) (actOL s len cap a m) opsOL 2 [3, 4, 5, 6, 7] kOL [] (.tuple #[.int .i64 (ordV a m), .bool (ordB a m)])) w := by
  have hU := fun (h1 : 1 ≤ m) (h2 : m ≤ 1000) a₀' ops₀' i₀' rest₀' k₀' => unitsWalk (S := AtEnd Try.prog Sh B (PostL W)) (n := 500001300) (Sh := Sh) (B := B) (N := W.heap.size) (sz := sz) (W := W) (L := []) (b₀ := base 4) (a₀ := a₀') (ops₀ := ops₀') (i₀ := i₀') (rest₀ := rest₀') (k₀ := k₀') (cs := []) h1 h2 hs hSh hSo (by omega) (by simp)
  generalize hKu : 500001300 + 30 + 30 + m.toNat * (102100 + 40) + 160 + 3 + 400 = Ku at hU ⊢
  simp only [bodyU, Try.f12, Option.getD_some] at hU
  simp only [retG, actOL, opsOL, kOL, bodyOL, mainOL, cR, cL, opsOf, Try.f4, Option.getD_some]
  walk_nrm
  refine goes_join (m := Ku + 200 + 400000 + 3) (n := 60) atRel_refl ?_
  repeat (first | u_c stepG_seq Fa.atRel hF | u_c stepG_region_end Fa.atRel hF | u_reg Fa.atRel hF | u_op Fa.atRel hF)
  refine Goes.stop (fun w₉ r₉ => ?_)
  replace hF := hF.atRel r₉
  clear r₉
  refine Goes.call (m := Ku + 200) (nf := 400000) (Post := fun v w' => v = .tuple #[.int .i64 (ordV a m), .bool (ordB a m)] ∧ Since AtRel w₉ w') terms_b rfl (by rfl) (by k_ne) rfl ?_ (fun v w₁ hp => ?_)
  · walk_nrm
    exact k_specOrder terms_b a m _
  obtain ⟨rfl, hsn⟩ := hp
  replace hF := hF.since hsn
  clear hsn
  walk_nrm
  have hfin : ordB a m = true → 1 ≤ m ∧ m ≤ 1000 ∧ (numB a && modB m) = true ∧ ordV a m = ordX a m ∧ ordX a m ≠ 0 := fun h => by
    simp only [ordB, Bool.and_eq_true, decide_eq_true_eq] at h
    obtain ⟨h1, h2⟩ := h
    obtain ⟨h3, h4⟩ := modB_iff.1 h1.2
    exact ⟨h3, h4, by simp [h1.1, h1.2], by simp [ordV, h1.1, h1.2], h2⟩
  cases hob : ordB a m with
  | false =>
    clear hU hfin
    generalize ordV a m = r
    repeat (first | u_c stepG_seq Fa.atRel hF | u_c stepG_region_end Fa.atRel hF | u_reg Fa.atRel hF | u_op Fa.atRel hF)
    u_cond true Fa.atRel hF
    repeat (first | u_c stepG_seq Fa.atRel hF | u_c stepG_region_end Fa.atRel hF | u_reg Fa.atRel hF | u_op Fa.atRel hF | u_c stepG_ret' Fa.atRel hF)
    refine Goes.stop (fun w₂ r₂ => ⟨rfl, .bool true, #[], ?_, by simp, rfl, (hF.atRel r₂).below hs⟩)
    simp [G, stepG, unwind, doReturn, results, Frame.at, base, Try.func4, Try.f4, seen, GStep.after]
  | true =>
    obtain ⟨h1, h2, hnm, hv, h0⟩ := hfin hob
    clear hfin hob
    replace hU := hU h1 h2
    obtain ⟨o1, o2, o3, o4⟩ := ord_facts h1 m2 h0
    rw [hv]
    clear hv
    obtain ⟨u1, _⟩ : 0 ≤ unQ m ∧ unQ m ≤ m.toNat := unK_bd m m.toNat
    generalize ordX a m = k at *
    have e1 : (1 : Int).tmod m = 1 % m := Int.tmod_eq_emod_of_nonneg (by omega)
    have e2 : (unQ m).tmod k = 0 := by rw [Int.tmod_eq_emod_of_nonneg u1]; exact o3
    have hk0 : ¬ k = 0 := by omega
    have hm0 : ¬ m = 0 := by omega
    obtain ⟨b0, b1⟩ := emod_bd 1 m h1
    have e3 : IntKind.i64.wrap (1 % m) = 1 % m := by rw [IntKind.wrap_i64]; omega
    have e4 : IntKind.i64.wrap 0 = 0 := by rw [IntKind.wrap_i64]; omega
    generalize unQ m = q at *
    repeat (first | u_c stepG_seq Fa.atRel hF | u_c stepG_region_end Fa.atRel hF | u_reg Fa.atRel hF | u_op Fa.atRel hF)
    u_cond false Fa.atRel hF
    u_c stepG_skip Fa.atRel hF
    u_c stepG_seq Fa.atRel hF
    u_reg Fa.atRel hF
    u_op Fa.atRel hF
    (refine Goes.step rfl (fun _ h₁ => ?_); replace hF := Fa.atRel hF h₁; clear h₁)
    refine goes_call rfl rfl (by k_ne) rfl Try.func12 (by rfl) rfl ⟨by u_nil, ?_⟩
    walk_nrmf Try.f12
    refine goes_more _ (hU _ _ _ _ _ (fun w' hF => ?_) _ hF)
    clear hU hKu
    walk_nrm
    refine goes_join (m := 500001200) (n := 100) atRel_refl ?_
    repeat (first | u_c stepG_seq Fa.atRel hF | u_c stepG_region_end Fa.atRel hF | u_reg Fa.atRel hF | u_op Fa.atRel hF)
    refine Goes.stop (fun w₉ r₉ => ?_)
    replace hF := hF.atRel r₉
    clear r₉
    refine Goes.call (m := 197) (nf := 500001000) (Post := fun v w' => v = .tuple #[.int .i64 (a ^ k.toNat % m), .bool true] ∧ Since AtRel w₉ w') terms_b rfl (by rfl) (by k_ne) rfl ?_ (fun v w₁ hp => ?_)
    · walk_nrm
      exact k_SolvePower terms_b a k m hnm (by omega) (by omega) _
    obtain ⟨rfl, hsn⟩ := hp
    replace hF := hF.since hsn
    clear hsn
    rw [o4]
    clear o1 o2 o3 o4
    generalize 1 % m = v at *
    walk_nrm
    repeat (first | u_c stepG_seq Fa.atRel hF | u_c stepG_region_end Fa.atRel hF | u_reg Fa.atRel hF | u_op Fa.atRel hF | u_c stepG_ret' Fa.atRel hF)
    refine Goes.stop (fun w₂ r₂ => ⟨rfl, .bool true, #[], ?_, by simp, rfl, (hF.atRel r₂).below (by omega)⟩)
    simp [G, stepG, unwind, doReturn, results, Frame.at, base, Try.func4, Try.f4, seen, GStep.after]
end

theorem runOL (s : Option Addr) (len cap : Nat) (W : World) (hc : Code0 W s len cap) : Ends W (solo (entryOL s len cap) W) #[] := by
  rcases Nat.lt_or_ge 1048576 len with hl | hl
  · exact (Stn.first (W.heap.size + 1000) W (entryOL s len cap)).ends fun Sh sz h1 _ _ _ w hF => ⟨60, longOL hl w h1 hF⟩
  · have h0 := (first_at (W.heap.size + 1000) W (entryOL s len cap)).walk (fun g w ⟨e, hF⟩ => ⟨2600, by subst e; exact preOL hl (by omega) hc w hF⟩)
    refine (h0.trans (Q' := Ends W) fun mc t h => ?_).ends
    obtain ⟨gs, g, w, sl, q, e, hs, h0, ⟨a, m, ⟨a1, a2, m1, m2⟩, hg, hF⟩, L0, P0⟩ := h
    have hS : Stn (W.heap.size + 1000) W.heap.size W [] (W.heap.size + 1) _ mc t := At.stn (s := gs.size) ⟨gs, g, w, sl, q, e, rfl, h0, ⟨hg, hF⟩, L0, P0⟩ (by omega)
    refine (orderCall a m (by omega) hS).trans fun mc t h => .refl (h.ends fun Sh sz h1 h2 hc ho w hF => ⟨_, endOL m2 h1 (fun a h => (hc a h).2) (fun b hb h => by have := (ho b h).2; omega) (by omega) w hF⟩)
end Go.Proofs.Ytfgipjgjehjijaa
