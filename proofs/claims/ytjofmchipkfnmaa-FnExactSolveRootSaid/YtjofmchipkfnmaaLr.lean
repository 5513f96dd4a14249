/- SolveRoot: from its entry to the head of ordersOf's loop (own text). -/
import Derived.Test.YtjofmchipkfnmaaLq
import Derived.Test.YtjofmchipkfnmaaLm
namespace Go.Proofs.Ytjofmchipkfnmaa
open Go Go.Conc Go.ConcN Go.RowKit Go.Conc.Lib Go.ConcR.Gen Go.ConcN.Gen
open Go.ConcR (KK wgBlock WgAt stA smA rd wr mk Payload DC0)

noncomputable def bodyR : Code := Try.f8.body.getD .skip
noncomputable def mainR : Code := cR (cR (cR (cR bodyR)))
noncomputable def opsR : Array Oper := opsOf (cL (cL mainR))
noncomputable def blkR : Code := cR (cL mainR)
noncomputable def restR : Code := cR mainR
/-- SolveRoot's temporaries from its list on. -/
noncomputable def tmR (m : Int) (C : Nat) (v v7 v8 v9 v10 v25 v26 v27 v28 v29 v30 v31 v32 v33 v34 v35 v36 v37 v38 v39 v40 v41 v42 v43 v44 v45 v46 v47 : Value) : Array Value :=
  #[.int .i64 m, undef, .int .i64 0, .bool false, .int .i64 (unQ m), .bool true, v, v7, v8, v9, v10, .tuple #[.int .i64 (unQ m), .bool true], .int .i64 m, .tuple #[.int .i64 (unQ m), .bool true], .int .i64 (unQ m), .bool true, .bool true, .bool false, .agg #[.int .i64 0, .int .i64 1], .int .i64 m, .int .i64 (m + 1),
    .func (.func 32) #[] #[.pointer (some ⟨C, 0, none⟩), .pointer (some ⟨C + 1, 0, none⟩), .pointer (some ⟨C + 1 + 1, 0, none⟩)], v, v, .int .i64 m, v25, v26, v27, v28, v29, v30, v31, v32, v33, v34, v35, v36, v37, v38, v39, v40, v41, v42, v43, v44, v45, v46, v47]
/-- SolveRoot's frame while ordersOf runs. -/
noncomputable def cFR (m : Int) (C : Nat) (v : Value) : Frame := (base 8).at ⟨tmR m C v undef undef undef undef undef undef undef undef undef undef undef undef undef undef undef undef undef undef undef undef undef undef undef undef undef undef undef, []⟩ [.inRegion opsR [2, 3, 4], .code blkR, .code restR]

/-- At the head of ordersOf's loop. -/
def HeadAtR (m : Int) (N : Nat) (W : World) (sz : Nat) (L : List (Nat × Obj)) (cs : List Frame) (g : Goroutine) (w' : World) : Prop :=
  ∃ (v0 cap : Nat) (w1 : World), sz ≤ v0 ∧ Ga N W (sz + 19) (sz + 19 + 2 * m.toNat) L (.slice (some ⟨v0, 0, none⟩) m.toNat cap) (upTo m.toNat) w1 ∧
    g = headO (cFR m (sz + 12) (.slice (some ⟨v0, 0, none⟩) m.toNat cap) :: cs) ⟨v0, 0, none⟩ m.toNat cap w1.heap.size m 0 loopO loopO restO undef undef undef undef undef undef undef undef undef undef undef undef undef ∧
    Fa w1.heap.size w1 (w1.heap.size + 3) [(w1.heap.size + 2, .cells #[.int .u64 0, .int .u32 0] 50), (w1.heap.size + 1, .cells (madeCells #[.chan none] m.toNat) 29), (w1.heap.size, .cells #[.int .i64 m] 3)] w'

section
variable {Sh : Loc → Prop} {B N sz : Nat} {W : World} {L : List (Nat × Obj)} {cs : List Frame}
set_option maxRecDepth 100000 in
set_option maxHeartbeats 8000000 in
theorem preRoot {m : Int} (hm : 1 ≤ m) (hm2 : m ≤ 1000) (hN : N ≤ sz) (hSh : ∀ a : Addr, Sh (.cell a) → a.block < sz) (hSo : ∀ b, sz ≤ b → ¬ Sh (.obj b)) (hB : sz + 4000 < B) (hL : ∀ q ∈ L, q.1 < sz) (w : World) (hF : Fa N W sz L w) :
    Goes Try.prog true AtRel (DE (EvL Sh B)) (HeadAtR m N W sz L cs) ((100 + 10 + 30 + 30 + m.toNat * (40 + 40) + 160 + 30 + 20) + 300 + 30 + 30 + m.toNat * (102100 + 40) + 160 + 3 + 400 + 20)
      (G ((base 8).at ⟨#[.int .i64 m, undef, undef, undef, undef, undef, undef, undef, undef, undef, undef, undef, undef, undef, undef, undef, undef, undef, undef, undef, undef, undef, undef, undef, undef, undef, undef, undef, undef, undef, undef, undef, undef, undef, undef, undef, undef, undef, undef, undef, undef, undef, undef, undef, undef, undef, undef, undef], []⟩ [.code bodyR]) cs) w := by
  have hC := fun a₀' ops₀' i₀' rest₀' k₀' => collectWalk (S := HeadAtR m N W sz L cs) (n := 100) (Sh := Sh) (B := B) (N := N) (sz := sz + 15) (C := sz + 12) (W := W) (L := (sz + 12 + 1 + 1, .cells #[.int .i64 (m + 1)] 3) :: (sz + 12 + 1, .cells #[.int .i64 1] 3) :: (sz + 12, .cells #[.int .i64 0, .int .i64 1] 38) :: L)
    (b₀ := base 8) (a₀ := a₀') (ops₀ := ops₀') (i₀ := i₀') (rest₀ := rest₀') (k₀ := k₀') (cs := cs) hm hm2 (by omega) (fun a h => by have := hSh a h; omega) (fun b hb => hSo b (by omega)) (by omega)
    (fun q hq => by simp only [List.mem_cons] at hq; rcases hq with rfl | rfl | rfl | hq; all_goals first | (show _ < sz + 15; omega) | (have := hL q hq; omega)) (by simp) (by simp) (by simp)
  generalize hKc : 100 + 10 + 30 + 30 + m.toNat * (40 + 40) + 160 + 30 + 20 = Kc at hC ⊢
  have hU := fun a₀' ops₀' i₀' rest₀' k₀' => unitsWalk (S := HeadAtR m N W sz L cs) (n := Kc + 300) (Sh := Sh) (B := B) (N := N) (sz := sz) (W := W) (L := L) (b₀ := base 8) (a₀ := a₀') (ops₀ := ops₀') (i₀ := i₀') (rest₀ := rest₀') (k₀ := k₀') (cs := cs) hm hm2 hN hSh hSo (by omega) hL
  generalize hKu : Kc + 300 + 30 + 30 + m.toNat * (102100 + 40) + 160 + 3 + 400 = Ku at hU ⊢
  have hA := fun n' a₀' ops₀' i₀' rest₀' k₀' => wholeClass01 (S := HeadAtR m N W sz L cs) (n := n') (Sh := Sh) (B := B) (N := N) (sz := sz + 10) (W := W) (L := L) (b₀ := base 8) (a₀ := a₀') (ops₀ := ops₀') (i₀ := i₀') (rest₀ := rest₀') (k₀ := k₀')
    (cs := cs) (by omega) (fun a h => by have := hSh a h; omega) (by omega) (fun q hq => by have := hL q hq; omega)
  have hB2 := fun n' a₀' ops₀' i₀' rest₀' k₀' => numbers01 (S := HeadAtR m N W sz L cs) (n := n') (Sh := Sh) (B := B) (N := N) (sz := sz + 12) (W := W) (L := L) (b₀ := base 8) (a₀ := a₀') (ops₀ := ops₀') (i₀ := i₀') (rest₀ := rest₀') (k₀ := k₀')
    (cs := cs) (m + 1) (by omega)
  have hwr : IntKind.i64.wrap (m + 1) = m + 1 := by rw [IntKind.wrap_i64]; omega
  simp only [bodyU, Try.f16, Try.f18, Try.f19, Try.f17, Option.getD_some] at hU hA hB2 hC
  simp only [bodyR, Try.f8, Option.getD_some]
  u_c stepG_seq Fa.atRel hF
  u_reg Fa.atRel hF
  u_op Fa.atRel hF
  u_op Fa.atRel hF
  u_c stepG_region_end Fa.atRel hF
  u_c stepG_seq Fa.atRel hF
  u_reg Fa.atRel hF
  u_op Fa.atRel hF
  (refine Goes.step rfl (fun _ h₁ => ?_); replace hF := Fa.atRel hF h₁; clear h₁)
  refine goes_call rfl rfl (by k_ne) rfl Try.func16 (by rfl) rfl ⟨by u_nil, ?_⟩
  walk_nrmf Try.f16
  refine goes_more 11 (hU _ _ _ _ _ (fun w' hF => ?_) _ hF)
  clear hU hKu
  walk_nrm
  repeat (first | u_op Fa.atRel hF | u_c stepG_region_end Fa.atRel hF | u_c stepG_seq Fa.atRel hF | u_reg Fa.atRel hF)
  u_cond false Fa.atRel hF
  u_c stepG_skip Fa.atRel hF
  u_c stepG_seq Fa.atRel hF
  u_reg Fa.atRel hF
  (refine Goes.step rfl (fun _ h₁ => ?_); replace hF := Fa.atRel hF h₁; clear h₁)
  refine goes_call rfl rfl (by k_ne) rfl Try.func18 (by rfl) rfl ⟨by u_nil, ?_⟩
  walk_nrmf Try.f18
  refine hA _ _ _ _ _ _ (fun w' hF => ?_) _ hF
  walk_nrm
  u_op Fa.atRel hF
  u_op Fa.atRel hF
  (refine Goes.step rfl (fun _ h₁ => ?_); replace hF := Fa.atRel hF h₁; clear h₁)
  refine goes_call rfl rfl (by k_ne) rfl Try.func19 (by rfl) rfl ⟨by u_nil, ?_⟩
  walk_nrmf Try.f19
  refine hB2 _ _ _ _ _ _ (fun w' hF => ?_) _ hF
  walk_nrm
  (refine Goes.step rfl (fun _ h₁ => ?_); replace hF := Fa.atRel hF h₁; clear h₁)
  refine goes_call rfl rfl (by k_ne) rfl Try.func17 (by rfl) rfl ⟨by u_nil, ?_⟩
  walk_nrmf Try.f17
  refine goes_more _ (hC _ _ _ _ _ (fun v w' hG => ?_) _ hF)
  clear hF hA hB2 hC hKc
  have hn0 : 0 < m.toNat := by omega
  replace hG := hG.weak (L' := L) (fun q hq => by simp [hq])
  obtain ⟨v0, cap, hlo, rfl⟩ : ∃ v0 cap, sz ≤ v0 ∧ v = .slice (some ⟨v0, 0, none⟩) m.toNat cap := by
    rcases hG.own.2 with ⟨_, hz⟩ | ⟨v0, cap, cur, hv, hlo, _⟩
    · rw [upTo_length] at hz; omega
    · rw [upTo_length] at hv
      exact ⟨v0, cap, by omega, hv⟩
  walk_nrm
  u_op Ga.atRel hG
  u_c stepG_region_end Ga.atRel hG
  u_c stepG_seq Ga.atRel hG
  u_c stepG_seq Ga.atRel hG
  u_reg Ga.atRel hG
  u_op Ga.atRel hG
  u_op Ga.atRel hG
  refine Goes.step rfl (fun w₈ r₈ => ?_)
  replace hG := hG.atRel r₈
  clear r₈
  refine goes_call rfl rfl (by k_ne) rfl Try.func12 (by rfl) rfl ⟨by u_nil, ?_⟩
  have hT := toHead (Sh := Sh) (B := B) (cs := cFR m (sz + 12) (.slice (some ⟨v0, 0, none⟩) m.toNat cap) :: cs) ⟨v0, 0, none⟩ m.toNat cap m hn0 (by omega) w₈
  walk_nrmf Try.f12
  refine goes_more (m := 40) 52 (goes_mono (fun g w' h => ?_) hT)
  obtain ⟨rfl, h⟩ := h
  exact ⟨v0, cap, w₈, hlo, hG, rfl, h⟩
end
end Go.Proofs.Ytjofmchipkfnmaa
