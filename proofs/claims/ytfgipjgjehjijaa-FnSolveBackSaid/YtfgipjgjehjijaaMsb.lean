/- SolveLine and SolveBack of the program beside others (own text). -/
import Derived.Test.YtfgipjgjehjijaaLx
import Derived.Test.YtfgipjgjehjijaaMathY
namespace Go.Proofs.Ytfgipjgjehjijaa
open Go Go.Conc Go.ConcN Go.RowKit Go.Conc.Lib Go.ConcR.Gen Go.ConcN.Gen
open Go.ConcR (KK wgBlock WgAt stA smA rd wr mk Payload DC0)

noncomputable def bodyN : Code := Try.f18.body.getD .skip
noncomputable def bN4 : Code := cR (cR (cR (cR bodyN)))
noncomputable def lpN : Code := cR (cR (cR (cL bN4)))
noncomputable def rsN : Code := cR bN4
/-- What SolveLine(a, 1, m) answers at a line. -/
def linV (a m : Int) : Value := .tuple #[.agg #[.int .i64 (selI (linB a 1 m) (linX a 1 m)), .int .i64 (selI (linB a 1 m) (linN a m))], .bool (linB a 1 m)]
theorem ev_own {Sh : Loc → Prop} {B sz : Nat} (hSh : ∀ a : Addr, Sh (.cell a) → a.block < sz) (hB : sz < B) (o : Nat) (wr : Bool) : EvL Sh B ⟨.cell ⟨sz, o, none⟩, wr, false⟩ := evL_cell _ _ (fun h => by have := hSh _ h; simp at this) hB

section
variable {Sh : Loc → Prop} {B N sz : Nat} {W : World} {L : List (Nat × Obj)} {b₀ : Frame} {a₀ : Act} {ops₀ : Array Oper} {i₀ : Nat} {rest₀ : List Nat} {k₀ : List Item} {cs : List Frame}
set_option maxRecDepth 100000 in
set_option maxHeartbeats 16000000 in
/-- Its search. -/
theorem lineLoop {S : Goroutine → World → Prop} {n : Nat} {a m : Int} (m1 : 1 ≤ m) (m2 : m ≤ 1000) (hN : N ≤ sz) (hSh : ∀ a : Addr, Sh (.cell a) → a.block < sz) (hB : sz + 1 < B) (hL : ∀ q ∈ L, q.1 < sz)
    (next : ∀ w', Fa N W (sz + 1) L w' → Goes Try.prog true AtRel (DE (EvL Sh B)) S n (G (b₀.at (a₀.put ((ops₀[i₀]?).bind (·.dst)) (linV a m)) (.inRegion ops₀ rest₀ :: k₀)) cs) w') :
    ∀ (r : Nat) (X : Nat), ((X : Nat) : Int) + r = linN a m → (fndB (linP a 1 m) r X = linB a 1 m ∧ fndX (linP a 1 m) r X = linX a 1 m) → ∀ (x0 x3 x4 x5 x10 x11 x12 x13 x14 x15 x16 x17 x18 x19 x20 x21 x22 x23 x24 x25 x26 x27 x28 x31 x32 x33 x34 x35 x36 x37 x38 x39 x40 x41 x42 x43 x44 x45 : Value) (w : World), Fa N W (sz + 1) ((sz, .cells #[.int .i64 0, .int .i64 0] 32) :: L) w →
      Goes Try.prog true AtRel (DE (EvL Sh B)) S (n + 60 + 200 * r) (G ((base 18).at ⟨#[x0, .int .i64 1, .int .i64 m, x3, x4, x5, .pointer (some ⟨sz, 0, none⟩), .bool false, .int .i64 (a % m), .int .i64 (linN a m), x10, x11, x12, x13, x14, x15, x16, x17, x18, x19, x20, x21, x22, x23, x24, x25, x26, x27, x28, .int .i64 (linN a m), .int .i64 X, x31, x32, x33, x34, x35, x36, x37, x38, x39, x40, x41, x42, x43, x44, x45], []⟩ [.code lpN, .inLoop lpN, .inBlock 0, .code rsN]) (b₀.at a₀ (.inRegion ops₀ (i₀ :: rest₀) :: k₀) :: cs)) w := by
  have hne : ∀ q ∈ L, q.1 ≠ sz := fun q hq => by have := hL q hq; omega
  have ev := ev_own hSh (show sz < B by omega)
  obtain ⟨c0, c1, g1, g2, n1, n2⟩ := lin_bd (a := a) m1
  intro r
  induction r with
  | zero =>
    intro X hX hfn x0 x3 x4 x5 x10 x11 x12 x13 x14 x15 x16 x17 x18 x19 x20 x21 x22 x23 x24 x25 x26 x27 x28 x31 x32 x33 x34 x35 x36 x37 x38 x39 x40 x41 x42 x43 x44 x45 w hF
    have hlB := lin_end hfn
    have hlt : decide ((X : Int) < linN a m) = false := by simp; omega
    simp only [linV, hlB, selI_f] at next
    have hV := fun w' hF' => next w' hF'
    clear next hfn
    simp only [lpN, rsN, bN4, bodyN, cR, cL, Try.f18, Option.getD_some]
    u_c stepG_seq Fa.atRel hF
    u_reg Fa.atRel hF
    u_op Fa.atRel hF
    u_c stepG_region_end Fa.atRel hF
    u_c stepG_seq Fa.atRel hF
    u_cond false Fa.atRel hF
    u_exit Fa.atRel hF
    u_c stepG_seq Fa.atRel hF
    u_reg Fa.atRel hF
    u_op Fa.atRel hF
    ((refine Goes.step rfl (fun _ h₁ => ?_); replace hF := Fa.atRel hF h₁; clear h₁)
     have hz0 := Fa.thaw hF (k := 0) (List.mem_cons_self ..)
     have hz1 := Fa.thaw hF (k := 1) (List.mem_cons_self ..)
     have hc0 := Fa.cellOf hF (k := 0) (List.mem_cons_self ..) rfl
     have hc1 := Fa.cellOf hF (k := 1) (List.mem_cons_self ..) rfl
     refine goes_oper_k rfl rfl (by k_ne) (fun K hK => ?_)
     go_simp
     refine hK _ _ ⟨fun e he => ?_, ?_⟩
     · have hm := mem_listed he
       simp [go_sem, *] at hm
       rcases hm with hm | hm <;> (subst hm; exact ev _ _)
     clear hK K hc0 hc1 hz0 hz1
     replace hF := (Fa.set hF (k := 0) (v := .int .i64 0) hN hne).set (k := 1) (v := .int .i64 0) hN hne)
    have e0 : ((#[Value.int .i64 0, Value.int .i64 0].setIfInBounds 0 (.int .i64 0)).setIfInBounds 1 (.int .i64 0)) = #[.int .i64 0, .int .i64 0] := by simp
    rw [e0] at hF
    clear e0
    u_op Fa.atRel hF
    u_c stepG_region_end Fa.atRel hF
    u_c stepG_ret' Fa.atRel hF
    (refine Goes.step rfl (fun _ h₁ => ?_); replace hF := Fa.atRel hF h₁; clear h₁)
    have hc0 := hF.cellOf (k := 0) (List.mem_cons_self ..) rfl
    have hc1 := hF.cellOf (k := 1) (List.mem_cons_self ..) rfl
    rw [sG_leave (v := .tuple #[.agg #[.int .i64 0, .int .i64 0], .bool false]) rfl rfl Try.func18 (by simp [results, Try.f18, go_sem, *]), Frame.finish_at]
    simp only [goes_go]
    refine ⟨fun e he => ?_, ?_⟩
    · have hq : (Try.prog.funcs[(base 18).fn]?).any (·.norace) = false := by kernel_rfl
      simp only [seen, hq] at he
      simp [results, Try.f18, go_sem, hc0, hc1] at he
      rcases he with rfl | rfl <;> exact ev _ _
    · exact (hV _ (hF.weak fun q hq => List.mem_cons_of_mem _ hq)).mono (by omega)
  | succ r ih =>
    intro X hX hfn x0 x3 x4 x5 x10 x11 x12 x13 x14 x15 x16 x17 x18 x19 x20 x21 x22 x23 x24 x25 x26 x27 x28 x31 x32 x33 x34 x35 x36 x37 x38 x39 x40 x41 x42 x43 x44 x45 w hF
    have hlt : decide ((X : Int) < linN a m) = true := by simp; omega
    obtain ⟨p0, p1⟩ := lin_wrap (x := (X : Int)) m2 c0 c1 (by omega) (by omega)
    obtain ⟨hy, hn⟩ := lin_go hfn (by omega)
    have w1 : IntKind.i64.wrap (a % m * (X : Int)) = a % m * (X : Int) := by rw [IntKind.wrap_i64]; omega
    have w2 : IntKind.i64.wrap (a % m * (X : Int) - 1) = a % m * (X : Int) - 1 := by rw [IntKind.wrap_i64]; omega
    have w3 : IntKind.i64.wrap ((X : Int) + 1) = ((X + 1 : Nat) : Int) := by rw [IntKind.wrap_i64]; omega
    have hI := fun hh => ih (X + 1) (by omega) hh
    clear ih hfn
    have eM : n + 60 + 200 * (r + 1) = n + 60 + 200 * r + 200 := by omega
    rw [eM]
    clear eM
    generalize hM : n + 60 + 200 * r = M at *
    simp only [lpN, rsN, bN4, bodyN, cR, cL, Try.f18, Option.getD_some] at hI ⊢
    u_c stepG_seq Fa.atRel hF
    u_reg Fa.atRel hF
    u_op Fa.atRel hF
    u_c stepG_region_end Fa.atRel hF
    u_c stepG_seq Fa.atRel hF
    u_cond true Fa.atRel hF
    u_c stepG_skip Fa.atRel hF
    u_c stepG_seq Fa.atRel hF
    u_c stepG_block Fa.atRel hF
    u_c stepG_seq Fa.atRel hF
    u_reg Fa.atRel hF
    u_op Fa.atRel hF
    u_op Fa.atRel hF
    u_c stepG_region_end Fa.atRel hF
    u_c stepG_seq Fa.atRel hF
    u_reg Fa.atRel hF
    u_op Fa.atRel hF
    u_op Fa.atRel hF
    u_op Fa.atRel hF
    u_op Fa.atRel hF
    u_op Fa.atRel hF
    u_op Fa.atRel hF
    rename_i w₉
    refine Goes.call (m := M + 115) (nf := 60) (Post := fun v w' => v = .int .i64 ((a % m * (X : Int) - 1) % m) ∧ Since AtRel w₉ w') terms_b rfl (by rfl) (by k_ne) rfl ?_ (fun v w₁ hp => ?_)
    · walk_nrm
      exact k_restOf terms_b _ m m1 m2 _
    obtain ⟨rfl, hs⟩ := hp
    replace hF := hF.since hs
    clear hs
    cases he : linP a 1 m X with
    | false =>
      have he' : ((a % m * (X : Int) - 1) % m == 0) = false := he
      have hI := hI (by have := hn he; simpa using this)
      clear hn hy next
      generalize (a % m * (X : Int) - 1) % m = R0 at *
      walk_nrm
      u_op Fa.atRel hF
      u_c stepG_region_end Fa.atRel hF
      u_cond false Fa.atRel hF
      u_c stepG_skip Fa.atRel hF
      u_c stepG_inBlock Fa.atRel hF
      u_reg Fa.atRel hF
      u_op Fa.atRel hF
      u_op Fa.atRel hF
      u_c stepG_region_end Fa.atRel hF
      u_c stepG_inLoop Fa.atRel hF
      exact goes_more _ (hI _ _ _ _ _ _ _ _ _ _ _ _ _ _ _ _ _ _ _ _ _ _ _ _ _ _ _ _ _ _ _ _ _ _ _ _ _ _ _ hF)
    | true =>
      have he' : ((a % m * (X : Int) - 1) % m == 0) = true := he
      obtain ⟨hB1, hX1⟩ := hy he
      simp only [linV, hB1, hX1, selI_t] at next
      have hV := fun w' hF' => next w' hF'
      clear hn hy next hI
      generalize (a % m * (X : Int) - 1) % m = R0 at *
      generalize linN a m = Z at *
      walk_nrm
      u_op Fa.atRel hF
      u_c stepG_region_end Fa.atRel hF
      u_cond true Fa.atRel hF
      u_c stepG_seq Fa.atRel hF
      u_reg Fa.atRel hF
      u_op Fa.atRel hF
      u_op Fa.atRel hF
      u_op Fa.atRel hF
      ((refine Goes.step rfl (fun _ h₁ => ?_); replace hF := Fa.atRel hF h₁; clear h₁)
       have hz0 := Fa.thaw hF (k := 0) (List.mem_cons_self ..)
       have hz1 := Fa.thaw hF (k := 1) (List.mem_cons_self ..)
       have hc0 := Fa.cellOf hF (k := 0) (List.mem_cons_self ..) rfl
       have hc1 := Fa.cellOf hF (k := 1) (List.mem_cons_self ..) rfl
       refine goes_oper_k rfl rfl (by k_ne) (fun K hK => ?_)
       go_simp
       refine hK _ _ ⟨fun e he => ?_, ?_⟩
       · have hm := mem_listed he
         simp [go_sem, *] at hm
         rcases hm with hm | hm <;> (subst hm; exact ev _ _)
       clear hK K hc0 hc1 hz0 hz1
       replace hF := (Fa.set hF (k := 0) (v := .int .i64 (X : Int)) hN hne).set (k := 1) (v := .int .i64 Z) hN hne)
      have e0 : ((#[Value.int .i64 0, Value.int .i64 0].setIfInBounds 0 (.int .i64 (X : Int))).setIfInBounds 1 (.int .i64 Z)) = #[.int .i64 (X : Int), .int .i64 Z] := by simp
      rw [e0] at hF
      clear e0
      u_op Fa.atRel hF
      u_c stepG_region_end Fa.atRel hF
      u_c stepG_ret' Fa.atRel hF
      (refine Goes.step rfl (fun _ h₁ => ?_); replace hF := Fa.atRel hF h₁; clear h₁)
      have hc0 := hF.cellOf (k := 0) (List.mem_cons_self ..) rfl
      have hc1 := hF.cellOf (k := 1) (List.mem_cons_self ..) rfl
      rw [sG_leave (v := .tuple #[.agg #[.int .i64 (X : Int), .int .i64 Z], .bool true]) rfl rfl Try.func18 (by simp [results, Try.f18, go_sem, *]), Frame.finish_at]
      simp only [goes_go]
      refine ⟨fun e he => ?_, ?_⟩
      · have hq : (Try.prog.funcs[(base 18).fn]?).any (·.norace) = false := by kernel_rfl
        simp only [seen, hq] at he
        simp [results, Try.f18, go_sem, hc0, hc1] at he
        rcases he with rfl | rfl <;> exact ev _ _
      · exact (hV _ (hF.weak fun q hq => List.mem_cons_of_mem _ hq)).mono (by omega)

set_option maxRecDepth 100000 in
set_option maxHeartbeats 16000000 in
/-- SolveLine(a, 1, m), of a line. -/
theorem lineWalk {S : Goroutine → World → Prop} {n : Nat} {a m : Int} (hnm : (numB a && modB m) = true) (m1 : 1 ≤ m) (m2 : m ≤ 1000) (hN : N ≤ sz) (hSh : ∀ a : Addr, Sh (.cell a) → a.block < sz) (hB : sz + 1 < B) (hL : ∀ q ∈ L, q.1 < sz)
    (next : ∀ w', Fa N W (sz + 1) L w' → Goes Try.prog true AtRel (DE (EvL Sh B)) S n (G (b₀.at (a₀.put ((ops₀[i₀]?).bind (·.dst)) (linV a m)) (.inRegion ops₀ rest₀ :: k₀)) cs) w') (w : World) (hF : Fa N W sz L w) :
    Goes Try.prog true AtRel (DE (EvL Sh B)) S (n + 60 + 200 * (linN a m).toNat + 103000) (G ((base 18).at ⟨#[.int .i64 a, .int .i64 1, .int .i64 m, undef, undef, undef, undef, undef, undef, undef, undef, undef, undef, undef, undef, undef, undef, undef, undef, undef, undef, undef, undef, undef, undef, undef, undef, undef, undef, undef, undef, undef, undef, undef, undef, undef, undef, undef, undef, undef, undef, undef, undef, undef, undef, undef], []⟩ [.code bodyN]) (b₀.at a₀ (.inRegion ops₀ (i₀ :: rest₀) :: k₀) :: cs)) w := by
  obtain ⟨c0, c1, g1, g2, n1, n2⟩ := lin_bd (a := a) m1
  have hl := lineLoop (b₀ := b₀) (a₀ := a₀) (ops₀ := ops₀) (i₀ := i₀) (rest₀ := rest₀) (k₀ := k₀) (cs := cs) m1 m2 hN hSh hB hL next (linN a m).toNat 0 (by omega) ⟨rfl, rfl⟩
  generalize hM : n + 60 + 200 * (linN a m).toNat = M at hl ⊢
  have hb1 : numB 1 = true := by decide
  have hg0 : ¬ gcdI (a % m) m = 0 := by omega
  have hq : m.tdiv (gcdI (a % m) m) = linN a m := Int.tdiv_eq_ediv_of_nonneg (by omega)
  have hwq : IntKind.i64.wrap (linN a m) = linN a m := by rw [IntKind.wrap_i64]; omega
  simp only [lpN, rsN, bN4, bodyN, cR, cL, Try.f18, Option.getD_some] at hl ⊢
  refine goes_join (m := M + 102900) (n := 100) atRel_refl ?_
  u_c stepG_seq Fa.atRel hF
  u_reg Fa.atRel hF
  ((refine Goes.step rfl (fun _ h₁ => ?_); replace hF := Fa.atRel hF h₁; clear h₁)
   have hs := Fa.size hF
   refine goes_oper_k rfl rfl (by k_ne) (fun K hK => ?_)
   go_simp
   refine hK _ _ ⟨fun e he => ?_, ?_⟩
   · have hm := mem_listed he
     simp [go_sem, *] at hm
   clear hK K
   replace hF := Fa.alloc hF (by omega) (.cells #[.int .i64 0, .int .i64 0] 32)
   clear hs)
  repeat (first | u_c stepG_seq Fa.atRel hF | u_c stepG_region_end Fa.atRel hF | u_reg Fa.atRel hF | u_op Fa.atRel hF)
  refine Goes.stop (fun w₉ r₉ => ?_)
  replace hF := hF.atRel r₉
  clear r₉
  refine Goes.call (m := M + 102697) (nf := 200) (Post := fun v w' => v = .bool (numB a && modB m) ∧ Since AtRel w₉ w') terms_b rfl (by rfl) (by k_ne) rfl ?_ (fun v w₁ hp => ?_)
  · walk_nrm
    exact k_inLine terms_b a m _
  obtain ⟨rfl, hs⟩ := hp
  replace hF := hF.since hs
  clear hs
  rw [hnm]
  walk_nrm
  refine goes_join (m := M + 102667) (n := 30) atRel_refl ?_
  repeat (first | u_c stepG_seq Fa.atRel hF | u_c stepG_region_end Fa.atRel hF | u_reg Fa.atRel hF | u_op Fa.atRel hF)
  refine Goes.stop (fun w₉ r₉ => ?_)
  replace hF := hF.atRel r₉
  clear r₉
  refine Goes.call (m := M + 102624) (nf := 40) (Post := fun v w' => v = .bool (numB 1) ∧ Since AtRel w₉ w') terms_b rfl (by rfl) (by k_ne) rfl ?_ (fun v w₁ hp => ?_)
  · walk_nrm
    exact k_inNumbers terms_b 1 _
  obtain ⟨rfl, hs⟩ := hp
  replace hF := hF.since hs
  clear hs
  rw [hb1]
  walk_nrm
  refine goes_join (m := M + 102594) (n := 30) atRel_refl ?_
  repeat (first | u_c stepG_seq Fa.atRel hF | u_c stepG_region_end Fa.atRel hF | u_reg Fa.atRel hF | u_op Fa.atRel hF)
  u_cond false Fa.atRel hF
  u_c stepG_skip Fa.atRel hF
  repeat (first | u_c stepG_seq Fa.atRel hF | u_c stepG_region_end Fa.atRel hF | u_reg Fa.atRel hF | u_op Fa.atRel hF)
  refine Goes.stop (fun w₉ r₉ => ?_)
  replace hF := hF.atRel r₉
  clear r₉
  refine Goes.call (m := M + 102531) (nf := 60) (Post := fun v w' => v = .int .i64 (a % m) ∧ Since AtRel w₉ w') terms_b rfl (by rfl) (by k_ne) rfl ?_ (fun v w₁ hp => ?_)
  · walk_nrm
    exact k_restOf terms_b a m m1 m2 _
  obtain ⟨rfl, hs⟩ := hp
  replace hF := hF.since hs
  clear hs
  walk_nrm
  refine goes_join (m := M + 102501) (n := 30) atRel_refl ?_
  repeat (first | u_c stepG_seq Fa.atRel hF | u_c stepG_region_end Fa.atRel hF | u_reg Fa.atRel hF | u_op Fa.atRel hF)
  refine Goes.stop (fun w₉ r₉ => ?_)
  replace hF := hF.atRel r₉
  clear r₉
  refine Goes.call (m := M + 498) (nf := 102000) (Post := fun v w' => v = .int .i64 (gcdI (a % m) m) ∧ Since AtRel w₉ w') terms_b rfl (by rfl) (by k_ne) rfl ?_ (fun v w₁ hp => ?_)
  · walk_nrm
    exact k_commonDivisor (a % m) m c0 (by omega) (by omega) m2 _
  obtain ⟨rfl, hs⟩ := hp
  replace hF := hF.since hs
  clear hs
  walk_nrm
  repeat (first | u_c stepG_seq Fa.atRel hF | u_c stepG_region_end Fa.atRel hF | u_reg Fa.atRel hF | u_op Fa.atRel hF)
  u_c stepG_block Fa.atRel hF
  u_c stepG_loop Fa.atRel hF
  exact goes_more _ (hl _ _ _ _ _ _ _ _ _ _ _ _ _ _ _ _ _ _ _ _ _ _ _ _ _ _ _ _ _ _ _ _ _ _ _ _ _ _ _ hF)
end
end Go.Proofs.Ytfgipjgjehjijaa
namespace Go.Proofs.Ytfgipjgjehjijaa
open Go Go.Conc Go.ConcN Go.RowKit Go.Conc.Lib Go.ConcR.Gen Go.ConcN.Gen
open Go.ConcR (KK wgBlock WgAt stA smA rd wr mk Payload DC0)

/-- What SolveLine(a, 1, m) answers. -/
def linW (a m : Int) : Value := .tuple #[.agg #[.int .i64 (selI (linO a 1 m) (linX a 1 m)), .int .i64 (selI (linO a 1 m) (linN a m))], .bool (linO a 1 m)]
/-- What SolveBack(a, m) answers. -/
def bakV (a m : Int) : Int := selI (linO a 1 m) (linX a 1 m)

section
variable {Sh : Loc → Prop} {B N sz : Nat} {W : World} {L : List (Nat × Obj)} {b₀ : Frame} {a₀ : Act} {ops₀ : Array Oper} {i₀ : Nat} {rest₀ : List Nat} {k₀ : List Item} {cs : List Frame}
set_option maxRecDepth 100000 in
set_option maxHeartbeats 16000000 in
theorem lineNone {S : Goroutine → World → Prop} {n : Nat} {a m : Int} (hnm : (numB a && modB m) = false) (hN : N ≤ sz) (hSh : ∀ a : Addr, Sh (.cell a) → a.block < sz) (hB : sz + 1 < B) (hL : ∀ q ∈ L, q.1 < sz)
    (next : ∀ w', Fa N W (sz + 1) L w' → Goes Try.prog true AtRel (DE (EvL Sh B)) S n (G (b₀.at (a₀.put ((ops₀[i₀]?).bind (·.dst)) (.tuple #[.agg #[.int .i64 0, .int .i64 0], .bool false])) (.inRegion ops₀ rest₀ :: k₀)) cs) w') (w : World) (hF : Fa N W sz L w) :
    Goes Try.prog true AtRel (DE (EvL Sh B)) S (n + 400) (G ((base 18).at ⟨#[.int .i64 a, .int .i64 1, .int .i64 m, undef, undef, undef, undef, undef, undef, undef, undef, undef, undef, undef, undef, undef, undef, undef, undef, undef, undef, undef, undef, undef, undef, undef, undef, undef, undef, undef, undef, undef, undef, undef, undef, undef, undef, undef, undef, undef, undef, undef, undef, undef, undef, undef], []⟩ [.code bodyN]) (b₀.at a₀ (.inRegion ops₀ (i₀ :: rest₀) :: k₀) :: cs)) w := by
  have hne : ∀ q ∈ L, q.1 ≠ sz := fun q hq => by have := hL q hq; omega
  have ev := ev_own hSh (show sz < B by omega)
  simp only [bodyN, Try.f18, Option.getD_some]
  refine goes_join (m := n + 300) (n := 100) atRel_refl ?_
  u_c stepG_seq Fa.atRel hF
  u_reg Fa.atRel hF
  ((refine Goes.step rfl (fun _ h₁ => ?_); replace hF := Fa.atRel hF h₁; clear h₁)
   have hs := Fa.size hF
   refine goes_oper_k rfl rfl (by k_ne) (fun K hK => ?_)
   go_simp
   refine hK _ _ ⟨fun e he => ?_, ?_⟩
   · have hm := mem_listed he
     simp [go_sem, *] at hm
   clear hK K
   replace hF := Fa.alloc hF (by omega) (.cells #[.int .i64 0, .int .i64 0] 32)
   clear hs)
  repeat (first | u_c stepG_seq Fa.atRel hF | u_c stepG_region_end Fa.atRel hF | u_reg Fa.atRel hF | u_op Fa.atRel hF)
  refine Goes.stop (fun w₉ r₉ => ?_)
  replace hF := hF.atRel r₉
  clear r₉
  refine Goes.call (m := n + 97) (nf := 200) (Post := fun v w' => v = .bool (numB a && modB m) ∧ Since AtRel w₉ w') terms_b rfl (by rfl) (by k_ne) rfl ?_ (fun v w₁ hp => ?_)
  · walk_nrm
    exact k_inLine terms_b a m _
  obtain ⟨rfl, hs⟩ := hp
  replace hF := hF.since hs
  clear hs
  rw [hnm]
  walk_nrm
  u_op Fa.atRel hF
  u_op Fa.atRel hF
  u_skip Fa.atRel hF
  u_skip Fa.atRel hF
  u_skip Fa.atRel hF
  u_op Fa.atRel hF
  u_c stepG_region_end Fa.atRel hF
  u_cond true Fa.atRel hF
  u_c stepG_seq Fa.atRel hF
  u_reg Fa.atRel hF
  u_op Fa.atRel hF
  ((refine Goes.step rfl (fun _ h₁ => ?_); replace hF := Fa.atRel hF h₁; clear h₁)
   have hz0 := Fa.thaw hF (k := 0) (List.mem_cons_self ..)
   have hz1 := Fa.thaw hF (k := 1) (List.mem_cons_self ..)
   have hc0 := Fa.cellOf hF (k := 0) (List.mem_cons_self ..) rfl
   have hc1 := Fa.cellOf hF (k := 1) (List.mem_cons_self ..) rfl
   refine goes_oper_k rfl rfl (by k_ne) (fun K hK => ?_)
   go_simp
   refine hK _ _ ⟨fun e he => ?_, ?_⟩
   · have hm := mem_listed he
     simp [go_sem, *] at hm
     rcases hm with hm | hm <;> (subst hm; exact ev _ _)
   clear hK K hc0 hc1 hz0 hz1
   replace hF := (Fa.set hF (k := 0) (v := .int .i64 0) hN hne).set (k := 1) (v := .int .i64 0) hN hne)
  have e0 : ((#[Value.int .i64 0, Value.int .i64 0].setIfInBounds 0 (.int .i64 0)).setIfInBounds 1 (.int .i64 0)) = #[.int .i64 0, .int .i64 0] := by simp
  rw [e0] at hF
  clear e0
  u_op Fa.atRel hF
  u_c stepG_region_end Fa.atRel hF
  u_c stepG_ret' Fa.atRel hF
  (refine Goes.step rfl (fun _ h₁ => ?_); replace hF := Fa.atRel hF h₁; clear h₁)
  have hc0 := hF.cellOf (k := 0) (List.mem_cons_self ..) rfl
  have hc1 := hF.cellOf (k := 1) (List.mem_cons_self ..) rfl
  rw [sG_leave (v := .tuple #[.agg #[.int .i64 0, .int .i64 0], .bool false]) rfl rfl Try.func18 (by simp [results, Try.f18, go_sem, *]), Frame.finish_at]
  simp only [goes_go]
  refine ⟨fun e he => ?_, ?_⟩
  · have hq : (Try.prog.funcs[(base 18).fn]?).any (·.norace) = false := by kernel_rfl
    simp only [seen, hq] at he
    simp [results, Try.f18, go_sem, hc0, hc1] at he
    rcases he with rfl | rfl <;> exact ev _ _
  · exact (next _ (hF.weak fun q hq => List.mem_cons_of_mem _ hq)).mono (by omega)

/-- SolveLine(a, 1, m). -/
theorem lineAny {S : Goroutine → World → Prop} {n : Nat} {a m : Int} (hN : N ≤ sz) (hSh : ∀ a : Addr, Sh (.cell a) → a.block < sz) (hB : sz + 1 < B) (hL : ∀ q ∈ L, q.1 < sz)
    (next : ∀ w', Fa N W (sz + 1) L w' → Goes Try.prog true AtRel (DE (EvL Sh B)) S n (G (b₀.at (a₀.put ((ops₀[i₀]?).bind (·.dst)) (linW a m)) (.inRegion ops₀ rest₀ :: k₀)) cs) w') (w : World) (hF : Fa N W sz L w) :
    Goes Try.prog true AtRel (DE (EvL Sh B)) S (n + 400000) (G ((base 18).at ⟨#[.int .i64 a, .int .i64 1, .int .i64 m, undef, undef, undef, undef, undef, undef, undef, undef, undef, undef, undef, undef, undef, undef, undef, undef, undef, undef, undef, undef, undef, undef, undef, undef, undef, undef, undef, undef, undef, undef, undef, undef, undef, undef, undef, undef, undef, undef, undef, undef, undef, undef, undef], []⟩ [.code bodyN]) (b₀.at a₀ (.inRegion ops₀ (i₀ :: rest₀) :: k₀) :: cs)) w := by
  cases hnm : (numB a && modB m) with
  | true =>
    obtain ⟨ha, hmod⟩ : numB a = true ∧ modB m = true := by simpa using hnm
    obtain ⟨m1, m2⟩ := modB_iff.1 hmod
    obtain ⟨_, _, _, _, n1, n2⟩ := lin_bd (a := a) m1
    have hO : linO a 1 m = linB a 1 m := linO_3 ha hmod (by decide)
    simp only [linW, hO] at next
    exact (lineWalk hnm m1 m2 hN hSh hB hL next w hF).mono (by omega)
  | false =>
    have hO : linO a 1 m = false := by simp [linO, hnm]
    simp only [linW, hO, selI_f] at next
    exact (lineNone hnm hN hSh hB hL next w hF).mono (by omega)

set_option maxRecDepth 100000 in
set_option maxHeartbeats 16000000 in
/-- SolveBack(a, m). -/
theorem backWalk {S : Goroutine → World → Prop} {n : Nat} {a m : Int} (hN : N ≤ sz) (hSh : ∀ a : Addr, Sh (.cell a) → a.block < sz) (hB : sz + 2 < B) (hL : ∀ q ∈ L, q.1 < sz)
    (next : ∀ w', Fa N W (sz + 2) L w' → Goes Try.prog true AtRel (DE (EvL Sh B)) S n (G (b₀.at (a₀.put ((ops₀[i₀]?).bind (·.dst)) (.tuple #[.int .i64 (bakV a m), .bool (linO a 1 m)])) (.inRegion ops₀ rest₀ :: k₀)) cs) w') (w : World) (hF : Fa N W sz L w) :
    Goes Try.prog true AtRel (DE (EvL Sh B)) S (n + 100 + 400000 + 20) (G ((base 7).at ⟨#[.int .i64 a, .int .i64 m, undef, undef, undef, undef, undef, undef, undef, undef, undef, undef, undef, undef, undef, undef, undef], []⟩ [.code (Try.f7.body.getD .skip)]) (b₀.at a₀ (.inRegion ops₀ (i₀ :: rest₀) :: k₀) :: cs)) w := by
  have hne : ∀ q ∈ L, q.1 ≠ sz + 1 := fun q hq => by have := hL q hq; omega
  have ev := ev_own (sz := sz + 1) (fun a h => by have := hSh a h; omega) (show sz + 1 < B by omega)
  have hl := fun a₀' ops₀' i₀' rest₀' k₀' => lineAny (S := S) (n := n + 100) (a := a) (m := m) (Sh := Sh) (B := B) (N := N) (sz := sz) (W := W) (L := L) (b₀ := base 7) (a₀ := a₀') (ops₀ := ops₀') (i₀ := i₀') (rest₀ := rest₀') (k₀ := k₀') (cs := b₀.at a₀ (.inRegion ops₀ (i₀ :: rest₀) :: k₀) :: cs) hN hSh (by omega) hL
  generalize hK : n + 100 = K at hl ⊢
  generalize hK4 : K + 400000 = K4 at hl ⊢
  simp only [bodyN, linW, Try.f18, Option.getD_some] at hl
  simp only [bakV] at next
  simp only [Try.f7, Option.getD_some]
  generalize selI (linO a 1 m) (linX a 1 m) = x at *
  generalize selI (linO a 1 m) (linN a m) = y at *
  generalize linO a 1 m = ok at *
  u_c stepG_seq Fa.atRel hF
  u_reg Fa.atRel hF
  u_op Fa.atRel hF
  u_op Fa.atRel hF
  u_c stepG_region_end Fa.atRel hF
  u_c stepG_seq Fa.atRel hF
  u_reg Fa.atRel hF
  u_op Fa.atRel hF
  u_op Fa.atRel hF
  (refine Goes.step rfl (fun _ h₁ => ?_); replace hF := Fa.atRel hF h₁; clear h₁)
  refine goes_call rfl rfl (by k_ne) rfl Try.func18 (by rfl) rfl ⟨by u_nil, ?_⟩
  walk_nrmf Try.f18
  refine goes_more _ (hl _ _ _ _ _ (fun w' hF => ?_) _ hF)
  clear hl hK4
  subst hK
  walk_nrm
  u_op Fa.atRel hF
  u_op Fa.atRel hF
  u_op Fa.atRel hF
  ((refine Goes.step rfl (fun _ h₁ => ?_); replace hF := Fa.atRel hF h₁; clear h₁)
   have hs := Fa.size hF
   refine goes_oper_k rfl rfl (by k_ne) (fun K hK => ?_)
   go_simp
   refine hK _ _ ⟨fun e he => ?_, ?_⟩
   · have hm := mem_listed he
     simp [go_sem, *] at hm
   clear hK K
   replace hF := Fa.alloc hF (by omega) (.cells #[.int .i64 0, .int .i64 0] 32)
   clear hs)
  ((refine Goes.step rfl (fun _ h₁ => ?_); replace hF := Fa.atRel hF h₁; clear h₁)
   have hz0 := Fa.thaw hF (k := 0) (List.mem_cons_self ..)
   have hz1 := Fa.thaw hF (k := 1) (List.mem_cons_self ..)
   have hc0 := Fa.cellOf hF (k := 0) (List.mem_cons_self ..) rfl
   have hc1 := Fa.cellOf hF (k := 1) (List.mem_cons_self ..) rfl
   refine goes_oper_k rfl rfl (by k_ne) (fun K hK => ?_)
   go_simp
   refine hK _ _ ⟨fun e he => ?_, ?_⟩
   · have hm := mem_listed he
     simp [go_sem, *] at hm
     rcases hm with hm | hm <;> (subst hm; exact ev _ _)
   clear hK K hc0 hc1 hz0 hz1
   replace hF := (Fa.set hF (k := 0) (v := .int .i64 x) (show N ≤ sz + 1 by omega) hne).set (k := 1) (v := .int .i64 y) (show N ≤ sz + 1 by omega) hne)
  have e0 : ((#[Value.int .i64 0, Value.int .i64 0].setIfInBounds 0 (.int .i64 x)).setIfInBounds 1 (.int .i64 y)) = #[.int .i64 x, .int .i64 y] := by simp
  rw [e0] at hF
  clear e0
  u_op Fa.atRel hF
  u_c stepG_region_end Fa.atRel hF
  u_c stepG_seq Fa.atRel hF
  u_reg Fa.atRel hF
  u_op Fa.atRel hF
  ((refine Goes.step rfl (fun _ h₁ => ?_); replace hF := Fa.atRel hF h₁; clear h₁)
   have _ := hF.cellOf (k := 0) (List.mem_cons_self ..) rfl
   refine goes_oper_k rfl rfl (by k_ne) (fun K hK => ?_)
   go_simp
   refine hK _ _ ⟨fun e he => ?_, ?_⟩
   · have hm := mem_listed he
     simp [go_sem, *] at hm
     first | (subst hm; exact (ev 0 false)) | (rcases hm with hm | hm <;> (subst hm; exact (ev 0 false)))
   clear hK K)
  u_op Fa.atRel hF
  u_op Fa.atRel hF
  u_op Fa.atRel hF
  u_c stepG_region_end Fa.atRel hF
  u_c stepG_ret' Fa.atRel hF
  (refine Goes.step rfl (fun _ h₁ => ?_); replace hF := Fa.atRel hF h₁; clear h₁)
  refine goes_leave2 rfl rfl Try.func7 rfl ⟨by u_nil, ?_⟩
  simp only [List.getElem?_toArray, Array.getD_eq_getD_getElem?, List.getElem?_cons_succ, List.getElem?_cons_zero, Option.getD_some]
  exact goes_more _ (next _ (hF.weak fun q hq => List.mem_cons_of_mem _ hq))
end
end Go.Proofs.Ytfgipjgjehjijaa
namespace Go.Proofs.Ytfgipjgjehjijaa
open Go Go.Conc Go.ConcN Go.RowKit Go.Conc.Lib Go.ConcR.Gen Go.ConcN.Gen
open Go.ConcR (KK wgBlock WgAt stA smA rd wr mk Payload DC0)

noncomputable def bodyQ : Code := Try.f39.body.getD .skip
noncomputable def bQ3 : Code := cR (cR (cR bodyQ))
noncomputable def lpQ : Code := cR (cR (cR (cL bQ3)))
noncomputable def rsQ : Code := cR bQ3
section
variable {Sh : Loc → Prop} {B N sz : Nat} {W : World} {L : List (Nat × Obj)} {b₀ : Frame} {a₀ : Act} {ops₀ : Array Oper} {i₀ : Nat} {rest₀ : List Nat} {k₀ : List Item} {cs : List Frame}
set_option maxRecDepth 100000 in
set_option maxHeartbeats 16000000 in
/-- l1None(). -/
theorem noneWalk {S : Goroutine → World → Prop} {n : Nat} (hN : N ≤ sz) (hSh : ∀ a : Addr, Sh (.cell a) → a.block < sz) (hB : sz + 1 < B) (hL : ∀ q ∈ L, q.1 < sz)
    (next : ∀ w', Fa N W (sz + 1) L w' → Goes Try.prog true AtRel (DE (EvL Sh B)) S n (G (b₀.at (a₀.put ((ops₀[i₀]?).bind (·.dst)) (.tuple #[.agg #[.int .i64 0, .int .i64 0], .bool false])) (.inRegion ops₀ rest₀ :: k₀)) cs) w') (w : World) (hF : Fa N W sz L w) :
    Goes Try.prog true AtRel (DE (EvL Sh B)) S (n + 40) (G ((base 38).at ⟨#[undef, undef, undef], []⟩ [.code (Try.f38.body.getD .skip)]) (b₀.at a₀ (.inRegion ops₀ (i₀ :: rest₀) :: k₀) :: cs)) w := by
  have hne : ∀ q ∈ L, q.1 ≠ sz := fun q hq => by have := hL q hq; omega
  have ev := ev_own hSh (show sz < B by omega)
  simp only [Try.f38, Option.getD_some]
  u_c stepG_seq Fa.atRel hF
  u_reg Fa.atRel hF
  ((refine Goes.step rfl (fun _ h₁ => ?_); replace hF := Fa.atRel hF h₁; clear h₁)
   have hs := Fa.size hF
   refine goes_oper_k rfl rfl (by k_ne) (fun K hK => ?_)
   go_simp
   refine hK _ _ ⟨fun e he => ?_, ?_⟩
   · have hm := mem_listed he
     simp [go_sem, *] at hm
   clear hK K
   replace hF := Fa.alloc hF (by omega) (.cells #[.int .i64 0, .int .i64 0] 32)
   clear hs)
  u_op Fa.atRel hF
  u_c stepG_region_end Fa.atRel hF
  u_c stepG_seq Fa.atRel hF
  u_reg Fa.atRel hF
  u_op Fa.atRel hF
  ((refine Goes.step rfl (fun _ h₁ => ?_); replace hF := Fa.atRel hF h₁; clear h₁)
   have hz0 := Fa.thaw hF (k := 0) (List.mem_cons_self ..)
   have hz1 := Fa.thaw hF (k := 1) (List.mem_cons_self ..)
   have hc0 := Fa.cellOf hF (k := 0) (List.mem_cons_self ..) rfl
   have hc1 := Fa.cellOf hF (k := 1) (List.mem_cons_self ..) rfl
   refine goes_oper_k rfl rfl (by k_ne) (fun K hK => ?_)
   go_simp
   refine hK _ _ ⟨fun e he => ?_, ?_⟩
   · have hm := mem_listed he
     simp [go_sem, *] at hm
     rcases hm with hm | hm <;> (subst hm; exact ev _ _)
   clear hK K hc0 hc1 hz0 hz1
   replace hF := (Fa.set hF (k := 0) (v := .int .i64 0) hN hne).set (k := 1) (v := .int .i64 0) hN hne)
  have e0 : ((#[Value.int .i64 0, Value.int .i64 0].setIfInBounds 0 (.int .i64 0)).setIfInBounds 1 (.int .i64 0)) = #[.int .i64 0, .int .i64 0] := by simp
  rw [e0] at hF
  clear e0
  u_op Fa.atRel hF
  u_c stepG_region_end Fa.atRel hF
  u_c stepG_ret' Fa.atRel hF
  (refine Goes.step rfl (fun _ h₁ => ?_); replace hF := Fa.atRel hF h₁; clear h₁)
  have hc0 := hF.cellOf (k := 0) (List.mem_cons_self ..) rfl
  have hc1 := hF.cellOf (k := 1) (List.mem_cons_self ..) rfl
  rw [sG_leave (v := .tuple #[.agg #[.int .i64 0, .int .i64 0], .bool false]) rfl rfl Try.func38 (by simp [results, Try.f38, go_sem, *]), Frame.finish_at]
  simp only [goes_go]
  refine ⟨fun e he => ?_, ?_⟩
  · have hq : (Try.prog.funcs[(base 38).fn]?).any (·.norace) = false := by kernel_rfl
    simp only [seen, hq] at he
    simp [results, Try.f38, go_sem, hc0, hc1] at he
    rcases he with rfl | rfl <;> exact ev _ _
  · exact (next _ (hF.weak fun q hq => List.mem_cons_of_mem _ hq)).mono (by omega)

set_option maxRecDepth 100000 in
set_option maxHeartbeats 16000000 in
/-- Its search. -/
theorem specLoop {S : Goroutine → World → Prop} {n : Nat} {a m : Int} (m1 : 1 ≤ m) (m2 : m ≤ 1000) (hN : N ≤ sz) (hSh : ∀ a : Addr, Sh (.cell a) → a.block < sz) (hB : sz + 2 < B) (hL : ∀ q ∈ L, q.1 < sz)
    (next : ∀ sz' w', sz ≤ sz' → sz' ≤ sz + 2 → Fa N W sz' L w' → Goes Try.prog true AtRel (DE (EvL Sh B)) S n (G (b₀.at (a₀.put ((ops₀[i₀]?).bind (·.dst)) (linV a m)) (.inRegion ops₀ rest₀ :: k₀)) cs) w') :
    ∀ (r : Nat) (X : Nat), ((X : Nat) : Int) + r = linN a m → (fndB (linP a 1 m) r X = linB a 1 m ∧ fndX (linP a 1 m) r X = linX a 1 m) → ∀ (x3 x4 x5 x8 x11 x12 x13 x14 x15 x16 x17 x18 x19 x20 x21 x22 x23 x24 x25 x26 x27 x28 x29 x30 x31 x32 x33 x34 x35 x36 x37 x38 x39 : Value) (w : World), Fa N W (sz + 1) ((sz, .cells #[.int .i64 0, .int .i64 0] 32) :: L) w →
      Goes Try.prog true AtRel (DE (EvL Sh B)) S (n + 160 + 200 * r) (G ((base 39).at ⟨#[.int .i64 a, .int .i64 1, .int .i64 m, x3, x4, x5, .pointer (some ⟨sz, 0, none⟩), .bool false, x8, .int .i64 (linN a m), .int .i64 X, x11, x12, x13, x14, x15, x16, x17, x18, x19, x20, x21, x22, x23, x24, x25, x26, x27, x28, x29, x30, x31, x32, x33, x34, x35, x36, x37, x38, x39], []⟩ [.code lpQ, .inLoop lpQ, .inBlock 0, .code rsQ]) (b₀.at a₀ (.inRegion ops₀ (i₀ :: rest₀) :: k₀) :: cs)) w := by
  have hne : ∀ q ∈ L, q.1 ≠ sz := fun q hq => by have := hL q hq; omega
  have ev := ev_own hSh (show sz < B by omega)
  obtain ⟨c0, c1, g1, g2, n1, n2⟩ := lin_bd (a := a) m1
  intro r
  induction r with
  | zero =>
    intro X hX hfn x3 x4 x5 x8 x11 x12 x13 x14 x15 x16 x17 x18 x19 x20 x21 x22 x23 x24 x25 x26 x27 x28 x29 x30 x31 x32 x33 x34 x35 x36 x37 x38 x39 w hF
    have hlB := lin_end hfn
    have hlt : decide ((X : Int) < linN a m) = false := by simp; omega
    simp only [linV, hlB, selI_f] at next
    have hV := fun w' hF' => next (sz + 2) w' (by omega) (by omega) hF'
    have hNo := fun S' n' a₀' ops₀' i₀' rest₀' k₀' => noneWalk (S := S') (n := n') (Sh := Sh) (B := B) (N := N) (sz := sz + 1) (W := W) (L := (sz, .cells #[.int .i64 0, .int .i64 0] 32) :: L) (b₀ := base 39) (a₀ := a₀') (ops₀ := ops₀') (i₀ := i₀') (rest₀ := rest₀') (k₀ := k₀') (cs := b₀.at a₀ (.inRegion ops₀ (i₀ :: rest₀) :: k₀) :: cs) (by omega) (fun a h => by have := hSh a h; omega) (by omega) (lt_cons hL)
    clear next hfn
    simp only [Try.f38, Option.getD_some] at hNo
    simp only [lpQ, rsQ, bQ3, bodyQ, cR, cL, Try.f39, Option.getD_some]
    u_c stepG_seq Fa.atRel hF
    u_c stepG_seq Fa.atRel hF
    u_reg Fa.atRel hF
    u_op Fa.atRel hF
    u_op Fa.atRel hF
    u_op Fa.atRel hF
    u_c stepG_region_end Fa.atRel hF
    u_cond false Fa.atRel hF
    u_exit Fa.atRel hF
    u_c stepG_seq Fa.atRel hF
    u_reg Fa.atRel hF
    (refine Goes.step rfl (fun _ h₁ => ?_); replace hF := Fa.atRel hF h₁; clear h₁)
    refine goes_call rfl rfl (by k_ne) rfl Try.func38 (by rfl) rfl ⟨by u_nil, ?_⟩
    walk_nrmf Try.f38
    refine goes_more 48 (hNo S (n + 60) _ _ _ _ _ (fun w' hF => ?_) _ hF)
    clear hNo
    walk_nrm
    u_op Fa.atRel hF
    u_op Fa.atRel hF
    ((refine Goes.step rfl (fun _ h₁ => ?_); replace hF := Fa.atRel hF h₁; clear h₁)
     have hz0 := Fa.thaw hF (k := 0) (List.mem_cons_self ..)
     have hz1 := Fa.thaw hF (k := 1) (List.mem_cons_self ..)
     have hc0 := Fa.cellOf hF (k := 0) (List.mem_cons_self ..) rfl
     have hc1 := Fa.cellOf hF (k := 1) (List.mem_cons_self ..) rfl
     refine goes_oper_k rfl rfl (by k_ne) (fun K hK => ?_)
     go_simp
     refine hK _ _ ⟨fun e he => ?_, ?_⟩
     · have hm := mem_listed he
       simp [go_sem, *] at hm
       rcases hm with hm | hm <;> (subst hm; exact ev _ _)
     clear hK K hc0 hc1 hz0 hz1
     replace hF := (Fa.set hF (k := 0) (v := .int .i64 0) hN hne).set (k := 1) (v := .int .i64 0) hN hne)
    have e0 : ((#[Value.int .i64 0, Value.int .i64 0].setIfInBounds 0 (.int .i64 0)).setIfInBounds 1 (.int .i64 0)) = #[.int .i64 0, .int .i64 0] := by simp
    rw [e0] at hF
    clear e0
    u_op Fa.atRel hF
    u_c stepG_region_end Fa.atRel hF
    u_c stepG_ret' Fa.atRel hF
    (refine Goes.step rfl (fun _ h₁ => ?_); replace hF := Fa.atRel hF h₁; clear h₁)
    have hc0 := hF.cellOf (k := 0) (List.mem_cons_self ..) rfl
    have hc1 := hF.cellOf (k := 1) (List.mem_cons_self ..) rfl
    rw [sG_leave (v := .tuple #[.agg #[.int .i64 0, .int .i64 0], .bool false]) rfl rfl Try.func39 (by simp [results, Try.f39, go_sem, *]), Frame.finish_at]
    simp only [goes_go]
    refine ⟨fun e he => ?_, ?_⟩
    · have hq : (Try.prog.funcs[(base 39).fn]?).any (·.norace) = false := by kernel_rfl
      simp only [seen, hq] at he
      simp [results, Try.f39, go_sem, hc0, hc1] at he
      rcases he with rfl | rfl <;> exact ev _ _
    · exact (hV _ (hF.weak fun q hq => List.mem_cons_of_mem _ hq)).mono (by omega)
  | succ r ih =>
    intro X hX hfn x3 x4 x5 x8 x11 x12 x13 x14 x15 x16 x17 x18 x19 x20 x21 x22 x23 x24 x25 x26 x27 x28 x29 x30 x31 x32 x33 x34 x35 x36 x37 x38 x39 w hF
    have hlt : decide ((X : Int) < linN a m) = true := by simp; omega
    obtain ⟨p0, p1⟩ := lin_wrap (x := (X : Int)) m2 c0 c1 (by omega) (by omega)
    obtain ⟨hy, hn⟩ := lin_go hfn (by omega)
    have w1 : IntKind.i64.wrap (a % m * (X : Int)) = a % m * (X : Int) := by rw [IntKind.wrap_i64]; omega
    have w2 : IntKind.i64.wrap (a % m * (X : Int) - 1) = a % m * (X : Int) - 1 := by rw [IntKind.wrap_i64]; omega
    have w3 : IntKind.i64.wrap ((X : Int) + 1) = ((X + 1 : Nat) : Int) := by rw [IntKind.wrap_i64]; omega
    have hI := fun hh => ih (X + 1) (by omega) hh
    clear ih hfn
    have eM : n + 160 + 200 * (r + 1) = n + 160 + 200 * r + 200 := by omega
    rw [eM]
    clear eM
    generalize hM : n + 160 + 200 * r = M at *
    simp only [lpQ, rsQ, bQ3, bodyQ, cR, cL, Try.f39, Option.getD_some] at hI ⊢
    u_c stepG_seq Fa.atRel hF
    u_c stepG_seq Fa.atRel hF
    u_reg Fa.atRel hF
    u_op Fa.atRel hF
    u_op Fa.atRel hF
    u_op Fa.atRel hF
    u_c stepG_region_end Fa.atRel hF
    u_cond true Fa.atRel hF
    u_c stepG_skip Fa.atRel hF
    u_c stepG_seq Fa.atRel hF
    u_c stepG_block Fa.atRel hF
    u_c stepG_seq Fa.atRel hF
    u_reg Fa.atRel hF
    u_op Fa.atRel hF
    u_op Fa.atRel hF
    rename_i w₉
    refine Goes.call (m := M + 142) (nf := 40) (Post := fun v w' => v = .int .i64 (a % m) ∧ Since AtRel w₉ w') terms_b rfl (by rfl) (by k_ne) rfl ?_ (fun v w₁ hp => ?_)
    · walk_nrm
      exact k_l1Rest terms_b _ m m1 m2 _
    obtain ⟨rfl, hs⟩ := hp
    replace hF := hF.since hs
    clear hs
    walk_nrm
    u_op Fa.atRel hF
    u_op Fa.atRel hF
    u_op Fa.atRel hF
    u_op Fa.atRel hF
    u_op Fa.atRel hF
    rename_i w₉
    refine Goes.call (m := M + 94) (nf := 40) (Post := fun v w' => v = .int .i64 ((a % m * (X : Int) - 1) % m) ∧ Since AtRel w₉ w') terms_b rfl (by rfl) (by k_ne) rfl ?_ (fun v w₁ hp => ?_)
    · walk_nrm
      exact k_l1Rest terms_b _ m m1 m2 _
    obtain ⟨rfl, hs⟩ := hp
    replace hF := hF.since hs
    clear hs
    cases he : linP a 1 m X with
    | false =>
      have he' : ((a % m * (X : Int) - 1) % m == 0) = false := he
      have hI := hI (by have := hn he; simpa using this)
      clear hn hy next
      generalize (a % m * (X : Int) - 1) % m = R0 at *
      walk_nrm
      u_op Fa.atRel hF
      u_c stepG_region_end Fa.atRel hF
      u_cond false Fa.atRel hF
      u_c stepG_skip Fa.atRel hF
      u_c stepG_inBlock Fa.atRel hF
      u_reg Fa.atRel hF
      u_op Fa.atRel hF
      u_op Fa.atRel hF
      u_op Fa.atRel hF
      u_c stepG_region_end Fa.atRel hF
      u_c stepG_inLoop Fa.atRel hF
      exact goes_more _ (hI _ _ _ _ _ _ _ _ _ _ _ _ _ _ _ _ _ _ _ _ _ _ _ _ _ _ _ _ _ _ _ _ _ _ hF)
    | true =>
      have he' : ((a % m * (X : Int) - 1) % m == 0) = true := he
      obtain ⟨hB1, hX1⟩ := hy he
      simp only [linV, hB1, hX1, selI_t] at next
      have hV := fun w' hF' => next (sz + 1) w' (by omega) (by omega) hF'
      clear hn hy next hI
      generalize (a % m * (X : Int) - 1) % m = R0 at *
      generalize linN a m = Z at *
      walk_nrm
      u_op Fa.atRel hF
      u_c stepG_region_end Fa.atRel hF
      u_cond true Fa.atRel hF
      u_c stepG_seq Fa.atRel hF
      u_reg Fa.atRel hF
      u_op Fa.atRel hF
      u_op Fa.atRel hF
      u_op Fa.atRel hF
      ((refine Goes.step rfl (fun _ h₁ => ?_); replace hF := Fa.atRel hF h₁; clear h₁)
       have hz0 := Fa.thaw hF (k := 0) (List.mem_cons_self ..)
       have hz1 := Fa.thaw hF (k := 1) (List.mem_cons_self ..)
       have hc0 := Fa.cellOf hF (k := 0) (List.mem_cons_self ..) rfl
       have hc1 := Fa.cellOf hF (k := 1) (List.mem_cons_self ..) rfl
       refine goes_oper_k rfl rfl (by k_ne) (fun K hK => ?_)
       go_simp
       refine hK _ _ ⟨fun e he => ?_, ?_⟩
       · have hm := mem_listed he
         simp [go_sem, *] at hm
         rcases hm with hm | hm <;> (subst hm; exact ev _ _)
       clear hK K hc0 hc1 hz0 hz1
       replace hF := (Fa.set hF (k := 0) (v := .int .i64 (X : Int)) hN hne).set (k := 1) (v := .int .i64 Z) hN hne)
      have e0 : ((#[Value.int .i64 0, Value.int .i64 0].setIfInBounds 0 (.int .i64 (X : Int))).setIfInBounds 1 (.int .i64 Z)) = #[.int .i64 (X : Int), .int .i64 Z] := by simp
      rw [e0] at hF
      clear e0
      u_op Fa.atRel hF
      u_c stepG_region_end Fa.atRel hF
      u_c stepG_ret' Fa.atRel hF
      (refine Goes.step rfl (fun _ h₁ => ?_); replace hF := Fa.atRel hF h₁; clear h₁)
      have hc0 := hF.cellOf (k := 0) (List.mem_cons_self ..) rfl
      have hc1 := hF.cellOf (k := 1) (List.mem_cons_self ..) rfl
      rw [sG_leave (v := .tuple #[.agg #[.int .i64 (X : Int), .int .i64 Z], .bool true]) rfl rfl Try.func39 (by simp [results, Try.f39, go_sem, *]), Frame.finish_at]
      simp only [goes_go]
      refine ⟨fun e he => ?_, ?_⟩
      · have hq : (Try.prog.funcs[(base 39).fn]?).any (·.norace) = false := by kernel_rfl
        simp only [seen, hq] at he
        simp [results, Try.f39, go_sem, hc0, hc1] at he
        rcases he with rfl | rfl <;> exact ev _ _
      · exact (hV _ (hF.weak fun q hq => List.mem_cons_of_mem _ hq)).mono (by omega)
end
end Go.Proofs.Ytfgipjgjehjijaa
namespace Go.Proofs.Ytfgipjgjehjijaa
open Go Go.Conc Go.ConcN Go.RowKit Go.Conc.Lib Go.ConcR.Gen Go.ConcN.Gen
open Go.ConcR (KK wgBlock WgAt stA smA rd wr mk Payload DC0)

noncomputable def bodyQL : Code := Try.f19.body.getD .skip
section
variable {Sh : Loc → Prop} {B N sz : Nat} {W : World} {L : List (Nat × Obj)} {b₀ : Frame} {a₀ : Act} {ops₀ : Array Oper} {i₀ : Nat} {rest₀ : List Nat} {k₀ : List Item} {cs : List Frame}
set_option maxRecDepth 100000 in
set_option maxHeartbeats 16000000 in
theorem sLineWalk {S : Goroutine → World → Prop} {n : Nat} {a m : Int} (m1 : 1 ≤ m) (m2 : m ≤ 1000) (hN : N ≤ sz) (hSh : ∀ a : Addr, Sh (.cell a) → a.block < sz) (hB : sz + 2 < B) (hL : ∀ q ∈ L, q.1 < sz)
    (next : ∀ sz' w', sz ≤ sz' → sz' ≤ sz + 2 → Fa N W sz' L w' → Goes Try.prog true AtRel (DE (EvL Sh B)) S n (G (b₀.at (a₀.put ((ops₀[i₀]?).bind (·.dst)) (linV a m)) (.inRegion ops₀ rest₀ :: k₀)) cs) w') (w : World) (hF : Fa N W sz L w) :
    Goes Try.prog true AtRel (DE (EvL Sh B)) S (n + 160 + 200 * (linN a m).toNat + 103000) (G ((base 39).at ⟨#[.int .i64 a, .int .i64 1, .int .i64 m, undef, undef, undef, undef, undef, undef, undef, undef, undef, undef, undef, undef, undef, undef, undef, undef, undef, undef, undef, undef, undef, undef, undef, undef, undef, undef, undef, undef, undef, undef, undef, undef, undef, undef, undef, undef, undef], []⟩ [.code bodyQ]) (b₀.at a₀ (.inRegion ops₀ (i₀ :: rest₀) :: k₀) :: cs)) w := by
  obtain ⟨c0, c1, g1, g2, n1, n2⟩ := lin_bd (a := a) m1
  have hl := specLoop (b₀ := b₀) (a₀ := a₀) (ops₀ := ops₀) (i₀ := i₀) (rest₀ := rest₀) (k₀ := k₀) (cs := cs) m1 m2 hN hSh hB hL next (linN a m).toNat 0 (by omega) ⟨rfl, rfl⟩
  generalize hM : n + 160 + 200 * (linN a m).toNat = M at hl ⊢
  have hg0 : ¬ gcdI (a % m) m = 0 := by omega
  have hq : m.tdiv (gcdI (a % m) m) = linN a m := Int.tdiv_eq_ediv_of_nonneg (by omega)
  have hwq : IntKind.i64.wrap (linN a m) = linN a m := by rw [IntKind.wrap_i64]; omega
  simp only [lpQ, rsQ, bQ3, bodyQ, cR, cL, Try.f39, Option.getD_some] at hl ⊢
  refine goes_join (m := M + 102900) (n := 100) atRel_refl ?_
  u_c stepG_seq Fa.atRel hF
  u_reg Fa.atRel hF
  ((refine Goes.step rfl (fun _ h₁ => ?_); replace hF := Fa.atRel hF h₁; clear h₁)
   have hs := Fa.size hF
   refine goes_oper_k rfl rfl (by k_ne) (fun K hK => ?_)
   go_simp
   refine hK _ _ ⟨fun e he => ?_, ?_⟩
   · have hm := mem_listed he
     simp [go_sem, *] at hm
   clear hK K
   replace hF := Fa.alloc hF (by omega) (.cells #[.int .i64 0, .int .i64 0] 32)
   clear hs)
  repeat (first | u_c stepG_seq Fa.atRel hF | u_c stepG_region_end Fa.atRel hF | u_reg Fa.atRel hF | u_op Fa.atRel hF)
  refine Goes.stop (fun w₉ r₉ => ?_)
  replace hF := hF.atRel r₉
  clear r₉
  refine Goes.call (m := M + 102857) (nf := 40) (Post := fun v w' => v = .int .i64 (a % m) ∧ Since AtRel w₉ w') terms_b rfl (by rfl) (by k_ne) rfl ?_ (fun v w₁ hp => ?_)
  · walk_nrm
    exact k_l1Rest terms_b a m m1 m2 _
  obtain ⟨rfl, hs⟩ := hp
  replace hF := hF.since hs
  clear hs
  walk_nrm
  refine goes_join (m := M + 102827) (n := 30) atRel_refl ?_
  repeat (first | u_c stepG_seq Fa.atRel hF | u_c stepG_region_end Fa.atRel hF | u_reg Fa.atRel hF | u_op Fa.atRel hF)
  refine Goes.stop (fun w₉ r₉ => ?_)
  replace hF := hF.atRel r₉
  clear r₉
  refine Goes.call (m := M + 824) (nf := 102000) (Post := fun v w' => v = .int .i64 (gcdI (a % m) m) ∧ Since AtRel w₉ w') terms_b rfl (by rfl) (by k_ne) rfl ?_ (fun v w₁ hp => ?_)
  · walk_nrm
    exact k_l1Gcd terms_b (a % m) m c0 (by omega) (by omega) m2 _
  obtain ⟨rfl, hs⟩ := hp
  replace hF := hF.since hs
  clear hs
  walk_nrm
  repeat (first | u_c stepG_seq Fa.atRel hF | u_c stepG_region_end Fa.atRel hF | u_reg Fa.atRel hF | u_op Fa.atRel hF)
  u_c stepG_block Fa.atRel hF
  u_c stepG_loop Fa.atRel hF
  exact goes_more _ (hl _ _ _ _ _ _ _ _ _ _ _ _ _ _ _ _ _ _ _ _ _ _ _ _ _ _ _ _ _ _ _ _ _ _ hF)

set_option maxRecDepth 100000 in
set_option maxHeartbeats 16000000 in
/-- The model's SolveLine(a, 1, m). -/
theorem sLineAny {S : Goroutine → World → Prop} {n : Nat} {a m : Int} (hN : N ≤ sz) (hSh : ∀ a : Addr, Sh (.cell a) → a.block < sz) (hB : sz + 3 < B) (hL : ∀ q ∈ L, q.1 < sz)
    (next : ∀ sz' w', sz ≤ sz' → sz' ≤ sz + 3 → Fa N W sz' L w' → Goes Try.prog true AtRel (DE (EvL Sh B)) S n (G (b₀.at (a₀.put ((ops₀[i₀]?).bind (·.dst)) (linW a m)) (.inRegion ops₀ rest₀ :: k₀)) cs) w') (w : World) (hF : Fa N W sz L w) :
    Goes Try.prog true AtRel (DE (EvL Sh B)) S (n + 100 + 400000 + 500) (G ((base 19).at ⟨#[.int .i64 a, .int .i64 1, .int .i64 m, undef, undef, undef, undef, undef, undef, undef, undef, undef, undef, undef, undef, undef, undef, undef, undef, undef, undef, undef], []⟩ [.code bodyQL]) (b₀.at a₀ (.inRegion ops₀ (i₀ :: rest₀) :: k₀) :: cs)) w := by
  have hne : ∀ q ∈ L, q.1 ≠ sz := fun q hq => by have := hL q hq; omega
  have ev := ev_own hSh (show sz < B by omega)
  have hl := fun m1 m2 a₀' ops₀' i₀' rest₀' k₀' => sLineWalk (S := S) (n := n + 100) (a := a) (m := m) (Sh := Sh) (B := B) (N := N) (sz := sz + 1) (W := W) (L := (sz, .cells #[.int .i64 0, .int .i64 0] 32) :: L) (b₀ := base 19) (a₀ := a₀') (ops₀ := ops₀') (i₀ := i₀') (rest₀ := rest₀') (k₀ := k₀') (cs := b₀.at a₀ (.inRegion ops₀ (i₀ :: rest₀) :: k₀) :: cs) m1 m2 (by omega) (fun a h => by have := hSh a h; omega) (by omega) (lt_cons hL)
  have hNo := fun n' a₀' ops₀' i₀' rest₀' k₀' => noneWalk (S := S) (n := n') (Sh := Sh) (B := B) (N := N) (sz := sz + 1) (W := W) (L := (sz, .cells #[.int .i64 0, .int .i64 0] 32) :: L) (b₀ := base 19) (a₀ := a₀') (ops₀ := ops₀') (i₀ := i₀') (rest₀ := rest₀') (k₀ := k₀') (cs := b₀.at a₀ (.inRegion ops₀ (i₀ :: rest₀) :: k₀) :: cs) (by omega) (fun a h => by have := hSh a h; omega) (by omega) (lt_cons hL)
  generalize hK : n + 100 = K at hl ⊢
  simp only [bodyQ, Try.f39, Option.getD_some] at hl
  simp only [Try.f38, Option.getD_some] at hNo
  simp only [bodyQL, Try.f19, Option.getD_some]
  refine goes_join (m := K + 400450) (n := 50) atRel_refl ?_
  u_c stepG_seq Fa.atRel hF
  u_reg Fa.atRel hF
  ((refine Goes.step rfl (fun _ h₁ => ?_); replace hF := Fa.atRel hF h₁; clear h₁)
   have hs := Fa.size hF
   refine goes_oper_k rfl rfl (by k_ne) (fun K hK => ?_)
   go_simp
   refine hK _ _ ⟨fun e he => ?_, ?_⟩
   · have hm := mem_listed he
     simp [go_sem, *] at hm
   clear hK K
   replace hF := Fa.alloc hF (by omega) (.cells #[.int .i64 0, .int .i64 0] 32)
   clear hs)
  repeat (first | u_c stepG_seq Fa.atRel hF | u_c stepG_region_end Fa.atRel hF | u_reg Fa.atRel hF | u_op Fa.atRel hF)
  refine Goes.stop (fun w₉ r₉ => ?_)
  replace hF := hF.atRel r₉
  clear r₉
  refine Goes.call (m := K + 400047) (nf := 400) (Post := fun v w' => v = .bool (nmsB m a 1) ∧ Since AtRel w₉ w') terms_b rfl (by rfl) (by k_ne) rfl ?_ (fun v w₁ hp => ?_)
  · walk_nrm
    exact k_l6sNumbers terms_b m a 1 _
  obtain ⟨rfl, hs⟩ := hp
  replace hF := hF.since hs
  clear hs
  cases hnm : nmsB m a 1 with
  | false =>
    have hO : linO a 1 m = false := by
      have h1 : numB 1 = true := by decide
      simp only [nmsB, h1, Bool.and_true] at hnm
      simp [linO, h1, Bool.and_comm (numB a), hnm]
    simp only [linW, hO, selI_f] at next
    have hV := fun w' hF' => next (sz + 2) w' (by omega) (by omega) hF'
    clear next hl
    walk_nrm
    u_op Fa.atRel hF
    u_c stepG_region_end Fa.atRel hF
    u_cond true Fa.atRel hF
    u_c stepG_seq Fa.atRel hF
    u_reg Fa.atRel hF
    (refine Goes.step rfl (fun _ h₁ => ?_); replace hF := Fa.atRel hF h₁; clear h₁)
    refine goes_call rfl rfl (by k_ne) rfl Try.func38 (by rfl) rfl ⟨by u_nil, ?_⟩
    walk_nrmf Try.f38
    refine goes_more 400000 (hNo (K + 1) _ _ _ _ _ (fun w' hF => ?_) _ hF)
    clear hNo
    subst hK
    walk_nrm
    u_op Fa.atRel hF
    u_op Fa.atRel hF
    ((refine Goes.step rfl (fun _ h₁ => ?_); replace hF := Fa.atRel hF h₁; clear h₁)
     have hz0 := Fa.thaw hF (k := 0) (List.mem_cons_self ..)
     have hz1 := Fa.thaw hF (k := 1) (List.mem_cons_self ..)
     have hc0 := Fa.cellOf hF (k := 0) (List.mem_cons_self ..) rfl
     have hc1 := Fa.cellOf hF (k := 1) (List.mem_cons_self ..) rfl
     refine goes_oper_k rfl rfl (by k_ne) (fun K hK => ?_)
     go_simp
     refine hK _ _ ⟨fun e he => ?_, ?_⟩
     · have hm := mem_listed he
       simp [go_sem, *] at hm
       rcases hm with hm | hm <;> (subst hm; exact ev _ _)
     clear hK K hc0 hc1 hz0 hz1
     replace hF := (Fa.set hF (k := 0) (v := .int .i64 0) hN hne).set (k := 1) (v := .int .i64 0) hN hne)
    have e0 : ((#[Value.int .i64 0, Value.int .i64 0].setIfInBounds 0 (.int .i64 0)).setIfInBounds 1 (.int .i64 0)) = #[.int .i64 0, .int .i64 0] := by simp
    rw [e0] at hF
    clear e0
    u_op Fa.atRel hF
    u_c stepG_region_end Fa.atRel hF
    u_c stepG_ret' Fa.atRel hF
    (refine Goes.step rfl (fun _ h₁ => ?_); replace hF := Fa.atRel hF h₁; clear h₁)
    have hc0 := hF.cellOf (k := 0) (List.mem_cons_self ..) rfl
    have hc1 := hF.cellOf (k := 1) (List.mem_cons_self ..) rfl
    rw [sG_leave (v := .tuple #[.agg #[.int .i64 0, .int .i64 0], .bool false]) rfl rfl Try.func19 (by simp [results, Try.f19, go_sem, *]), Frame.finish_at]
    simp only [goes_go]
    refine ⟨fun e he => ?_, ?_⟩
    · have hq : (Try.prog.funcs[(base 19).fn]?).any (·.norace) = false := by kernel_rfl
      simp only [seen, hq] at he
      simp [results, Try.f19, go_sem, hc0, hc1] at he
      rcases he with rfl | rfl <;> exact ev _ _
    · exact (hV _ (hF.weak fun q hq => List.mem_cons_of_mem _ hq)).mono (by omega)
  | true =>
    obtain ⟨hmod, ha, h1⟩ := nmsB_of hnm
    obtain ⟨m1, m2⟩ := modB_iff.1 hmod
    obtain ⟨_, _, _, _, n1, n2⟩ := lin_bd (a := a) m1
    have hO : linO a 1 m = linB a 1 m := linO_3 ha hmod h1
    simp only [linW, hO] at next
    replace hl := hl m1 m2
    clear hNo hO
    generalize hKl : K + 160 + 200 * (linN a m).toNat + 103000 = Kl at hl
    simp only [linV] at hl
    have hKl2 : Kl ≤ K + 400000 := by omega
    clear hKl
    generalize selI (linB a 1 m) (linX a 1 m) = x at *
    generalize selI (linB a 1 m) (linN a m) = y at *
    generalize linB a 1 m = ok at *
    walk_nrm
    u_op Fa.atRel hF
    u_c stepG_region_end Fa.atRel hF
    u_cond false Fa.atRel hF
    u_c stepG_skip Fa.atRel hF
    u_c stepG_seq Fa.atRel hF
    u_reg Fa.atRel hF
    u_op Fa.atRel hF
    u_op Fa.atRel hF
    u_op Fa.atRel hF
    (refine Goes.step rfl (fun _ h₁ => ?_); replace hF := Fa.atRel hF h₁; clear h₁)
    refine goes_call rfl rfl (by k_ne) rfl Try.func39 (by rfl) rfl ⟨by u_nil, ?_⟩
    walk_nrmf Try.f39
    refine Goes.mono (n := Kl) (hl _ _ _ _ _ (fun sz' w' s1 s2 hF => ?_) _ hF) (by omega)
    have hV := fun w' hF' => next sz' w' (by omega) (by omega) hF'
    clear hl next
    subst hK
    walk_nrm
    u_op Fa.atRel hF
    u_op Fa.atRel hF
    ((refine Goes.step rfl (fun _ h₁ => ?_); replace hF := Fa.atRel hF h₁; clear h₁)
     have hz0 := Fa.thaw hF (k := 0) (List.mem_cons_self ..)
     have hz1 := Fa.thaw hF (k := 1) (List.mem_cons_self ..)
     have hc0 := Fa.cellOf hF (k := 0) (List.mem_cons_self ..) rfl
     have hc1 := Fa.cellOf hF (k := 1) (List.mem_cons_self ..) rfl
     refine goes_oper_k rfl rfl (by k_ne) (fun K hK => ?_)
     go_simp
     refine hK _ _ ⟨fun e he => ?_, ?_⟩
     · have hm := mem_listed he
       simp [go_sem, *] at hm
       rcases hm with hm | hm <;> (subst hm; exact ev _ _)
     clear hK K hc0 hc1 hz0 hz1
     replace hF := (Fa.set hF (k := 0) (v := .int .i64 x) hN hne).set (k := 1) (v := .int .i64 y) hN hne)
    have e0 : ((#[Value.int .i64 0, Value.int .i64 0].setIfInBounds 0 (.int .i64 x)).setIfInBounds 1 (.int .i64 y)) = #[.int .i64 x, .int .i64 y] := by simp
    rw [e0] at hF
    clear e0
    u_op Fa.atRel hF
    u_c stepG_region_end Fa.atRel hF
    u_c stepG_ret' Fa.atRel hF
    (refine Goes.step rfl (fun _ h₁ => ?_); replace hF := Fa.atRel hF h₁; clear h₁)
    have hc0 := hF.cellOf (k := 0) (List.mem_cons_self ..) rfl
    have hc1 := hF.cellOf (k := 1) (List.mem_cons_self ..) rfl
    rw [sG_leave (v := .tuple #[.agg #[.int .i64 x, .int .i64 y], .bool ok]) rfl rfl Try.func19 (by simp [results, Try.f19, go_sem, *]), Frame.finish_at]
    simp only [goes_go]
    refine ⟨fun e he => ?_, ?_⟩
    · have hq : (Try.prog.funcs[(base 19).fn]?).any (·.norace) = false := by kernel_rfl
      simp only [seen, hq] at he
      simp [results, Try.f19, go_sem, hc0, hc1] at he
      rcases he with rfl | rfl <;> exact ev _ _
    · exact (hV _ (hF.weak fun q hq => List.mem_cons_of_mem _ hq)).mono (by omega)

set_option maxRecDepth 100000 in
set_option maxHeartbeats 16000000 in
/-- The model's SolveBack(a, m). -/
theorem sBackWalk {S : Goroutine → World → Prop} {n : Nat} {a m : Int} (hN : N ≤ sz) (hSh : ∀ a : Addr, Sh (.cell a) → a.block < sz) (hB : sz + 4 < B) (hL : ∀ q ∈ L, q.1 < sz)
    (next : ∀ sz' w', sz ≤ sz' → sz' ≤ sz + 4 → Fa N W sz' L w' → Goes Try.prog true AtRel (DE (EvL Sh B)) S n (G (b₀.at (a₀.put ((ops₀[i₀]?).bind (·.dst)) (.tuple #[.int .i64 (bakV a m), .bool (linO a 1 m)])) (.inRegion ops₀ rest₀ :: k₀)) cs) w') (w : World) (hF : Fa N W sz L w) :
    Goes Try.prog true AtRel (DE (EvL Sh B)) S (n + 100 + 100 + 400000 + 500 + 20) (G ((base 8).at ⟨#[.int .i64 a, .int .i64 m, undef, undef, undef, undef, undef, undef, undef, undef, undef, undef, undef, undef, undef, undef, undef, undef], []⟩ [.code (Try.f8.body.getD .skip)]) (b₀.at a₀ (.inRegion ops₀ (i₀ :: rest₀) :: k₀) :: cs)) w := by
  have hl := fun a₀' ops₀' i₀' rest₀' k₀' => sLineAny (S := S) (n := n + 100) (a := a) (m := m) (Sh := Sh) (B := B) (N := N) (sz := sz) (W := W) (L := L) (b₀ := base 8) (a₀ := a₀') (ops₀ := ops₀') (i₀ := i₀') (rest₀ := rest₀') (k₀ := k₀') (cs := b₀.at a₀ (.inRegion ops₀ (i₀ :: rest₀) :: k₀) :: cs) hN hSh (by omega) hL
  generalize hK4 : n + 100 + 100 + 400000 + 500 = K4 at hl ⊢
  simp only [bodyQL, linW, Try.f19, Option.getD_some] at hl
  simp only [bakV] at next
  simp only [Try.f8, Option.getD_some]
  have hx0 : linO a 1 m = false → selI (linO a 1 m) (linX a 1 m) = 0 := fun h => by rw [h]; rfl
  generalize selI (linO a 1 m) (linX a 1 m) = x at *
  generalize selI (linO a 1 m) (linN a m) = y at *
  generalize linO a 1 m = ok at *
  u_c stepG_seq Fa.atRel hF
  u_reg Fa.atRel hF
  u_op Fa.atRel hF
  u_op Fa.atRel hF
  u_c stepG_region_end Fa.atRel hF
  u_c stepG_seq Fa.atRel hF
  u_reg Fa.atRel hF
  u_op Fa.atRel hF
  u_op Fa.atRel hF
  (refine Goes.step rfl (fun _ h₁ => ?_); replace hF := Fa.atRel hF h₁; clear h₁)
  refine goes_call rfl rfl (by k_ne) rfl Try.func19 (by rfl) rfl ⟨by u_nil, ?_⟩
  walk_nrmf Try.f19
  refine goes_more _ (hl _ _ _ _ _ (fun sz' w' s1 s2 hF => ?_) _ hF)
  clear hl hK4
  have hne : ∀ q ∈ L, q.1 ≠ sz' := fun q hq => by have := hL q hq; omega
  have ev := ev_own (sz := sz') (fun a h => by have := hSh a h; omega) (show sz' < B by omega)
  walk_nrm
  u_op Fa.atRel hF
  u_op Fa.atRel hF
  u_op Fa.atRel hF
  ((refine Goes.step rfl (fun _ h₁ => ?_); replace hF := Fa.atRel hF h₁; clear h₁)
   have hs := Fa.size hF
   refine goes_oper_k rfl rfl (by k_ne) (fun K hK => ?_)
   go_simp
   refine hK _ _ ⟨fun e he => ?_, ?_⟩
   · have hm := mem_listed he
     simp [go_sem, *] at hm
   clear hK K
   replace hF := Fa.alloc hF (by omega) (.cells #[.int .i64 0, .int .i64 0] 32)
   clear hs)
  ((refine Goes.step rfl (fun _ h₁ => ?_); replace hF := Fa.atRel hF h₁; clear h₁)
   have hz0 := Fa.thaw hF (k := 0) (List.mem_cons_self ..)
   have hz1 := Fa.thaw hF (k := 1) (List.mem_cons_self ..)
   have hc0 := Fa.cellOf hF (k := 0) (List.mem_cons_self ..) rfl
   have hc1 := Fa.cellOf hF (k := 1) (List.mem_cons_self ..) rfl
   refine goes_oper_k rfl rfl (by k_ne) (fun K hK => ?_)
   go_simp
   refine hK _ _ ⟨fun e he => ?_, ?_⟩
   · have hm := mem_listed he
     simp [go_sem, *] at hm
     rcases hm with hm | hm <;> (subst hm; exact ev _ _)
   clear hK K hc0 hc1 hz0 hz1
   replace hF := (Fa.set hF (k := 0) (v := .int .i64 x) (show N ≤ sz' by omega) hne).set (k := 1) (v := .int .i64 y) (show N ≤ sz' by omega) hne)
  have e0 : ((#[Value.int .i64 0, Value.int .i64 0].setIfInBounds 0 (.int .i64 x)).setIfInBounds 1 (.int .i64 y)) = #[.int .i64 x, .int .i64 y] := by simp
  rw [e0] at hF
  clear e0
  u_op Fa.atRel hF
  u_c stepG_region_end Fa.atRel hF
  u_c stepG_seq Fa.atRel hF
  u_c stepG_seq Fa.atRel hF
  u_reg Fa.atRel hF
  u_op Fa.atRel hF
  have hV := fun w' hF' => next (sz' + 1) w' (by omega) (by omega) hF'
  cases ok with
  | false =>
    rw [hx0 rfl] at hV
    clear hx0 next
    u_op Fa.atRel hF
    u_c stepG_region_end Fa.atRel hF
    u_cond true Fa.atRel hF
    u_c stepG_seq Fa.atRel hF
    u_reg Fa.atRel hF
    u_op Fa.atRel hF
    u_op Fa.atRel hF
    u_c stepG_region_end Fa.atRel hF
    u_c stepG_ret' Fa.atRel hF
    (refine Goes.step rfl (fun _ h₁ => ?_); replace hF := Fa.atRel hF h₁; clear h₁)
    refine goes_leave2 rfl rfl Try.func8 rfl ⟨by u_nil, ?_⟩
    simp only [List.getElem?_toArray, Array.getD_eq_getD_getElem?, List.getElem?_cons_succ, List.getElem?_cons_zero, Option.getD_some]
    exact (hV _ (hF.weak fun q hq => List.mem_cons_of_mem _ hq)).mono (by omega)
  | true =>
    clear hx0 next
    u_op Fa.atRel hF
    u_c stepG_region_end Fa.atRel hF
    u_cond false Fa.atRel hF
    u_c stepG_skip Fa.atRel hF
    u_c stepG_seq Fa.atRel hF
    u_reg Fa.atRel hF
    u_op Fa.atRel hF
    ((refine Goes.step rfl (fun _ h₁ => ?_); replace hF := Fa.atRel hF h₁; clear h₁)
     have _ := hF.cellOf (k := 0) (List.mem_cons_self ..) rfl
     refine goes_oper_k rfl rfl (by k_ne) (fun K hK => ?_)
     go_simp
     refine hK _ _ ⟨fun e he => ?_, ?_⟩
     · have hm := mem_listed he
       simp [go_sem, *] at hm
       first | (subst hm; exact (ev 0 false)) | (rcases hm with hm | hm <;> (subst hm; exact (ev 0 false)))
     clear hK K)
    u_op Fa.atRel hF
    u_op Fa.atRel hF
    u_c stepG_region_end Fa.atRel hF
    u_c stepG_ret' Fa.atRel hF
    (refine Goes.step rfl (fun _ h₁ => ?_); replace hF := Fa.atRel hF h₁; clear h₁)
    refine goes_leave2 rfl rfl Try.func8 rfl ⟨by u_nil, ?_⟩
    simp only [List.getElem?_toArray, Array.getD_eq_getD_getElem?, List.getElem?_cons_succ, List.getElem?_cons_zero, Option.getD_some]
    exact (hV _ (hF.weak fun q hq => List.mem_cons_of_mem _ hq)).mono (by omega)
end
end Go.Proofs.Ytfgipjgjehjijaa
