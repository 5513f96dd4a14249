/- slices.Collect beside others (own text). -/
import Derived.Test.YtfgipjgjehjijaaLp
namespace Go.Proofs.Ytfgipjgjehjijaa
open Go Go.Conc Go.ConcN Go.RowKit Go.Conc.Lib Go.ConcR.Gen Go.ConcN.Gen
open Go.ConcR (KK wgBlock WgAt stA smA rd wr mk Payload DC0)

section
variable {Sh : Loc → Prop} {B N sz C : Nat} {W : World} {L : List (Nat × Obj)} {b₀ : Frame} {a₀ : Act} {ops₀ : Array Oper} {i₀ : Nat} {rest₀ : List Nat} {k₀ : List Item} {cs : List Frame}
set_option maxRecDepth 100000 in
set_option maxHeartbeats 8000000 in
/-- Collect(numbers 1 .. m). -/
theorem collectWalk {S : Goroutine → World → Prop} {n : Nat} {m : Int} (hm : 1 ≤ m) (hm2 : m ≤ 1000) (hN : N ≤ sz) (hShC : ∀ a : Addr, Sh (.cell a) → a.block < C) (hSo : ∀ b, sz ≤ b → ¬ Sh (.obj b)) (hB : sz + 4 + 3000 < B) (hL : ∀ q ∈ L, q.1 < sz)
    (hC : (C, Obj.cells #[.int .i64 0, .int .i64 1] 32) ∈ L) (hC1 : (C + 1, Obj.cells #[.int .i64 1] 3) ∈ L) (hC2 : (C + 1 + 1, Obj.cells #[.int .i64 (m + 1)] 3) ∈ L)
    (next : ∀ v w', Ga N W (sz + 4) (sz + 4 + 2 * m.toNat) L v (upTo m.toNat) w' → Goes Try.prog true AtRel (DE (EvL Sh B)) S n (G (b₀.at (a₀.put ((ops₀[i₀]?).bind (·.dst)) v) (.inRegion ops₀ rest₀ :: k₀)) cs) w') (w : World) (hF : Fa N W sz L w) :
    Goes Try.prog true AtRel (DE (EvL Sh B)) S (n + 10 + 30 + 30 + m.toNat * (40 + 40) + 160 + 30 + 20)
      (G ((base 31).at ⟨#[.func (.func 48) #[] #[.pointer (some ⟨C, 0, none⟩), .pointer (some ⟨C + 1, 0, none⟩), .pointer (some ⟨C + 1 + 1, 0, none⟩)], undef, undef, undef, undef], []⟩ [.code (Try.f31.body.getD .skip)]) (b₀.at a₀ (.inRegion ops₀ (i₀ :: rest₀) :: k₀) :: cs)) w := by
  have hA := fun a₀' ops₀' i₀' rest₀' k₀' => appendSeqWalk (S := S) (n := n + 10) (Sh := Sh) (B := B) (N := N) (sz := sz) (C := C) (W := W) (L := L) (b₀ := base 31) (a₀ := a₀') (ops₀ := ops₀') (i₀ := i₀') (rest₀ := rest₀') (k₀ := k₀') (cs := b₀.at a₀ (.inRegion ops₀ (i₀ :: rest₀) :: k₀) :: cs) hm hm2 hN hShC hSo hB hL hC hC1 hC2
  generalize n + 10 + 30 + 30 + m.toNat * (40 + 40) + 160 + 30 = K at hA ⊢
  simp only [bodyC, Try.f50, Try.f31, Option.getD_some] at hA ⊢
  u_c stepG_seq Fa.atRel hF
  u_reg Fa.atRel hF
  u_op Fa.atRel hF
  u_c stepG_region_end Fa.atRel hF
  u_c stepG_seq Fa.atRel hF
  u_reg Fa.atRel hF
  u_op Fa.atRel hF
  (refine Goes.step rfl (fun _ h₁ => ?_); replace hF := Fa.atRel hF h₁; clear h₁)
  refine goes_call rfl rfl (by k_ne) rfl Try.func50 (by rfl) rfl ⟨by u_nil, ?_⟩
  walk_nrmf Try.f50
  refine goes_more 12 (hA _ _ _ _ _ (fun v w' hF => ?_) _ hF)
  walk_nrm
  u_op Ga.atRel hF
  u_c stepG_region_end Ga.atRel hF
  u_c stepG_ret' Ga.atRel hF
  (refine Goes.step rfl (fun _ h₁ => ?_); replace hF := Ga.atRel hF h₁; clear h₁)
  refine goes_leave1 rfl rfl Try.func31 rfl ⟨by u_nil, ?_⟩
  simp only [List.getElem?_toArray, Array.getD_eq_getD_getElem?, List.getElem?_cons_succ, List.getElem?_cons_zero, Option.getD_some]
  exact goes_more _ (next _ _ hF)
end
end Go.Proofs.Ytfgipjgjehjijaa
