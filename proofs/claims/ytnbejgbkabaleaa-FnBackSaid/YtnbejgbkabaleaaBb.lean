/- Chapter 5, the program: RestBack. -/
import Derived.Test.YtnbejgbkabaleaaBa
namespace Go.Proofs.Ytnbejgbkabaleaa
open Go.RowKit
/-- rests have ones that lead back -/
def invZ (zs ys : List Int) (i : Nat) : Int := inv (mo zs i) (zA ys i)
def bakB (zs ys : List Int) : Bool := (zA ys 0 * invZ zs ys 0) % mo zs 0 == 1 % mo zs 0 && (zA ys 1 * invZ zs ys 1) % mo zs 1 == 1 % mo zs 1 && (zA ys 2 * invZ zs ys 2) % mo zs 2 == 1 % mo zs 2 && (zA ys 3 * invZ zs ys 3) % mo zs 3 == 1 % mo zs 3
def bacB (zs ys : List Int) : Bool := okZ zs ys && bakB zs ys
def bacL (zs ys : List Int) : List Int := four (invZ zs ys) zs.length
def bacR (zs ys : List Int) : List Int := bif bacB zs ys then bacL zs ys else []
theorem inv_r30 {m r : Int} (h : MB m) : R30 (inv m r) := by
  have := invS_bd m r m.toNat
  have := h.2
  unfold inv
  exact ⟨by omega, by omega⟩
set_option maxRecDepth 20000 in
set_option maxHeartbeats 4000000 in
theorem c_implRestBack (s u : Option Addr) (n cap m cap2 : Nat) (zs ys : List Int) (hn : n ≤ 1048576) (hm : m ≤ 1048576) (w : World) (hz : Ints w s n zs) (hy : Ints w u m ys) :
    Calls Try.prog 42 #[.slice s n cap, .slice u m cap2] w (RetJ w (bacR zs ys) (bacB zs ys)) := by
  have hcon := c_restsTold s u n cap m cap2 zs ys hn hm w hz hy
  cases hb : okZ zs ys
  · have ho : bacB zs ys = false := by rw [bacB, hb]; rfl
    have hr : bacR zs ys = [] := by rw [bacR, ho]; rfl
    rw [hb] at hcon
    rw [hr, ho]
    simp only [basW, resV, selI_f] at hcon
    clear hb hr ho
    go_enter Try.func42, Try.ntmps42
    go_wp2_with (first | (go_at_call 55; refine hcon.mono ?_; rintro e w2 ⟨rfl, hb2⟩) | fail)
    go_ret2
    exact ⟨_, rfl, World.ownsRow_nil _ _ _ _, ba (ba hb2 _) _⟩
  · obtain ⟨hl1, hl4⟩ := bas_len (okZ_bas hb)
    have hS := okZ_sys hb
    obtain ⟨u0, u1, u2, u3⟩ := sys_r30 hS
    have hbk := fun w => c_back (zA ys 0) (zA ys 1) (zA ys 2) (zA ys 3) (mo zs 0) (mo zs 1) (mo zs 2) (mo zs 3) zs.length hS.ha hS.hb hS.hc hS.hd u0 u1 u2 u3 w
    have hti := fun w => c_times (zA ys 0) (zA ys 1) (zA ys 2) (zA ys 3) (inv (mo zs 0) (zA ys 0)) (inv (mo zs 1) (zA ys 1)) (inv (mo zs 2) (zA ys 2)) (inv (mo zs 3) (zA ys 3)) u0 u1 u2 u3 (inv_r30 hS.ha) (inv_r30 hS.hb) (inv_r30 hS.hc) (inv_r30 hS.hd) w
    have hby := fun w => c_by (zA ys 0 * inv (mo zs 0) (zA ys 0)) (zA ys 1 * inv (mo zs 1) (zA ys 1)) (zA ys 2 * inv (mo zs 2) (zA ys 2)) (zA ys 3 * inv (mo zs 3) (zA ys 3)) (mo zs 0) (mo zs 1) (mo zs 2) (mo zs 3) zs.length hS.ha hS.hb hS.hc hS.hd w
    have hof := fun w => c_restsOf 1 (mo zs 0) (mo zs 1) (mo zs 2) (mo zs 3) zs.length hS.ha hS.hb hS.hc hS.hd w
    have hli := fun w => c_list (inv (mo zs 0) (zA ys 0)) (inv (mo zs 1) (zA ys 1)) (inv (mo zs 2) (zA ys 2)) (inv (mo zs 3) (zA ys 3)) (mo zs 0) (mo zs 1) (mo zs 2) (mo zs 3) zs.length hl1 hl4 w
    have heq : ∀ w : World, (Op.equalIn 10000 56 (restV ((zA ys 0 * inv (mo zs 0) (zA ys 0)) % mo zs 0) ((zA ys 1 * inv (mo zs 1) (zA ys 1)) % mo zs 1) ((zA ys 2 * inv (mo zs 2) (zA ys 2)) % mo zs 2) ((zA ys 3 * inv (mo zs 3) (zA ys 3)) % mo zs 3)) (restV (1 % mo zs 0) (1 % mo zs 1) (1 % mo zs 2) (1 % mo zs 3))).run Try.prog w = .ok (bakB zs ys) w := fun w => by rw [run_eq4]; rfl
    have ho : bacB zs ys = bakB zs ys := by rw [bacB, hb]; rfl
    have hr : bacR zs ys = bif bakB zs ys then [inv (mo zs 0) (zA ys 0), inv (mo zs 1) (zA ys 1), inv (mo zs 2) (zA ys 2), inv (mo zs 3) (zA ys 3)].take zs.length else [] := by rw [bacR, ho]; rfl
    rw [hb, okZ_bas hb] at hcon
    simp only [basW, resV, selI_t] at hcon
    rw [hr, ho]
    clear hb hr ho hz hy u0 u1 u2 u3 hS hl1 hl4
    generalize bakB zs ys = T at *
    generalize zs.length = N at *
    generalize mo zs 0 = a at *
    generalize mo zs 1 = b at *
    generalize mo zs 2 = c at *
    generalize mo zs 3 = d at *
    generalize zA ys 0 = p at *
    generalize zA ys 1 = q at *
    generalize zA ys 2 = r at *
    generalize zA ys 3 = t at *
    generalize inv a p = p' at *
    generalize inv b q = q' at *
    generalize inv c r = r' at *
    generalize inv d t = t' at *
    generalize 1 % a = o0 at *
    generalize 1 % b = o1 at *
    generalize 1 % c = o2 at *
    generalize 1 % d = o3 at *
    cases T
    all_goals simp only [cond_true, cond_false]
    all_goals
      go_enter Try.func42, Try.ntmps42
      go_wp2_with (first
        | (go_at_call 55; refine hcon.mono ?_; rintro e w2 ⟨rfl, hb2⟩; have hB := ba (ba hb2 (.cells #[.int .i64 a, .int .i64 b, .int .i64 c, .int .i64 d, .int .i64 N] 50)) (.cells #[.int .i64 p, .int .i64 q, .int .i64 r, .int .i64 t] 56); have hM := (Arr.newAt w2 #[.int .i64 a, .int .i64 b, .int .i64 c, .int .i64 d, .int .i64 N] 50 _ rfl).alloc (.cells #[.int .i64 p, .int .i64 q, .int .i64 r, .int .i64 t] 56); have hM1 := (Arr.newAt (w2.alloc (.cells #[.int .i64 a, .int .i64 b, .int .i64 c, .int .i64 d, .int .i64 N] 50)) #[.int .i64 p, .int .i64 q, .int .i64 r, .int .i64 t] 56 (w2.heap.size + 1) (by simp)))
        | (go_at_call 68; refine (hbk _).mono ?_; rintro e w3 ⟨rfl, hb3⟩; have hM := hM.keep hb3; have hM1 := hM1.keep hb3; have hB := bt2 hB hb3)
        | fail)
      have hM2 := Arr.newAt w3 #[.int .i64 p', .int .i64 q', .int .i64 r', .int .i64 t'] 56 _ rfl
      have hM := hM.alloc (.cells #[.int .i64 p', .int .i64 q', .int .i64 r', .int .i64 t'] 56)
      have hM1 := hM1.alloc (.cells #[.int .i64 p', .int .i64 q', .int .i64 r', .int .i64 t'] 56)
      have hB := ba hB (.cells #[.int .i64 p', .int .i64 q', .int .i64 r', .int .i64 t'] 56)
      clear hbk hcon hb2
      have e1 : w2.heap.size ≠ w3.heap.size := by have := hb3.size; simp at this; omega
      have e2 : w2.heap.size + 1 ≠ w3.heap.size := by have := hb3.size; simp at this; omega
      clear hb3
      generalize w3.alloc (.cells #[.int .i64 p', .int .i64 q', .int .i64 r', .int .i64 t'] 56) = w4 at *
      generalize w2.heap.size = B at *
      generalize w3.heap.size = C at *
      obtain ⟨m0, m1, m2, m3, m4⟩ := Arr.get5 hM
      obtain ⟨m5, m6, m7, m8⟩ := Arr.get4 hM1
      obtain ⟨m9, ma, mb, mc⟩ := Arr.get4 hM2
      have g0 : ∀ p : Abv w4, p.x.cell? _ = some _ := fun p => p.cell m0
      have g1 : ∀ p : Abv w4, p.x.cell? _ = some _ := fun p => p.cell m1
      have g2 : ∀ p : Abv w4, p.x.cell? _ = some _ := fun p => p.cell m2
      have g3 : ∀ p : Abv w4, p.x.cell? _ = some _ := fun p => p.cell m3
      have g4 : ∀ p : Abv w4, p.x.cell? _ = some _ := fun p => p.cell m4
      have g5 : ∀ p : Abv w4, p.x.cell? _ = some _ := fun p => p.cell m5
      have g6 : ∀ p : Abv w4, p.x.cell? _ = some _ := fun p => p.cell m6
      have g7 : ∀ p : Abv w4, p.x.cell? _ = some _ := fun p => p.cell m7
      have g8 : ∀ p : Abv w4, p.x.cell? _ = some _ := fun p => p.cell m8
      have g9 : ∀ p : Abv w4, p.x.cell? _ = some _ := fun p => p.cell m9
      have ga : ∀ p : Abv w4, p.x.cell? _ = some _ := fun p => p.cell ma
      have gb : ∀ p : Abv w4, p.x.cell? _ = some _ := fun p => p.cell mb
      have gc : ∀ p : Abv w4, p.x.cell? _ = some _ := fun p => p.cell mc
      have hc1 : ∀ y : Abv w4, _ := fun y => hti y.x
      have hc2 : ∀ y : Abv w4, _ := fun y => hby y.x
      have hc3 : ∀ y : Abv w4, _ := fun y => hof y.x
      clear m0 m1 m2 m3 m4 m5 m6 m7 m8 m9 ma mb mc hti hby hof
      refine wp_region_above (by kernel_rfl) (by kernel_rfl) ?_
      repeat (refine q_step (fun K hK => ?_); go_simp; refine hK _ ?_; clear hK K)
      refine q_step (fun K hK => ?_)
      go_simp
      apply Exists.intro
      refine ⟨fun _ => calls_above (hc1 _), hK _ ?_⟩
      clear hK K
      repeat (refine q_step (fun K hK => ?_); go_simp; refine hK _ ?_; clear hK K)
      refine q_step (fun K hK => ?_)
      go_simp
      apply Exists.intro
      refine ⟨fun _ => calls_above (hc2 _), hK _ ?_⟩
      clear hK K
      repeat (refine q_step (fun K hK => ?_); go_simp; refine hK _ ?_; clear hK K)
      refine q_step (fun K hK => ?_)
      go_simp
      apply Exists.intro
      refine ⟨fun _ => calls_above (hc3 _), hK _ ?_⟩
      clear hK K
      repeat (refine q_step (fun K hK => ?_); go_simp; refine hK _ ?_; clear hK K)
      refine q_nil ?_
      intro _ hw'
      obtain ⟨y, hy⟩ := hw'
      subst hy
      have hM := hM.keep y.h
      have hM2 := hM2.keep y.h
      have hB := bt2 hB y.h
      clear g0 g1 g2 g3 g4 g5 g6 g7 g8 g9 ga gb gc hc1 hc2 hc3 heq hM1
      obtain ⟨m0, m1, m2, m3, m4⟩ := Arr.get5 hM
      obtain ⟨m9, ma, mb, mc⟩ := Arr.get4 hM2
      go_wp2_with (first | (go_at_call 51; refine (hli _).mono ?_; rintro e w6 ⟨v6, rfl, hO6, hb6⟩) | fail)
      go_ret2
      first
      | exact ⟨_, rfl, World.ownsRow_nil _ _ _ _, hB⟩
      | exact ⟨_, rfl, hO6.low hB.size, bt2 hB hb6⟩
end Go.Proofs.Ytnbejgbkabaleaa
