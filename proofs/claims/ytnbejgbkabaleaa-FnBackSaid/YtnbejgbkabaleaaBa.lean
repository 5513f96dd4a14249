/- Chapter 5, the program: RestLess, RestBack. -/
import Derived.Test.YtnbejgbkabaleaaB9
namespace Go.Proofs.Ytnbejgbkabaleaa
open Go.RowKit
def lesZ (zs ys xs : List Int) : Bool := twoB zs ys xs && decide (numZ zs ys < numZ zs xs)
set_option maxRecDepth 20000 in
set_option maxHeartbeats 4000000 in
theorem c_implRestLess (s u x : Option Addr) (n cap m cap2 l cap3 : Nat) (zs ys xs : List Int) (hn : n ≤ 1048576) (hm : m ≤ 1048576) (hl : l ≤ 1048576) (w : World) (hz : Ints w s n zs) (hy : Ints w u m ys) (hx : Ints w x l xs) :
    Calls Try.prog 37 #[.slice s n cap, .slice u m cap2, .slice x l cap3] w fun e w' => e = .returned (.bool (lesZ zs ys xs)) ∧ Below w.heap.size w w' := by
  have hcon := c_twoTold s u x n cap m cap2 l cap3 zs ys xs hn hm hl w hz hy hx
  cases hb : twoB zs ys xs
  · have hr : lesZ zs ys xs = false := by rw [lesZ, hb]; rfl
    rw [hb] at hcon
    rw [hr]
    simp only [basW, resV, selI_f] at hcon
    clear hb hr
    go_enter Try.func37, Try.ntmps37
    go_wp2_with (first | (go_at_call 63; refine hcon.mono ?_; rintro e w2 ⟨rfl, hb2⟩) | fail)
    have hB := ba (ba (ba hb2 (.cells #[.int .i64 (selI (okZ zs ys) (mo zs 0)), .int .i64 (selI (okZ zs ys) (mo zs 1)), .int .i64 (selI (okZ zs ys) (mo zs 2)), .int .i64 (selI (okZ zs ys) (mo zs 3)), .int .i64 (selI (okZ zs ys) zs.length)] 50)) (.cells #[.int .i64 (selI (okZ zs ys) (zA ys 0)), .int .i64 (selI (okZ zs ys) (zA ys 1)), .int .i64 (selI (okZ zs ys) (zA ys 2)), .int .i64 (selI (okZ zs ys) (zA ys 3))] 56)) (.cells #[.int .i64 0, .int .i64 0, .int .i64 0, .int .i64 0] 56)
    generalize ((w2.alloc _).alloc _).alloc _ = w3 at *
    clear hcon hb2 hz hy hx
    refine wp_region_above (by kernel_rfl) (by kernel_rfl) ?_
    repeat (refine q_step (fun K hK => ?_); go_simp; first | (refine hK _ ?_; clear hK K) | fail)
    refine q_nil ?_
    intro _ hw'
    obtain ⟨y, hy⟩ := hw'
    subst hy
    go_wp2_with fail
    go_ret
    exact ⟨rfl, bt2 hB y.h⟩
  · obtain ⟨hb1, hb2⟩ := twoB_parts hb
    have hr : lesZ zs ys xs = decide (numZ zs ys < numZ zs xs) := by rw [lesZ, hb]; rfl
    rw [hb, hb1] at hcon
    simp only [basW, resV, selI_t] at hcon
    rw [hr]
    have hnu := fun w => c_numberOf _ _ _ _ _ _ _ _ zs.length (okZ_sys hb1) w
    have hnv := fun w => c_numberOf _ _ _ _ _ _ _ _ zs.length (okZ_sys hb2) w
    unfold numZ
    clear hb hb1 hb2 hr hz hy hx
    generalize zs.length = N at *
    generalize mo zs 0 = a at *
    generalize mo zs 1 = b at *
    generalize mo zs 2 = c at *
    generalize mo zs 3 = d at *
    generalize zA xs 0 = p at *
    generalize zA xs 1 = q at *
    generalize zA xs 2 = r at *
    generalize zA xs 3 = t at *
    generalize zA ys 0 = p' at *
    generalize zA ys 1 = q' at *
    generalize zA ys 2 = r' at *
    generalize zA ys 3 = t' at *
    generalize numK a b c d p q r t 4 = X at *
    generalize numK a b c d p' q' r' t' 4 = Y at *
    go_enter Try.func37, Try.ntmps37
    go_wp2_with (first | (go_at_call 63; refine hcon.mono ?_; rintro e w2 ⟨rfl, hb2⟩) | fail)
    have hB := ba (ba (ba hb2 (.cells #[.int .i64 a, .int .i64 b, .int .i64 c, .int .i64 d, .int .i64 N] 50)) (.cells #[.int .i64 p', .int .i64 q', .int .i64 r', .int .i64 t'] 56)) (.cells #[.int .i64 p, .int .i64 q, .int .i64 r, .int .i64 t] 56)
    have hM := ((Arr.newAt w2 #[.int .i64 a, .int .i64 b, .int .i64 c, .int .i64 d, .int .i64 N] 50 _ rfl).alloc (.cells #[.int .i64 p', .int .i64 q', .int .i64 r', .int .i64 t'] 56)).alloc (.cells #[.int .i64 p, .int .i64 q, .int .i64 r, .int .i64 t] 56)
    have hM1 := (Arr.newAt (w2.alloc (.cells #[.int .i64 a, .int .i64 b, .int .i64 c, .int .i64 d, .int .i64 N] 50)) #[.int .i64 p', .int .i64 q', .int .i64 r', .int .i64 t'] 56 (w2.heap.size + 1) (by simp)).alloc (.cells #[.int .i64 p, .int .i64 q, .int .i64 r, .int .i64 t] 56)
    have hM2 := Arr.newAt ((w2.alloc (.cells #[.int .i64 a, .int .i64 b, .int .i64 c, .int .i64 d, .int .i64 N] 50)).alloc (.cells #[.int .i64 p', .int .i64 q', .int .i64 r', .int .i64 t'] 56)) #[.int .i64 p, .int .i64 q, .int .i64 r, .int .i64 t] 56 (w2.heap.size + 1 + 1) (by simp)
    generalize (((w2.alloc (.cells #[.int .i64 a, .int .i64 b, .int .i64 c, .int .i64 d, .int .i64 N] 50)).alloc (.cells #[.int .i64 p', .int .i64 q', .int .i64 r', .int .i64 t'] 56)).alloc (.cells #[.int .i64 p, .int .i64 q, .int .i64 r, .int .i64 t] 56)) = w3 at *
    generalize w2.heap.size = B at *
    obtain ⟨m0, m1, m2, m3, m4⟩ := Arr.get5 hM
    obtain ⟨m5, m6, m7, m8⟩ := Arr.get4 hM1
    obtain ⟨m9, ma, mb, mc⟩ := Arr.get4 hM2
    have g0 : ∀ p : Abv w3, p.x.cell? _ = some _ := fun p => p.cell m0
    have g1 : ∀ p : Abv w3, p.x.cell? _ = some _ := fun p => p.cell m1
    have g2 : ∀ p : Abv w3, p.x.cell? _ = some _ := fun p => p.cell m2
    have g3 : ∀ p : Abv w3, p.x.cell? _ = some _ := fun p => p.cell m3
    have g4 : ∀ p : Abv w3, p.x.cell? _ = some _ := fun p => p.cell m4
    have g5 : ∀ p : Abv w3, p.x.cell? _ = some _ := fun p => p.cell m5
    have g6 : ∀ p : Abv w3, p.x.cell? _ = some _ := fun p => p.cell m6
    have g7 : ∀ p : Abv w3, p.x.cell? _ = some _ := fun p => p.cell m7
    have g8 : ∀ p : Abv w3, p.x.cell? _ = some _ := fun p => p.cell m8
    have g9 : ∀ p : Abv w3, p.x.cell? _ = some _ := fun p => p.cell m9
    have ga : ∀ p : Abv w3, p.x.cell? _ = some _ := fun p => p.cell ma
    have gb : ∀ p : Abv w3, p.x.cell? _ = some _ := fun p => p.cell mb
    have gc : ∀ p : Abv w3, p.x.cell? _ = some _ := fun p => p.cell mc
    have hcu : ∀ y : Abv w3, _ := fun y => hnu y.x
    have hcv : ∀ y : Abv w3, _ := fun y => hnv y.x
    clear m0 m1 m2 m3 m4 m5 m6 m7 m8 m9 ma mb mc hM hM1 hM2 hcon hb2
    refine wp_region_above (by kernel_rfl) (by kernel_rfl) ?_
    repeat (refine q_step (fun K hK => ?_); go_simp; refine hK _ ?_; clear hK K)
    refine q_step (fun K hK => ?_)
    go_simp
    apply Exists.intro
    refine ⟨fun _ => calls_above (hcu _), hK _ ?_⟩
    clear hK K
    repeat (refine q_step (fun K hK => ?_); go_simp; refine hK _ ?_; clear hK K)
    refine q_step (fun K hK => ?_)
    go_simp
    apply Exists.intro
    refine ⟨fun _ => calls_above (hcv _), hK _ ?_⟩
    clear hK K
    repeat (refine q_step (fun K hK => ?_); go_simp; refine hK _ ?_; clear hK K)
    refine q_nil ?_
    intro _ hw'
    obtain ⟨y, hy⟩ := hw'
    subst hy
    go_wp2_with fail
    go_ret
    exact ⟨rfl, bt2 hB y.h⟩
end Go.Proofs.Ytnbejgbkabaleaa
