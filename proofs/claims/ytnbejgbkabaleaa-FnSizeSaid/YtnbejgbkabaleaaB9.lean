/- Chapter 5, the program: RestAdd, RestTimes, RestLess, RestBack. -/
import Derived.Test.YtnbejgbkabaleaaB8
namespace Go.Proofs.Ytnbejgbkabaleaa
open Go.RowKit
theorem sys_r30 {a b c d p q r t : Int} (h : Sys a b c d p q r t) : R30 p ∧ R30 q ∧ R30 r ∧ R30 t := by
  have h0 := h.rts 0 (by omega)
  have h1 := h.rts 1 (by omega)
  have h2 := h.rts 2 (by omega)
  have h3 := h.rts 3 (by omega)
  simp only [at4] at h0 h1 h2 h3
  have := h.ha.2
  have := h.hb.2
  have := h.hc.2
  have := h.hd.2
  exact ⟨⟨h0.1, by omega⟩, ⟨h1.1, by omega⟩, ⟨h2.1, by omega⟩, ⟨h3.1, by omega⟩⟩
theorem twoB_parts {zs ys xs : List Int} (h : twoB zs ys xs = true) : okZ zs ys = true ∧ okZ zs xs = true := by
  unfold twoB at h
  simp only [Bool.and_eq_true] at h
  refine ⟨h.1, ?_⟩
  rw [okZ, okZ_bas h.1, h.2]; rfl

def addL (zs ys xs : List Int) : List Int := four (fun i => (zA ys i + zA xs i) % mo zs i) zs.length
def addR (zs ys xs : List Int) : List Int := bif twoB zs ys xs then addL zs ys xs else []
set_option maxRecDepth 20000 in
set_option maxHeartbeats 4000000 in
theorem c_implRestAdd (s u x : Option Addr) (n cap m cap2 l cap3 : Nat) (zs ys xs : List Int) (hn : n ≤ 1048576) (hm : m ≤ 1048576) (hl : l ≤ 1048576) (w : World) (hz : Ints w s n zs) (hy : Ints w u m ys) (hx : Ints w x l xs) :
    Calls Try.prog 28 #[.slice s n cap, .slice u m cap2, .slice x l cap3] w (RetJ w (addR zs ys xs) (twoB zs ys xs)) := by
  have hcon := c_twoTold s u x n cap m cap2 l cap3 zs ys xs hn hm hl w hz hy hx
  cases hb : twoB zs ys xs
  · have hr : addR zs ys xs = [] := by rw [addR, hb]; rfl
    rw [hb] at hcon
    rw [hr]
    simp only [basW, resV, selI_f] at hcon
    clear hb hr
    go_enter Try.func28, Try.ntmps28
    go_wp2_with (first | (go_at_call 63; refine hcon.mono ?_; rintro e w2 ⟨rfl, hb2⟩) | fail)
    go_ret2
    exact ⟨_, rfl, World.ownsRow_nil _ _ _ _, ba (ba (ba hb2 _) _) _⟩
  · obtain ⟨hb1, hb2⟩ := twoB_parts hb
    obtain ⟨hl1, hl4⟩ := bas_len (okZ_bas hb1)
    have hS := okZ_sys hb1
    have hS2 := okZ_sys hb2
    obtain ⟨u0, u1, u2, u3⟩ := sys_r30 hS
    obtain ⟨v0, v1, v2, v3⟩ := sys_r30 hS2
    have hr : addR zs ys xs = [(zA ys 0 + zA xs 0) % mo zs 0, (zA ys 1 + zA xs 1) % mo zs 1, (zA ys 2 + zA xs 2) % mo zs 2, (zA ys 3 + zA xs 3) % mo zs 3].take zs.length := by rw [addR, hb]; rfl
    rw [hb, hb1] at hcon
    simp only [basW, resV, selI_t] at hcon
    rw [hr]
    have hop := fun w => c_plus _ _ _ _ _ _ _ _ u0 u1 u2 u3 v0 v1 v2 v3 w
    have hby := fun w => c_by (zA ys 0 + zA xs 0) (zA ys 1 + zA xs 1) (zA ys 2 + zA xs 2) (zA ys 3 + zA xs 3) (mo zs 0) (mo zs 1) (mo zs 2) (mo zs 3) zs.length hS.ha hS.hb hS.hc hS.hd w
    have hli := fun w => c_list ((zA ys 0 + zA xs 0) % mo zs 0) ((zA ys 1 + zA xs 1) % mo zs 1) ((zA ys 2 + zA xs 2) % mo zs 2) ((zA ys 3 + zA xs 3) % mo zs 3) (mo zs 0) (mo zs 1) (mo zs 2) (mo zs 3) zs.length hl1 hl4 w
    clear hb hb1 hb2 hr hS hS2 hz hy hx u0 u1 u2 u3 v0 v1 v2 v3
    generalize zs.length = N at *
    generalize mo zs 0 = a at *
    generalize mo zs 1 = b at *
    generalize mo zs 2 = c at *
    generalize mo zs 3 = d at *
    generalize zA xs 0 = p at *
    generalize zA xs 1 = q at *
    generalize zA xs 2 = r at *
    generalize zA xs 3 = t at *
    generalize zA ys 0 = p' at *
    generalize zA ys 1 = q' at *
    generalize zA ys 2 = r' at *
    generalize zA ys 3 = t' at *
    go_enter Try.func28, Try.ntmps28
    go_wp2_with (first | (go_at_call 63; refine hcon.mono ?_; rintro e w2 ⟨rfl, hb2⟩) | fail)
    have hB := ba (ba (ba hb2 (.cells #[.int .i64 a, .int .i64 b, .int .i64 c, .int .i64 d, .int .i64 N] 50)) (.cells #[.int .i64 p', .int .i64 q', .int .i64 r', .int .i64 t'] 56)) (.cells #[.int .i64 p, .int .i64 q, .int .i64 r, .int .i64 t] 56)
    have hM := ((Arr.newAt w2 #[.int .i64 a, .int .i64 b, .int .i64 c, .int .i64 d, .int .i64 N] 50 _ rfl).alloc (.cells #[.int .i64 p', .int .i64 q', .int .i64 r', .int .i64 t'] 56)).alloc (.cells #[.int .i64 p, .int .i64 q, .int .i64 r, .int .i64 t] 56)
    have hM1 := (Arr.newAt (w2.alloc (.cells #[.int .i64 a, .int .i64 b, .int .i64 c, .int .i64 d, .int .i64 N] 50)) #[.int .i64 p', .int .i64 q', .int .i64 r', .int .i64 t'] 56 (w2.heap.size + 1) (by simp)).alloc (.cells #[.int .i64 p, .int .i64 q, .int .i64 r, .int .i64 t] 56)
    have hM2 := Arr.newAt ((w2.alloc (.cells #[.int .i64 a, .int .i64 b, .int .i64 c, .int .i64 d, .int .i64 N] 50)).alloc (.cells #[.int .i64 p', .int .i64 q', .int .i64 r', .int .i64 t'] 56)) #[.int .i64 p, .int .i64 q, .int .i64 r, .int .i64 t] 56 (w2.heap.size + 1 + 1) (by simp)
    generalize (((w2.alloc (.cells #[.int .i64 a, .int .i64 b, .int .i64 c, .int .i64 d, .int .i64 N] 50)).alloc (.cells #[.int .i64 p', .int .i64 q', .int .i64 r', .int .i64 t'] 56)).alloc (.cells #[.int .i64 p, .int .i64 q, .int .i64 r, .int .i64 t] 56)) = w3 at *
    generalize w2.heap.size = B at *
    obtain ⟨m0, m1, m2, m3, m4⟩ := Arr.get5 hM
    obtain ⟨m5, m6, m7, m8⟩ := Arr.get4 hM1
    obtain ⟨m9, ma, mb, mc⟩ := Arr.get4 hM2
    clear hcon hM hM1 hM2 hb2
    go_region_held3 (fun w' => w'.cell? ⟨B, 0, none⟩ = some (.int .i64 a) ∧ w'.cell? ⟨B, 1, none⟩ = some (.int .i64 b) ∧ w'.cell? ⟨B, 2, none⟩ = some (.int .i64 c) ∧ w'.cell? ⟨B, 3, none⟩ = some (.int .i64 d) ∧ w'.cell? ⟨B, 4, none⟩ = some (.int .i64 N) ∧ w'.cell? ⟨B + 1, 0, none⟩ = some (.int .i64 p') ∧ w'.cell? ⟨B + 1, 1, none⟩ = some (.int .i64 q') ∧ w'.cell? ⟨B + 1, 2, none⟩ = some (.int .i64 r') ∧ w'.cell? ⟨B + 1, 3, none⟩ = some (.int .i64 t') ∧ w'.cell? ⟨B + 1 + 1, 0, none⟩ = some (.int .i64 p) ∧ w'.cell? ⟨B + 1 + 1, 1, none⟩ = some (.int .i64 q) ∧ w'.cell? ⟨B + 1 + 1, 2, none⟩ = some (.int .i64 r) ∧ w'.cell? ⟨B + 1 + 1, 3, none⟩ = some (.int .i64 t)) (go_keep) (first
      | (go_at_call 64; refine (hop _).mono ?_; rintro e w4 ⟨rfl, hb4⟩; have hB4 : Below w.heap.size w w4 := bt2 hB.drew hb4; have g0 := keepc hb4 (a := ⟨B, 0, none⟩) (v := .int .i64 a) (by go_keep); have g1 := keepc hb4 (a := ⟨B, 1, none⟩) (v := .int .i64 b) (by go_keep); have g2 := keepc hb4 (a := ⟨B, 2, none⟩) (v := .int .i64 c) (by go_keep); have g3 := keepc hb4 (a := ⟨B, 3, none⟩) (v := .int .i64 d) (by go_keep); have g4 := keepc hb4 (a := ⟨B, 4, none⟩) (v := .int .i64 N) (by go_keep); have gr0 := keepc hb4 (a := ⟨B + 1, 0, none⟩) (v := .int .i64 p') (by go_keep); have gr1 := keepc hb4 (a := ⟨B + 1, 1, none⟩) (v := .int .i64 q') (by go_keep); have gr2 := keepc hb4 (a := ⟨B + 1, 2, none⟩) (v := .int .i64 r') (by go_keep); have gr3 := keepc hb4 (a := ⟨B + 1, 3, none⟩) (v := .int .i64 t') (by go_keep); have gs0 := keepc hb4 (a := ⟨B + 1 + 1, 0, none⟩) (v := .int .i64 p) (by go_keep); have gs1 := keepc hb4 (a := ⟨B + 1 + 1, 1, none⟩) (v := .int .i64 q) (by go_keep); have gs2 := keepc hb4 (a := ⟨B + 1 + 1, 2, none⟩) (v := .int .i64 r) (by go_keep); have gs3 := keepc hb4 (a := ⟨B + 1 + 1, 3, none⟩) (v := .int .i64 t) (by go_keep))
      | (go_at_call 65; refine (hby _).mono ?_; rintro e w5 ⟨rfl, hb5⟩; have hB5 : Below w.heap.size w w5 := bt2 hB4 hb5; have k0 := keepc hb5 (a := ⟨B, 0, none⟩) (v := .int .i64 a) (by go_keep); have k1 := keepc hb5 (a := ⟨B, 1, none⟩) (v := .int .i64 b) (by go_keep); have k2 := keepc hb5 (a := ⟨B, 2, none⟩) (v := .int .i64 c) (by go_keep); have k3 := keepc hb5 (a := ⟨B, 3, none⟩) (v := .int .i64 d) (by go_keep); have k4 := keepc hb5 (a := ⟨B, 4, none⟩) (v := .int .i64 N) (by go_keep); have kr0 := keepc hb5 (a := ⟨B + 1, 0, none⟩) (v := .int .i64 p') (by go_keep); have kr1 := keepc hb5 (a := ⟨B + 1, 1, none⟩) (v := .int .i64 q') (by go_keep); have kr2 := keepc hb5 (a := ⟨B + 1, 2, none⟩) (v := .int .i64 r') (by go_keep); have kr3 := keepc hb5 (a := ⟨B + 1, 3, none⟩) (v := .int .i64 t') (by go_keep); have ks0 := keepc hb5 (a := ⟨B + 1 + 1, 0, none⟩) (v := .int .i64 p) (by go_keep); have ks1 := keepc hb5 (a := ⟨B + 1 + 1, 1, none⟩) (v := .int .i64 q) (by go_keep); have ks2 := keepc hb5 (a := ⟨B + 1 + 1, 2, none⟩) (v := .int .i64 r) (by go_keep); have ks3 := keepc hb5 (a := ⟨B + 1 + 1, 3, none⟩) (v := .int .i64 t) (by go_keep))
      | (go_at_call 51; refine (hli _).mono ?_; rintro e w6 ⟨v6, rfl, hO6, hb6⟩; have hB6 := bt2 hB5 hb6; have l0 := keepc hb6 (a := ⟨B, 0, none⟩) (v := .int .i64 a) (by go_keep); have l1 := keepc hb6 (a := ⟨B, 1, none⟩) (v := .int .i64 b) (by go_keep); have l2 := keepc hb6 (a := ⟨B, 2, none⟩) (v := .int .i64 c) (by go_keep); have l3 := keepc hb6 (a := ⟨B, 3, none⟩) (v := .int .i64 d) (by go_keep); have l4 := keepc hb6 (a := ⟨B, 4, none⟩) (v := .int .i64 N) (by go_keep); have lr0 := keepc hb6 (a := ⟨B + 1, 0, none⟩) (v := .int .i64 p') (by go_keep); have lr1 := keepc hb6 (a := ⟨B + 1, 1, none⟩) (v := .int .i64 q') (by go_keep); have lr2 := keepc hb6 (a := ⟨B + 1, 2, none⟩) (v := .int .i64 r') (by go_keep); have lr3 := keepc hb6 (a := ⟨B + 1, 3, none⟩) (v := .int .i64 t') (by go_keep); have ls0 := keepc hb6 (a := ⟨B + 1 + 1, 0, none⟩) (v := .int .i64 p) (by go_keep); have ls1 := keepc hb6 (a := ⟨B + 1 + 1, 1, none⟩) (v := .int .i64 q) (by go_keep); have ls2 := keepc hb6 (a := ⟨B + 1 + 1, 2, none⟩) (v := .int .i64 r) (by go_keep); have ls3 := keepc hb6 (a := ⟨B + 1 + 1, 3, none⟩) (v := .int .i64 t) (by go_keep))
      | fail)
    all_goals
      go_wp2_with fail
      go_ret2
      exact ⟨_, rfl, hO6.low hB5.size, hB6⟩

def mulL (zs ys xs : List Int) : List Int := four (fun i => (zA ys i * zA xs i) % mo zs i) zs.length
def mulR (zs ys xs : List Int) : List Int := bif twoB zs ys xs then mulL zs ys xs else []
set_option maxRecDepth 20000 in
set_option maxHeartbeats 4000000 in
theorem c_implRestTimes (s u x : Option Addr) (n cap m cap2 l cap3 : Nat) (zs ys xs : List Int) (hn : n ≤ 1048576) (hm : m ≤ 1048576) (hl : l ≤ 1048576) (w : World) (hz : Ints w s n zs) (hy : Ints w u m ys) (hx : Ints w x l xs) :
    Calls Try.prog 31 #[.slice s n cap, .slice u m cap2, .slice x l cap3] w (RetJ w (mulR zs ys xs) (twoB zs ys xs)) := by
  have hcon := c_twoTold s u x n cap m cap2 l cap3 zs ys xs hn hm hl w hz hy hx
  cases hb : twoB zs ys xs
  · have hr : mulR zs ys xs = [] := by rw [mulR, hb]; rfl
    rw [hb] at hcon
    rw [hr]
    simp only [basW, resV, selI_f] at hcon
    clear hb hr
    go_enter Try.func31, Try.ntmps31
    go_wp2_with (first | (go_at_call 63; refine hcon.mono ?_; rintro e w2 ⟨rfl, hb2⟩) | fail)
    go_ret2
    exact ⟨_, rfl, World.ownsRow_nil _ _ _ _, ba (ba (ba hb2 _) _) _⟩
  · obtain ⟨hb1, hb2⟩ := twoB_parts hb
    obtain ⟨hl1, hl4⟩ := bas_len (okZ_bas hb1)
    have hS := okZ_sys hb1
    have hS2 := okZ_sys hb2
    obtain ⟨u0, u1, u2, u3⟩ := sys_r30 hS
    obtain ⟨v0, v1, v2, v3⟩ := sys_r30 hS2
    have hr : mulR zs ys xs = [(zA ys 0 * zA xs 0) % mo zs 0, (zA ys 1 * zA xs 1) % mo zs 1, (zA ys 2 * zA xs 2) % mo zs 2, (zA ys 3 * zA xs 3) % mo zs 3].take zs.length := by rw [mulR, hb]; rfl
    rw [hb, hb1] at hcon
    simp only [basW, resV, selI_t] at hcon
    rw [hr]
    have hop := fun w => c_times _ _ _ _ _ _ _ _ u0 u1 u2 u3 v0 v1 v2 v3 w
    have hby := fun w => c_by (zA ys 0 * zA xs 0) (zA ys 1 * zA xs 1) (zA ys 2 * zA xs 2) (zA ys 3 * zA xs 3) (mo zs 0) (mo zs 1) (mo zs 2) (mo zs 3) zs.length hS.ha hS.hb hS.hc hS.hd w
    have hli := fun w => c_list ((zA ys 0 * zA xs 0) % mo zs 0) ((zA ys 1 * zA xs 1) % mo zs 1) ((zA ys 2 * zA xs 2) % mo zs 2) ((zA ys 3 * zA xs 3) % mo zs 3) (mo zs 0) (mo zs 1) (mo zs 2) (mo zs 3) zs.length hl1 hl4 w
    clear hb hb1 hb2 hr hS hS2 hz hy hx u0 u1 u2 u3 v0 v1 v2 v3
    generalize zs.length = N at *
    generalize mo zs 0 = a at *
    generalize mo zs 1 = b at *
    generalize mo zs 2 = c at *
    generalize mo zs 3 = d at *
    generalize zA xs 0 = p at *
    generalize zA xs 1 = q at *
    generalize zA xs 2 = r at *
    generalize zA xs 3 = t at *
    generalize zA ys 0 = p' at *
    generalize zA ys 1 = q' at *
    generalize zA ys 2 = r' at *
    generalize zA ys 3 = t' at *
    go_enter Try.func31, Try.ntmps31
    go_wp2_with (first | (go_at_call 63; refine hcon.mono ?_; rintro e w2 ⟨rfl, hb2⟩) | fail)
    have hB := ba (ba (ba hb2 (.cells #[.int .i64 a, .int .i64 b, .int .i64 c, .int .i64 d, .int .i64 N] 50)) (.cells #[.int .i64 p', .int .i64 q', .int .i64 r', .int .i64 t'] 56)) (.cells #[.int .i64 p, .int .i64 q, .int .i64 r, .int .i64 t] 56)
    have hM := ((Arr.newAt w2 #[.int .i64 a, .int .i64 b, .int .i64 c, .int .i64 d, .int .i64 N] 50 _ rfl).alloc (.cells #[.int .i64 p', .int .i64 q', .int .i64 r', .int .i64 t'] 56)).alloc (.cells #[.int .i64 p, .int .i64 q, .int .i64 r, .int .i64 t] 56)
    have hM1 := (Arr.newAt (w2.alloc (.cells #[.int .i64 a, .int .i64 b, .int .i64 c, .int .i64 d, .int .i64 N] 50)) #[.int .i64 p', .int .i64 q', .int .i64 r', .int .i64 t'] 56 (w2.heap.size + 1) (by simp)).alloc (.cells #[.int .i64 p, .int .i64 q, .int .i64 r, .int .i64 t] 56)
    have hM2 := Arr.newAt ((w2.alloc (.cells #[.int .i64 a, .int .i64 b, .int .i64 c, .int .i64 d, .int .i64 N] 50)).alloc (.cells #[.int .i64 p', .int .i64 q', .int .i64 r', .int .i64 t'] 56)) #[.int .i64 p, .int .i64 q, .int .i64 r, .int .i64 t] 56 (w2.heap.size + 1 + 1) (by simp)
    generalize (((w2.alloc (.cells #[.int .i64 a, .int .i64 b, .int .i64 c, .int .i64 d, .int .i64 N] 50)).alloc (.cells #[.int .i64 p', .int .i64 q', .int .i64 r', .int .i64 t'] 56)).alloc (.cells #[.int .i64 p, .int .i64 q, .int .i64 r, .int .i64 t] 56)) = w3 at *
    generalize w2.heap.size = B at *
    obtain ⟨m0, m1, m2, m3, m4⟩ := Arr.get5 hM
    obtain ⟨m5, m6, m7, m8⟩ := Arr.get4 hM1
    obtain ⟨m9, ma, mb, mc⟩ := Arr.get4 hM2
    clear hcon hM hM1 hM2 hb2
    go_region_held3 (fun w' => w'.cell? ⟨B, 0, none⟩ = some (.int .i64 a) ∧ w'.cell? ⟨B, 1, none⟩ = some (.int .i64 b) ∧ w'.cell? ⟨B, 2, none⟩ = some (.int .i64 c) ∧ w'.cell? ⟨B, 3, none⟩ = some (.int .i64 d) ∧ w'.cell? ⟨B, 4, none⟩ = some (.int .i64 N) ∧ w'.cell? ⟨B + 1, 0, none⟩ = some (.int .i64 p') ∧ w'.cell? ⟨B + 1, 1, none⟩ = some (.int .i64 q') ∧ w'.cell? ⟨B + 1, 2, none⟩ = some (.int .i64 r') ∧ w'.cell? ⟨B + 1, 3, none⟩ = some (.int .i64 t') ∧ w'.cell? ⟨B + 1 + 1, 0, none⟩ = some (.int .i64 p) ∧ w'.cell? ⟨B + 1 + 1, 1, none⟩ = some (.int .i64 q) ∧ w'.cell? ⟨B + 1 + 1, 2, none⟩ = some (.int .i64 r) ∧ w'.cell? ⟨B + 1 + 1, 3, none⟩ = some (.int .i64 t)) (go_keep) (first
      | (go_at_call 66; refine (hop _).mono ?_; rintro e w4 ⟨rfl, hb4⟩; have hB4 : Below w.heap.size w w4 := bt2 hB.drew hb4; have g0 := keepc hb4 (a := ⟨B, 0, none⟩) (v := .int .i64 a) (by go_keep); have g1 := keepc hb4 (a := ⟨B, 1, none⟩) (v := .int .i64 b) (by go_keep); have g2 := keepc hb4 (a := ⟨B, 2, none⟩) (v := .int .i64 c) (by go_keep); have g3 := keepc hb4 (a := ⟨B, 3, none⟩) (v := .int .i64 d) (by go_keep); have g4 := keepc hb4 (a := ⟨B, 4, none⟩) (v := .int .i64 N) (by go_keep); have gr0 := keepc hb4 (a := ⟨B + 1, 0, none⟩) (v := .int .i64 p') (by go_keep); have gr1 := keepc hb4 (a := ⟨B + 1, 1, none⟩) (v := .int .i64 q') (by go_keep); have gr2 := keepc hb4 (a := ⟨B + 1, 2, none⟩) (v := .int .i64 r') (by go_keep); have gr3 := keepc hb4 (a := ⟨B + 1, 3, none⟩) (v := .int .i64 t') (by go_keep); have gs0 := keepc hb4 (a := ⟨B + 1 + 1, 0, none⟩) (v := .int .i64 p) (by go_keep); have gs1 := keepc hb4 (a := ⟨B + 1 + 1, 1, none⟩) (v := .int .i64 q) (by go_keep); have gs2 := keepc hb4 (a := ⟨B + 1 + 1, 2, none⟩) (v := .int .i64 r) (by go_keep); have gs3 := keepc hb4 (a := ⟨B + 1 + 1, 3, none⟩) (v := .int .i64 t) (by go_keep))
      | (go_at_call 65; refine (hby _).mono ?_; rintro e w5 ⟨rfl, hb5⟩; have hB5 : Below w.heap.size w w5 := bt2 hB4 hb5; have k0 := keepc hb5 (a := ⟨B, 0, none⟩) (v := .int .i64 a) (by go_keep); have k1 := keepc hb5 (a := ⟨B, 1, none⟩) (v := .int .i64 b) (by go_keep); have k2 := keepc hb5 (a := ⟨B, 2, none⟩) (v := .int .i64 c) (by go_keep); have k3 := keepc hb5 (a := ⟨B, 3, none⟩) (v := .int .i64 d) (by go_keep); have k4 := keepc hb5 (a := ⟨B, 4, none⟩) (v := .int .i64 N) (by go_keep); have kr0 := keepc hb5 (a := ⟨B + 1, 0, none⟩) (v := .int .i64 p') (by go_keep); have kr1 := keepc hb5 (a := ⟨B + 1, 1, none⟩) (v := .int .i64 q') (by go_keep); have kr2 := keepc hb5 (a := ⟨B + 1, 2, none⟩) (v := .int .i64 r') (by go_keep); have kr3 := keepc hb5 (a := ⟨B + 1, 3, none⟩) (v := .int .i64 t') (by go_keep); have ks0 := keepc hb5 (a := ⟨B + 1 + 1, 0, none⟩) (v := .int .i64 p) (by go_keep); have ks1 := keepc hb5 (a := ⟨B + 1 + 1, 1, none⟩) (v := .int .i64 q) (by go_keep); have ks2 := keepc hb5 (a := ⟨B + 1 + 1, 2, none⟩) (v := .int .i64 r) (by go_keep); have ks3 := keepc hb5 (a := ⟨B + 1 + 1, 3, none⟩) (v := .int .i64 t) (by go_keep))
      | (go_at_call 51; refine (hli _).mono ?_; rintro e w6 ⟨v6, rfl, hO6, hb6⟩; have hB6 := bt2 hB5 hb6; have l0 := keepc hb6 (a := ⟨B, 0, none⟩) (v := .int .i64 a) (by go_keep); have l1 := keepc hb6 (a := ⟨B, 1, none⟩) (v := .int .i64 b) (by go_keep); have l2 := keepc hb6 (a := ⟨B, 2, none⟩) (v := .int .i64 c) (by go_keep); have l3 := keepc hb6 (a := ⟨B, 3, none⟩) (v := .int .i64 d) (by go_keep); have l4 := keepc hb6 (a := ⟨B, 4, none⟩) (v := .int .i64 N) (by go_keep); have lr0 := keepc hb6 (a := ⟨B + 1, 0, none⟩) (v := .int .i64 p') (by go_keep); have lr1 := keepc hb6 (a := ⟨B + 1, 1, none⟩) (v := .int .i64 q') (by go_keep); have lr2 := keepc hb6 (a := ⟨B + 1, 2, none⟩) (v := .int .i64 r') (by go_keep); have lr3 := keepc hb6 (a := ⟨B + 1, 3, none⟩) (v := .int .i64 t') (by go_keep); have ls0 := keepc hb6 (a := ⟨B + 1 + 1, 0, none⟩) (v := .int .i64 p) (by go_keep); have ls1 := keepc hb6 (a := ⟨B + 1 + 1, 1, none⟩) (v := .int .i64 q) (by go_keep); have ls2 := keepc hb6 (a := ⟨B + 1 + 1, 2, none⟩) (v := .int .i64 r) (by go_keep); have ls3 := keepc hb6 (a := ⟨B + 1 + 1, 3, none⟩) (v := .int .i64 t) (by go_keep))
      | fail)
    all_goals
      go_wp2_with fail
      go_ret2
      exact ⟨_, rfl, hO6.low hB5.size, hB6⟩
end Go.Proofs.Ytnbejgbkabaleaa
