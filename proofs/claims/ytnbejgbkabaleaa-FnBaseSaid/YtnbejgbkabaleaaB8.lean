/- Chapter 5, the program: RestOf, RestAdd, RestTimes, RestLess, RestBack. -/
import Derived.Test.YtnbejgbkabaleaaB7
namespace Go.Proofs.Ytnbejgbkabaleaa
open Go.RowKit
def ofZ (zs : List Int) (x : Int) : Bool := basB zs && decide (0 ≤ x) && decide (x < sizZ zs)
def rofL (zs : List Int) (x : Int) : List Int := four (fun i => x % mo zs i) zs.length
def rofR (zs : List Int) (x : Int) : List Int := bif ofZ zs x then rofL zs x else []
set_option maxRecDepth 20000 in
set_option maxHeartbeats 4000000 in
theorem c_implRestOf (s : Option Addr) (n cap : Nat) (zs : List Int) (x : Int) (hn : n ≤ 1048576) (w : World) (hz : Ints w s n zs) : Calls Try.prog 17 #[.slice s n cap, .int .i64 x] w (RetJ w (rofR zs x) (ofZ zs x)) := by
  have hcon := c_baseOf s n cap zs hn w hz
  cases hb : basB zs
  · have ho : ofZ zs x = false := by rw [ofZ, hb]; rfl
    rw [hb, basV_f hb] at hcon
    have hr : rofR zs x = [] := by rw [rofR, ho]; rfl
    rw [ho, hr]
    clear hb ho hr
    go_enter Try.func17, Try.ntmps17
    go_wp2_with (first | (go_at_call 46; refine hcon.mono ?_; rintro e w2 ⟨rfl, hb2⟩) | fail)
    go_ret2
    exact ⟨_, rfl, World.ownsRow_nil _ _ _ _, ba hb2 _⟩
  · rw [hb, basV_t hb] at hcon
    obtain ⟨hl1, hl4⟩ := bas_len hb
    have h0 := bas_mb hb 0
    have h1 := bas_mb hb 1
    have h2 := bas_mb hb 2
    have h3 := bas_mb hb 3
    have hsz := fun w => c_size (mo zs 0) (mo zs 1) (mo zs 2) (mo zs 3) zs.length h0 h1 h2 h3 w
    by_cases hx : 0 ≤ x ∧ x < sizZ zs
    · have ho : ofZ zs x = true := by rw [ofZ, hb, decide_eq_true hx.1, decide_eq_true hx.2]; rfl
      have hr : rofR zs x = [x % mo zs 0, x % mo zs 1, x % mo zs 2, x % mo zs 3].take zs.length := by rw [rofR, ho]; rfl
      have hx0 : ¬ x < 0 := by omega
      have hx2 : x < mo zs 0 * mo zs 1 * mo zs 2 * mo zs 3 := hx.2
      have hx1 : decide (mo zs 0 * mo zs 1 * mo zs 2 * mo zs 3 ≤ x) = false := decide_eq_false (by omega)
      have hro := fun w => c_restsOf x (mo zs 0) (mo zs 1) (mo zs 2) (mo zs 3) zs.length h0 h1 h2 h3 w
      have hli := fun w => c_list (x % mo zs 0) (x % mo zs 1) (x % mo zs 2) (x % mo zs 3) (mo zs 0) (mo zs 1) (mo zs 2) (mo zs 3) zs.length hl1 hl4 w
      rw [ho, hr]
      clear hb ho hr hx h0 h1 h2 h3 hx2
      generalize zs.length = N at *
      generalize mo zs 0 = a at *
      generalize mo zs 1 = b at *
      generalize mo zs 2 = c at *
      generalize mo zs 3 = d at *
      go_enter Try.func17, Try.ntmps17
      go_wp2_with (first | (go_at_call 46; refine hcon.mono ?_; rintro e w2 ⟨rfl, hb2⟩; have hM := Arr.newAt w2 #[.int .i64 a, .int .i64 b, .int .i64 c, .int .i64 d, .int .i64 N] 50 _ rfl; have hB := ba hb2 (.cells #[.int .i64 a, .int .i64 b, .int .i64 c, .int .i64 d, .int .i64 N] 50)) | (go_at_call 49; refine (hsz _).mono ?_; rintro e w3 ⟨rfl, hb3⟩; have hM := hM.keep hb3; have hB := bt2 hB hb3; obtain ⟨m0, m1, m2, m3, m4⟩ := Arr.get5 hM) | fail)
      generalize w2.heap.size = B at *
      clear hcon hsz hM hb2
      go_region_held3 (fun w' => w'.cell? ⟨B, 0, none⟩ = some (.int .i64 a) ∧ w'.cell? ⟨B, 1, none⟩ = some (.int .i64 b) ∧ w'.cell? ⟨B, 2, none⟩ = some (.int .i64 c) ∧ w'.cell? ⟨B, 3, none⟩ = some (.int .i64 d) ∧ w'.cell? ⟨B, 4, none⟩ = some (.int .i64 N)) (go_keep) (first
        | (go_at_call 50; refine (hro _).mono ?_; rintro e w5 ⟨rfl, hb5⟩; have hB5 : Below w.heap.size w w5 := bt2 hB.drew hb5; have g0 := keepc hb5 (a := ⟨B, 0, none⟩) (v := .int .i64 a) (by go_keep); have g1 := keepc hb5 (a := ⟨B, 1, none⟩) (v := .int .i64 b) (by go_keep); have g2 := keepc hb5 (a := ⟨B, 2, none⟩) (v := .int .i64 c) (by go_keep); have g3 := keepc hb5 (a := ⟨B, 3, none⟩) (v := .int .i64 d) (by go_keep); have g4 := keepc hb5 (a := ⟨B, 4, none⟩) (v := .int .i64 N) (by go_keep))
        | (go_at_call 51; refine (hli _).mono ?_; rintro e w6 ⟨v6, rfl, hO6, hb6⟩; have hB6 := bt2 hB5 hb6; have k0 := keepc hb6 g0; have k1 := keepc hb6 g1; have k2 := keepc hb6 g2; have k3 := keepc hb6 g3; have k4 := keepc hb6 g4)
        | fail)
      all_goals
        go_wp2_with fail
        go_ret2
        exact ⟨_, rfl, hO6.low hB5.size, hB6⟩
    · have ho : ofZ zs x = false := by
        rw [ofZ]
        by_cases e : 0 ≤ x
        · rw [decide_eq_false (show ¬ x < sizZ zs from fun q => hx ⟨e, q⟩), Bool.and_false]
        · rw [decide_eq_false e, Bool.and_false, Bool.false_and]
      have hr : rofR zs x = [] := by rw [rofR, ho]; rfl
      rw [ho, hr]
      clear ho hr hb
      rcases (show x < 0 ∨ (0 ≤ x ∧ sizZ zs ≤ x) by omega) with hx0 | ⟨hx0, hx1⟩
      · go_enter Try.func17, Try.ntmps17
        go_wp2_with (first | (go_at_call 46; refine hcon.mono ?_; rintro e w2 ⟨rfl, hb2⟩) | fail)
        go_ret2
        exact ⟨_, rfl, World.ownsRow_nil _ _ _ _, ba hb2 _⟩
      · have hx3 : ¬ x < 0 := by omega
        have hx2 : mo zs 0 * mo zs 1 * mo zs 2 * mo zs 3 ≤ x := hx1
        go_enter Try.func17, Try.ntmps17
        go_wp2_with (first | (go_at_call 46; refine hcon.mono ?_; rintro e w2 ⟨rfl, hb2⟩) | (go_at_call 49; refine (hsz _).mono ?_; rintro e w3 ⟨rfl, hb3⟩) | fail)
        go_ret2
        exact ⟨_, rfl, World.ownsRow_nil _ _ _ _, bt2 (ba hb2 _) hb3⟩
end Go.Proofs.Ytnbejgbkabaleaa
