/- Contracts of what the laws of chapter 7 draw: two tiles. -/
import Derived.Test.YtlgekggbanjmaaaDu
import Derived.Test.YtlgekggbanjmaaaTm
namespace Go.Proofs.Ytlgekggbanjmaaa
open Go.RowKit
theorem fndL_len (n : Int) (z : List Int) : (fndL n z).length ≤ 24 := by
  unfold fndL
  cases h : fndQ n z
  · simp
  · have hT := tilB_t.1 (show tilB n z = true by simp only [fndQ, Bool.and_eq_true] at h; exact h.1)
    obtain ⟨N, rfl⟩ : ∃ N : Nat, n = (N : Int) := ⟨n.toNat, by have := hT.1; omega⟩
    rw [Int.toNat_natCast, cond_true]
    have hN := hT.2.1
    have hall := srtLL_all (Z := allT N z) (D := N / z.length) (fun j hj => by
      rw [List.getElem?_eq_getElem hj]
      exact allT_len hT _ (List.getElem_mem hj)) (allT N z).length (Nat.le_refl _)
    have hd := Nat.div_le_self N z.length
    rcases Nat.eq_zero_or_pos (allS N z).length with h0 | h0
    · rw [List.eq_nil_of_length_eq_zero h0]; simp
    · rw [List.getElem?_eq_getElem h0, Option.getD_some]
      rw [hall _ (List.getElem_mem h0)]
      omega
theorem tmd_len7 (n : Int) (z : List Int) (t : Int) : (tmdR n z t).length ≤ 24 := by
  unfold tmdR
  cases h : tmdB n z t
  · simp
  · have hT := tilB_t.1 (show tilB n z = true by simp only [tmdB, Bool.and_eq_true] at h; exact h.1)
    have h1 := setL_le n.toNat fun y => decide (y ∈ tmvL n z t)
    have h2 := hT.1
    have h3 := hT.2.1
    simp only [cond_true, tmvR, plc]
    omega
def DrawnTT (w : World) (e : Ending) (w' : World) : Prop :=
  ∃ (n : Int) (v u : Value) (za zb : List Int), 1 ≤ n ∧ n ≤ 24 ∧ za.length ≤ 24 ∧ zb.length ≤ 24 ∧ e = .returned (.tuple #[.int .i64 n, v, u]) ∧ OwnI w' w.heap.size 3 v za ∧ OwnI w' w.heap.size 3 u zb ∧ Below w.heap.size w w'
set_option maxRecDepth 20000 in
set_option maxHeartbeats 2000000 in
theorem c_l92Both (s : Option Addr) (len cap : Nat) (w : World) (h : Code0 w s len cap) : Calls Try.prog 45 #[.slice s len cap] w (DrawnTT w) := by
  go_enter Try.func45, Try.ntmps45
  go_wp2_with fail
  refine (c_l6Open s len cap _ h).mono ?_
  rintro e w2 ⟨B, s', len', hB, rfl, hR2, hb2⟩
  have HB := Lib.hid hB
  have hBl := hR2.lt
  clear hB h
  go_wp2_with fail
  refine (c_l92Tile hR2 (by omega)).mono ?_
  rintro e w3 ⟨n, v, zs, p', n1, n2, hl, rfl, hO, hR3, hp, hO3⟩
  obtain ⟨so, co, rfl, hC, _⟩ := hO.spread
  have hT3 := hb2.trans (oth_below hO3 hR2)
  have hs23 := hO3.size
  clear hO3 hR2
  go_wp2_with fail
  refine (c_specTileFind n so zs.length co zs (by omega) _ hC).mono ?_
  rintro e w4 ⟨vf, rfl, hOf, hBf⟩
  have hR4 := hR3.below hBf
  have hO4 := (hO.keep hBf).low hb2.size
  have hT4 := hT3.trans (hBf.mono hT3.size)
  have hs34 := hBf.size
  have hBb : B < w.heap.size ∨ w.heap.size ≤ B := by omega
  have hO4' := hO.keep hBf
  clear hO hC hR3 hBf hT3
  have hfl := fndL_len n zs
  cases hq : fndQ n zs
  · go_wp2_with fail
    go_ret3
    exact ⟨n, _, _, zs, [0, 1], n1, n2, hl, by simp, rfl, hO4.keep (ba (Below.refl _ _) _), lit_own7 hT4.size rfl (by omega) rfl, ba hT4 _⟩
  · go_wp2_with fail
    refine (c_pickR 4 (by omega) (by omega) hR4 (by omega)).mono ?_
    rintro e w5 ⟨x, x1, x2, rfl, hR5, hO5⟩
    have hO5' := ownI_oth7 hO4' hO5 hBl
    have hOf5 := ownI_oth7 hOf hO5 (by omega)
    have hT5 := hT4.trans (oth_below hO5 hR4)
    clear hO4' hOf hT4 hO4
    by_cases hx : 0 < x
    · go_wp2_with fail
      refine (c_pickR 5 (by omega) (by omega) hR5 (by omega)).mono ?_
      rintro e w6 ⟨y, y1, y2, rfl, hR6, hO6⟩
      have hO6' := ownI_oth7 hO5' hO6 hBl
      have hOf6 := ownI_oth7 hOf5 hO6 (by omega)
      have hT6 := hT5.trans (oth_below hO6 hR5)
      obtain ⟨sf, cf, rfl, hIf, _⟩ := hOf6.spread
      clear hO5' hOf5 hT5 hR5 hR4 hO6 hO5 hOf6
      go_wp2_with fail
      refine (c_specTileMoved n y sf (fndL n zs).length cf (fndL n zs) (by omega) _ hIf).mono ?_
      rintro e w7 ⟨vc, rfl, hOc, hBc⟩
      have hcl := tmd_len7 n (fndL n zs) y
      go_wp2_with fail
      go_ret3
      exact ⟨n, _, _, zs, _, n1, n2, hl, hcl, rfl, (hO6'.keep hBc).low hb2.size, hOc.low hT6.size, hT6.trans (hBc.mono hT6.size)⟩
    · go_wp2_with fail
      go_ret3
      exact ⟨n, _, _, zs, [0, 1], n1, n2, hl, by simp, rfl, (hO5'.keep (ba (Below.refl _ _) _)).low hb2.size, lit_own7 hT5.size rfl (by omega) rfl, ba hT5 _⟩
theorem c_DrawTileBoth (s : Option Addr) (len cap : Nat) (w : World) (h : Code0 w s len cap) : Calls Try.prog 17 #[.slice s len cap] w (DrawnTT w) := by
  go_enter Try.func17, Try.ntmps17
  go_wp2_with fail
  refine (c_l92Both s len cap _ h).mono ?_
  rintro e w2 ⟨n, v, u, za, zb, n1, n2, hl, hm, rfl, hO, hP, hT⟩
  go_wp2_with fail
  go_ret3
  exact ⟨n, v, u, za, zb, n1, n2, hl, hm, rfl, hO, hP, hT⟩
theorem c_DrawTileSystem (s : Option Addr) (len cap : Nat) (w : World) (h : Code0 w s len cap) : Calls Try.prog 33 #[.slice s len cap] w (DrawnTT w) := by
  go_enter Try.func33, Try.ntmps33
  go_wp2_with fail
  refine (c_l92Both s len cap _ h).mono ?_
  rintro e w2 ⟨n, v, u, za, zb, n1, n2, hl, hm, rfl, hO, hP, hT⟩
  go_wp2_with fail
  go_ret3
  exact ⟨n, v, u, za, zb, n1, n2, hl, hm, rfl, hO, hP, hT⟩
end Go.Proofs.Ytlgekggbanjmaaa
