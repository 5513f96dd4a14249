/- Chapter 7, the model: l7Before. -/
import Derived.Test.YtiplnfggiffngaaTc
namespace Go.Proofs.Ytiplnfggiffngaa
open Go.RowKit
/-- as lists are compared -/
def ltL : List Int → List Int → Bool
  | x :: t, y :: u => bif x == y then ltL t u else decide (x < y)
  | _, _ => false
theorem ltL_step {z y : List Int} {k : Nat} (h1 : k < z.length) (h2 : k < y.length) : ltL (z.drop k) (y.drop k) = bif gZ z k == gZ y k then ltL (z.drop (k + 1)) (y.drop (k + 1)) else decide (gZ z k < gZ y k) := by
  rw [List.drop_eq_getElem_cons h1, List.drop_eq_getElem_cons h2, gZ_get z k h1, gZ_get y k h2]
  rfl
theorem ltL_end (z y : List Int) : ltL (z.drop z.length) y = false := by
  rw [List.drop_length]
  rfl
set_option maxRecDepth 20000 in
set_option maxHeartbeats 1000000 in
theorem c_l7Before (s u : Option Addr) (l c1 m c2 : Nat) (z y : List Int) (hl : l ≤ 1048576) (hlm : l ≤ m) (hm : m ≤ 1048576) (w : World) (hz : Ints w s l z) (hy : Ints w u m y) : Calls Try.prog 41 #[.slice s l c1, .slice u m c2] w fun e w' => e = .returned (.bool (ltL z y)) ∧ Below w.heap.size w w' := by
  obtain rfl := hz.len
  obtain rfl := hy.len
  have HLm := Lib.hid hlm
  go_enter Try.func41, Try.ntmps41
  go_wp2_with fail
  go_loopw [5] (fun i wr => ∃ (k : Nat), k ≤ z.length ∧ i = .int .i64 k ∧ Hid (ltL z y = ltL (z.drop k) (y.drop k)) ∧ Below w.heap.size w wr) (fun i _ => z.length - (intOf i).toNat)
  case atStart => exact ⟨0, by omega, rfl, Lib.hid rfl, Below.refl _ _⟩
  case round =>
    obtain ⟨k, hk, rfl, hok, hB⟩ := hrel
    by_cases hlt : k < z.length
    · have hlt2 : k < y.length := by omega
      rcases (hz.keep hB).lies with h0 | ⟨b, off, rfl, hbw, hcells⟩
      · omega
      rcases (hy.keep hB).lies with h0 | ⟨b', off', rfl, hbw', hcells'⟩
      · omega
      have hx : wr.cell? ⟨b, off + k, none⟩ = some (.int .i64 (gZ z k)) := hcells k hlt
      have hx' : wr.cell? ⟨b', off' + k, none⟩ = some (.int .i64 (gZ y k)) := hcells' k hlt2
      have hk0 : (0 : Int) ≤ (k : Int) := by omega
      have hk1 : (k : Int) < (z.length : Int) := by omega
      have hk2 : (k : Int) < (y.length : Int) := by omega
      have HS := Lib.hid (ltL_step hlt hlt2)
      clear hcells hcells' hlm
      by_cases ha : gZ z k = gZ y k
      · have HN : Hid (ltL z y = ltL (z.drop (k + 1)) (y.drop (k + 1))) := Lib.hid (by rw [hok.out, HS.out, show (gZ z k == gZ y k) = true by simp [ha]]; rfl)
        have ha' : (gZ z k != gZ y k) = false := by simp [ha]
        clear ha
        go_wp2_with fail
        go_quiet (fail)
        go_wp2_with fail
        go_roundw
        case rel => exact ⟨k + 1, by omega, by go_num, HN, bel_drewN hB _⟩
        case measure => simp [intOf]; omega
      · have HN := Lib.hid (show ltL z y = decide (gZ z k < gZ y k) by rw [hok.out, HS.out, show (gZ z k == gZ y k) = false by simpa using ha]; rfl)
        have ha' : (gZ z k != gZ y k) = true := by simpa using ha
        by_cases hb : gZ z k < gZ y k
        · have hb' : decide (gZ z k < gZ y k) = true := decide_eq_true hb
          rw [hb'] at HN
          clear ha hb
          go_wp2_with fail
          go_quiet (fail)
          go_wp2_with fail
          go_quiet (fail)
          go_wp2_with fail
          go_ret
          exact ⟨by rw [HN.out]; rfl, bel_drewN (bel_drewN hB _) _⟩
        · have hb' : decide (gZ z k < gZ y k) = false := decide_eq_false hb
          rw [hb'] at HN
          clear ha hb
          go_wp2_with fail
          go_quiet (fail)
          go_wp2_with fail
          go_quiet (fail)
          go_wp2_with fail
          go_ret
          exact ⟨by rw [HN.out]; rfl, bel_drewN (bel_drewN hB _) _⟩
    · have hk' : k = z.length := by omega
      subst hk'
      have HN := Lib.hid (show ltL z y = false by rw [hok.out]; exact ltL_end _ _)
      go_wp2_with fail
      go_ret
      exact ⟨by rw [HN.out]; rfl, hB⟩
end Go.Proofs.Ytiplnfggiffngaa
