/- The model's l3Without. -/
import Derived.Test.YtelgmmnjndinhaaS27
import Derived.Test.YtelgmmnjndinhaaStepA
namespace Go.Proofs.Ytelgmmnjndinhaa
open Go.RowKit
def WoPost (zs : List Cl) (i : Nat) (w : World) (e : Ending) (w' : World) : Prop := ∃ v, e = .returned v ∧ OwnC w' w.heap.size 45 v (zs.eraseIdx i) ∧ Below w.heap.size w w'
set_option maxRecDepth 20000 in
set_option maxHeartbeats 2000000 in
theorem c_l3Without (s : Option Addr) (n cap : Nat) (zs : List Cl) (i : Nat) (hn : n ≤ 1048576) (hcap : n ≤ cap) (hcb : cap ≤ 9223372036854775807) (hi : i < n) (w : World) (hc : Cls w s n zs) :
    Calls Try.prog 81 #[.slice s n cap, .int .i64 i] w (WoPost zs i w) := by
  have hlen := hc.len
  obtain ⟨i0, hi0, hz0, hz1, hz2⟩ := info_parts infoC
  rcases hc.lies with h0 | ⟨b, off, rfl, hbw, hcells⟩
  · omega
  have HC := Lib.hid (cls_at hc (by omega))
  have hcA := hc.keep (ba (Below.refl _ _) (.cells #[] 45))
  have HT := Lib.hid (cells2_oc (zs.take i))
  have HD := Lib.hid (cells2_oc (zs.drop (i + 1)))
  have HNt := Lib.hid (show (cells2 (zs.take i)).length = i * 2 by rw [cells2_length, List.length_take]; omega)
  have HNd := Lib.hid (show (cells2 (zs.drop (i + 1))).length = (n - (i + 1)) * 2 by rw [cells2_length, List.length_drop, hlen])
  have HL := Lib.hid hlen
  have HCt := Lib.hid (fun (j : Nat) (u : Value) (hj : (cells2 (zs.take i))[j]? = some u) => show (w.alloc (.cells #[] 45)).cell? ((⟨b, off, none⟩ : Addr).add j) = some u from cls_at hcA (by omega) j u (cells2_takeAt hj))
  have HCd := Lib.hid (fun (W : World) (hW : Cls W (some ⟨b, off, none⟩) n zs) (j : Nat) (u : Value) (hj : (cells2 (zs.drop (i + 1)))[j]? = some u) => show W.cell? ((⟨b, off + (i + 1) * 2, none⟩ : Addr).add j) = some u by
    rw [add_add]
    exact cls_at hW (by omega) _ u (cells2_dropAt hj))
  have hO0 : (w.alloc (.cells #[] 45)).ownsRow w.heap.size 45 2 (.slice (some ⟨w.heap.size, 0, none⟩) 0 0) 0 [] := World.ownsRow_lit w #[] 0 (Nat.le_refl _) (by unfold maxLen; omega) rfl
  have hwb : w.heap.size ≠ b := by omega
  clear hcells hlen
  have hiz0 : (0 : Int) ≤ (i : Int) := by omega
  have hiz1 : (i : Int) ≤ (cap : Int) := by omega
  have hiz2 : (i : Int) ≤ (n : Int) := by omega
  have hiz : (i : Int) < (n : Int) := by omega
  have hnc : (n : Int) ≤ (cap : Int) := by omega
  have hA1 : (i : Int) + 1 ≤ (n : Int) := by omega
  have hA0 : (0 : Int) ≤ (i : Int) + 1 := by omega
  have hw : IntKind.i64.wrap ((i : Int) + 1) = (i : Int) + 1 := IntWalk.i64_in _ (by omega)
  have hAt : ((i : Int) + 1).toNat = i + 1 := by omega
  have hc0 : ¬ cap = 0 := by omega
  have hcap2 : i + 1 < cap ∨ cap = i + 1 := by omega
  go_enter Try.func81, Try.ntmps81
  go_wp2_with fail
  by_cases hA : i + 1 < cap
  · have hAn : ¬ cap = i + 1 := by omega
    clear hcap2
    go_region_held3 (fun _ => True) (trivial) (first
      | (refine step_append_own rfl (.tmp 5) (.tmp 8) 27 rfl w.heap.size 45 i0 (.agg #[.int .i64 0, .int .i64 0]) 2 16 Try.underlying27 hi0 hz0 hz1 hz2 rfl Nat.two_pos (.slice (some ⟨w.heap.size, 0, none⟩) 0 0) 0 [] rfl hO0 ⟨b, off, none⟩ i _ (cells2 (zs.take i)) rfl HNt.out HCt.out HT.out (by unfold maxLen; omega) (by omega) (by simp) ?_; intro v5 w5 hown5 hgrow5 _; have hc5 := Cls.other (hcA.keep (by repeat (first | exact Below.refl _ _ | assumption | refine Below.drew ?_ | refine bel_drewN ?_ _ | refine ba ?_ _ | refine bt2 ?_ (by assumption) | refine Below.setCell ?_ (by simp <;> omega) _))) hgrow5 hwb; have hB5 : Below w.heap.size w w5 := Below.grown (by repeat (first | exact Below.refl _ _ | assumption | refine Below.drew ?_ | refine bel_drewN ?_ _ | refine ba ?_ _ | refine bt2 ?_ (by assumption) | refine Below.setCell ?_ (by simp <;> omega) _)) hgrow5 (by simp) (fun g e => by cases e; exact Nat.le_refl _); have HCd5 := Lib.hid (HCd.out _ hc5); have hbs5 := hB5.size)
      | (refine step_append_own rfl (.tmp 9) (.tmp 13) 27 rfl w.heap.size 45 i0 (.agg #[.int .i64 0, .int .i64 0]) 2 16 Try.underlying27 hi0 hz0 hz1 hz2 rfl Nat.two_pos v5 (0 + i) ([] ++ cells2 (zs.take i)) rfl hown5 ⟨b, off + (i + 1) * 2, none⟩ (n - (i + 1)) (cap - (i + 1)) (cells2 (zs.drop (i + 1))) rfl HNd.out HCd5.out HD.out (by unfold maxLen; omega) (by omega) hbs5 ?_; intro v7 w7 hown7 hgrow7 _)
      | fail)
    all_goals
      have hB7 : Below w.heap.size w w7 := hB5.grown hgrow7 hbs5 (fun g e => (hown5.lt g e).1)
      have hOC : OwnC w7 w.heap.size 45 v7 (zs.eraseIdx i) := by
        unfold OwnC
        rw [eraseIdx_len (by rw [HL.out]; exact hi), HL.out, List.eraseIdx_eq_take_drop_succ, cells2_append, show n - 1 = 0 + i + (n - (i + 1)) by omega]
        simpa using hown7
      clear hown5 hown7 hgrow7 hgrow5
      go_wp2_with fail
      go_ret
      exact ⟨_, rfl, hOC, hB7⟩
  · have hAn : cap = i + 1 := by omega
    have hnn : n = i + 1 := by omega
    have hz1' : (i : Int) ≤ (i : Int) + 1 := by omega
    have hz2' : (i : Int) < (i : Int) + 1 := by omega
    have hz3 : i < i + 1 := by omega
    have hz4 : i ≤ i + 1 := by omega
    clear hcap2
    go_region_held3 (fun _ => True) (trivial) (first
      | (refine step_append_own rfl (.tmp 5) (.tmp 8) 27 rfl w.heap.size 45 i0 (.agg #[.int .i64 0, .int .i64 0]) 2 16 Try.underlying27 hi0 hz0 hz1 hz2 rfl Nat.two_pos (.slice (some ⟨w.heap.size, 0, none⟩) 0 0) 0 [] rfl hO0 ⟨b, off, none⟩ i _ (cells2 (zs.take i)) rfl HNt.out HCt.out HT.out (by unfold maxLen; omega) (by omega) (by simp) ?_; intro v5 w5 hown5 hgrow5 _; have hc5 := Cls.other (hcA.keep (by repeat (first | exact Below.refl _ _ | assumption | refine Below.drew ?_ | refine bel_drewN ?_ _ | refine ba ?_ _ | refine bt2 ?_ (by assumption) | refine Below.setCell ?_ (by simp <;> omega) _))) hgrow5 hwb; have hB5 : Below w.heap.size w w5 := Below.grown (by repeat (first | exact Below.refl _ _ | assumption | refine Below.drew ?_ | refine bel_drewN ?_ _ | refine ba ?_ _ | refine bt2 ?_ (by assumption) | refine Below.setCell ?_ (by simp <;> omega) _)) hgrow5 (by simp) (fun g e => by cases e; exact Nat.le_refl _); have HCd5 := Lib.hid (HCd.out _ hc5); have hbs5 := hB5.size)
      | (refine step_append_own rfl (.tmp 9) (.tmp 13) 27 rfl w.heap.size 45 i0 (.agg #[.int .i64 0, .int .i64 0]) 2 16 Try.underlying27 hi0 hz0 hz1 hz2 rfl Nat.two_pos v5 (0 + i) ([] ++ cells2 (zs.take i)) rfl hown5 ⟨b, off, none⟩ 0 0 [] rfl rfl (by simp) (by simp) (by unfold maxLen; omega) (by omega) hbs5 ?_; intro v7 w7 hown7 hgrow7 _)
      | fail)
    all_goals
      have hB7 : Below w.heap.size w w7 := hB5.grown hgrow7 hbs5 (fun g e => (hown5.lt g e).1)
      have hOC : OwnC w7 w.heap.size 45 v7 (zs.eraseIdx i) := by
        unfold OwnC
        rw [eraseIdx_len (by rw [HL.out]; exact hi), HL.out, List.eraseIdx_eq_take_drop_succ, List.drop_eq_nil_of_le (by rw [HL.out]; omega), List.append_nil, show n - 1 = 0 + i + 0 by omega]
        simpa using hown7
      clear hown5 hown7 hgrow7 hgrow5
      go_wp2_with fail
      go_ret
      exact ⟨_, rfl, hOC, hB7⟩
end Go.Proofs.Ytelgmmnjndinhaa
