/- The program's spareAt. -/
import Derived.Test.YtelgmmnjndinhaaS25
import Derived.Test.YtelgmmnjndinhaaR2
namespace Go.Proofs.Ytelgmmnjndinhaa
open Go.RowKit Go.Shelf
attribute [local go_sem] Oper.semAt_some
theorem kept_below {w w' : World} (h : Below w.heap.size w w') : KeepsOthers w w' := ⟨h.size, fun k _ hk _ => (h.block k (Array.getElem?_eq_some_iff.1 hk).1).trans hk⟩
/-- the others cover what class i has below E -/
def spaB (zs : List Cl) (i : Nat) (E : Int) : Bool := (List.range 1001).all fun j => !decide (rAt zs i + (j : Int) * mAt zs i < E) || covB (zs.eraseIdx i) (rAt zs i + (j : Int) * mAt zs i)
theorem spaB_iff {zs : List Cl} {i : Nat} {E : Int} (h : inB (rAt zs i) (mAt zs i) = true) (hE : E ≤ 1000) : spaB zs i E = true ↔ ∀ j : Nat, rAt zs i + (j : Int) * mAt zs i < E → covB (zs.eraseIdx i) (rAt zs i + (j : Int) * mAt zs i) = true := by
  obtain ⟨m1, _, r1, _⟩ := inB_iff.1 h
  unfold spaB
  rw [List.all_eq_true]
  constructor
  · intro H j hj
    have hb := Int.mul_le_mul_of_nonneg_left m1 (Int.natCast_nonneg j)
    have := H j (List.mem_range.2 (by omega))
    simpa [hj] using this
  · intro H j _
    by_cases hj : rAt zs i + (j : Int) * mAt zs i < E
    · simp [hj, H j hj]
    · simp [hj]
theorem spa_all {zs : List Cl} {i : Nat} {E : Int} {ys : List Int} (h : inB (rAt zs i) (mAt zs i) = true) (hE : E ≤ 1000) (hy : NumAll (rAt zs i) (mAt zs i) 0 E ys) (hn : ∀ y ∈ ys, covB (zs.eraseIdx i) y = true) : spaB zs i E = true := by
  obtain ⟨m1, _, r1, r2⟩ := inB_iff.1 h
  obtain ⟨k, rfl, hk, hj⟩ := hy
  rw [spaB_iff h hE]
  intro j hjE
  simp only [numK0 r1 r2] at hk
  have hjk : j < k := by
    rcases Nat.lt_or_ge j k with h | h
    · exact h
    · have := Int.mul_le_mul_of_nonneg_right (show (k : Int) ≤ (j : Int) by omega) (show 0 ≤ mAt zs i by omega)
      omega
  have := hn (numK (rAt zs i) (mAt zs i) 0 j) (by simp only [seqTo, List.mem_map, List.mem_range]; exact ⟨j, hjk, rfl⟩)
  rwa [numK0 r1 r2] at this
theorem spa_part {zs : List Cl} {i : Nat} {E x : Int} {ys p : List Int} (h : inB (rAt zs i) (mAt zs i) = true) (hE : E ≤ 1000) (hy : NumPart (rAt zs i) (mAt zs i) 0 E ys) (hp : ys = p ++ [x]) (hx : covB (zs.eraseIdx i) x = false) : spaB zs i E = false := by
  obtain ⟨m1, _, r1, r2⟩ := inB_iff.1 h
  obtain ⟨k, rfl, hj⟩ := hy
  rw [seqTo_succ] at hp
  obtain ⟨rfl, h2⟩ := List.append_inj' hp rfl
  obtain rfl : numK (rAt zs i) (mAt zs i) 0 k = x := by simpa using h2
  have hk := hj k (by omega)
  rw [numK0 r1 r2] at hk hx
  cases hs : spaB zs i E
  · rfl
  · rw [(spaB_iff h hE).1 hs k hk] at hx; cases hx
theorem allB_erase {zs : List Cl} (h : allB zs = true) (i : Nat) : allB (zs.eraseIdx i) = true := by
  unfold allB at *
  rw [List.all_eq_true] at *
  exact fun c hc => h c (List.eraseIdx_subset hc)
set_option maxRecDepth 100000 in
set_option maxHeartbeats 4000000 in
theorem c_spareAt (s : Option Addr) (n cap : Nat) (zs : List Cl) (i : Nat) (E : Int) (hn : n ≤ 1048576) (hi : i < n) (ha : allB zs = true) (hE1 : 1 ≤ E) (hE : E ≤ 1000) (w : World) (hc : Cls w s n zs) :
    Calls Try.prog 82 #[.slice s n cap, .int .i64 i, .int .i64 E] w fun e w' => e = .returned (.bool (spaB zs i E)) ∧ Below w.heap.size w w' := by
  have hlen := hc.len
  have hin := allB_at ha i (by rw [hlen]; exact hi)
  obtain ⟨m1, m2, r1, r2⟩ := inB_iff.1 hin
  rcases hc.lies with h0 | ⟨b, off, rfl, hbw, hcells⟩
  · omega
  obtain ⟨x0, x1⟩ := hcells i hi
  have HIN := Lib.hid hin
  have HA := Lib.hid (allB_erase ha i)
  have hc1 := hc.keep (ba (Below.refl _ _) (.cells #[.bool false] 4))
  have hwo := c_without _ n cap zs i hn hi _ hc1
  have hen := eraseIdx_len (show i < zs.length by rw [hlen]; exact hi)
  have HL := Lib.hid (show (zs.eraseIdx i).length ≤ 1048576 by rw [hen]; omega)
  have hiz0 : (0 : Int) ≤ (i : Int) := by omega
  have hiz : (i : Int) < (n : Int) := by omega
  clear hcells hin hen ha
  refine (callsIn_wide (n := 5)).1 ?_
  refine callsIn_of_wp_marks Try.func82 rfl trivial ?_ rfl
  simp only [Try.ntmps82, List.size_toArray, List.length_cons, List.length_nil, Nat.reduceAdd, Nat.reduceSub, Array.replicate_succ, Array.replicate_zero, List.push_toArray, List.append_toArray, List.nil_append, List.cons_append]
  gi_wp2_with (refine ⟨trivial, ?_⟩; first
    | (gi_at_call 61; refine (callsIn_wide.2 hwo).mono ?_; rintro e w2 ⟨v, rfl, hW2, hB2⟩; obtain ⟨gv, kv, cur, rfl, hgv, hkv, hhv, htv⟩ := hW2; have y0 := keepc hB2 (keep_alloc x0); have y1 := keepc hB2 (keep_alloc x1); have z0 := keep_alloc (o := .cells #[.slice (some ⟨gv, 0, none⟩) (zs.eraseIdx i).length kv] 27) y0; have z1 := keep_alloc (o := .cells #[.slice (some ⟨gv, 0, none⟩) (zs.eraseIdx i).length kv] 27) y1)
    | (gi_at_call 84; refine (callsIn_wide.2 (c_numbers _ _ _ _ _)).mono ?_; rintro e w3 ⟨rfl, rfl⟩))
  obtain ⟨W0, hW0⟩ : ∃ W0, (((w2.alloc (.cells #[.slice (some ⟨gv, 0, none⟩) (zs.eraseIdx i).length kv] 27)).alloc (.cells #[.int .i64 (rAt zs i), .int .i64 (mAt zs i)] 45)).alloc (.cells #[.int .i64 0] 3)).alloc (.cells #[.int .i64 E] 3) = W0 := ⟨_, rfl⟩
  have hsz : W0.heap.size = w2.heap.size + 4 := by rw [← hW0]; simp
  have hsw : w.heap.size < w2.heap.size := by have := hB2.size; simp at this; omega
  have hB02 : Below w2.heap.size w2 W0 := by rw [← hW0]; exact ba (ba (ba (ba (Below.refl _ _) _) _) _) _
  have hB0 : Below w.heap.size w W0 := bt2 (bt2 (ba (Below.refl _ _) _) hB2) hB02
  have q0 : W0.cell? ⟨w.heap.size, 0, none⟩ = some (.bool false) := keepc hB02 (keepc hB2 (by simp))
  have f0 : W0.frozen? ⟨w.heap.size, 0, none⟩ = false := keepf hB02 (keepc hB2 (by simp : (w.alloc (.cells #[.bool false] 4)).cell? ⟨w.heap.size, 0, none⟩ = some (.bool false))) (keepf hB2 (by simp : (w.alloc (.cells #[.bool false] 4)).cell? ⟨w.heap.size, 0, none⟩ = some (.bool false)) (by simp))
  have q1 : W0.cell? ⟨w2.heap.size, 0, none⟩ = some (.slice (some ⟨gv, 0, none⟩) (zs.eraseIdx i).length kv) := by rw [← hW0]; exact keep_alloc (keep_alloc (keep_alloc (by simp)))
  have q2 : W0.cell? ⟨w2.heap.size + 1, 0, none⟩ = some (.int .i64 (rAt zs i)) := by rw [← hW0]; exact keep_alloc (keep_alloc (by simp))
  have q3 : W0.cell? ⟨w2.heap.size + 1, 1, none⟩ = some (.int .i64 (mAt zs i)) := by rw [← hW0]; exact keep_alloc (keep_alloc (by simp))
  have q4 : W0.cell? ⟨w2.heap.size + 1 + 1, 0, none⟩ = some (.int .i64 0) := by rw [← hW0]; exact keep_alloc (cell_new2 _ _ _ _ _)
  have q5 : W0.cell? ⟨w2.heap.size + 1 + 1 + 1, 0, none⟩ = some (.int .i64 E) := by rw [← hW0]; exact cell_new3 _ _ _ _ _ _
  have hcl : Cls W0 (some ⟨gv, 0, none⟩) (zs.eraseIdx i).length (zs.eraseIdx i) := by
    have h := WidC.keep (base := 0) (v := .slice (some ⟨gv, 0, none⟩) (zs.eraseIdx i).length kv) ⟨gv, kv, cur, rfl, Nat.zero_le _, hkv, hhv, htv⟩ hB02
    exact h.cls.1
  rw [hW0]
  clear hW0 hhv htv hgv z0 z1 y0 y1 hwo hc1 x0 x1 hB2
  have HSZ := Lib.hid hsz
  refine wpIn_rangeFunc_ownF rfl (by omega) (gf := 93) (lb := #[.pointer (some ⟨w2.heap.size + 1, 0, none⟩), .pointer (some ⟨w2.heap.size + 1 + 1, 0, none⟩), .pointer (some ⟨w2.heap.size + 1 + 1 + 1, 0, none⟩)]) rfl trivial (enters_of Try.func93 (by kernel_rfl) rfl)
    (num_stops _ (by omega) (w2.heap.size + 1) (w2.heap.size + 1 + 1) (w2.heap.size + 1 + 1 + 1) (rAt zs i) (mAt zs i) 0 E m1 m2 r1 r2 (by omega) (by omega) (by omega) (Below W0.heap.size) (fun W W' h p hp => h.cell (by rw [hsz]; omega)) W0 (by rw [hsz]; omega) (by rw [hsz]; omega) (by rw [hsz]; omega) q2 q3 q4 q5) belowK_t (belowK_b (Nat.le_refl _)) (Below.refl _ _) (fun _ => rfl)
    (fun pre W => (∀ y ∈ pre, covB (zs.eraseIdx i) y = true) ∧ Below W0.heap.size W0 W)
    (fun c pre W => (c = .ret ∧ ∃ p x, pre = p ++ [x] ∧ covB (zs.eraseIdx i) x = false ∧ W.cell? ⟨w.heap.size, 0, none⟩ = some (.bool false)) ∧ Below w.heap.size w W)
    (OwnFrom.and (ownFrom_pure _ _) (ownFrom_below (Nat.le_refl _) (Nat.le_refl _)))
    (fun c => OwnFrom.and (Own.from (fun s A B row hs hg hr => by
      obtain ⟨h1, p, x, h2, h3, h4⟩ := hs
      exact ⟨h1, p, x, h2, h3, cell_kept h4 hg hr⟩) _) (ownFrom_below (Nat.le_refl _) (by rw [hsz]; omega)))
    ⟨by simp, Below.refl _ _⟩
    (fun x => { tmps := #[.slice (some ⟨b, off, none⟩) n cap, .int .i64 i, .int .i64 E, undef, undef, undef, .pointer (some ⟨w.heap.size, 0, none⟩), .pointer (some ⟨w2.heap.size, 0, none⟩), .int .i64 x, .slice (some ⟨b, off, none⟩) n cap, .int .i64 i, .slice (some ⟨gv, 0, none⟩) (zs.eraseIdx i).length kv, .slice (some ⟨b, off, none⟩) n cap, .int .i64 i, .pointer (some ⟨b, off + i * 2, none⟩), .agg #[.int .i64 (rAt zs i), .int .i64 (mAt zs i)], .int .i64 E, .func (.func 93) #[] #[.pointer (some ⟨w2.heap.size + 1, 0, none⟩), .pointer (some ⟨w2.heap.size + 1 + 1, 0, none⟩), .pointer (some ⟨w2.heap.size + 1 + 1 + 1, 0, none⟩)], .int .i64 x, undef, undef, undef, undef], defers := [] }) ?assign ?body ?done ?stop
  case assign =>
    intro l x W K hK
    gi_wp2
    exact hK
  case body =>
    rintro l pre x W ⟨hp, hB⟩ _
    have e0 := (hB.cell (p := ⟨w.heap.size, 0, none⟩) (by rw [HSZ.out]; dsimp only; omega)).trans q0
    have e1 := (hB.cell (p := ⟨w2.heap.size, 0, none⟩) (by rw [HSZ.out]; dsimp only; omega)).trans q1
    have g0 := (hB.frozen (p := ⟨w.heap.size, 0, none⟩) (by rw [HSZ.out]; dsimp only; omega)).trans f0
    have hs4 : w2.heap.size + 4 ≤ W.heap.size := by have := hB.size; rw [HSZ.out] at this; exact this
    have z0 : w.heap.size < W.heap.size := by omega
    have hclW := hcl.keep hB
    have hbW := hB0.trans (hB.mono (by rw [HSZ.out]; omega))
    have HP := Lib.hid hp
    clear hp q0 q1 q2 q3 q4 q5 f0 hsz
    cases he : covB (zs.eraseIdx i) x
    · gi_wp2_with (refine ⟨trivial, ?_⟩; gi_at_call 75; refine (CallsIn.inRound l (callsIn_wide.2 (c_covers _ _ _ (zs.eraseIdx i) x HL.out HA.out _ hclW))).mono ?_; rintro e w5 ⟨rfl, hb5⟩; have y0 := (hb5.cell (p := ⟨w.heap.size, 0, none⟩) z0).trans e0; have x0 := (hb5.frozen (p := ⟨w.heap.size, 0, none⟩) z0).trans g0; rw [he])
      have hbx := bt2 hbW hb5
      exact ⟨(kept_below hb5).trans (KeepsOthers.setCell _ _ _), ⟨rfl, pre, x, rfl, he, set_hit y0⟩, hbx.setCell (Nat.le_refl _) _⟩
    · gi_wp2_with (refine ⟨trivial, ?_⟩; gi_at_call 75; refine (CallsIn.inRound l (callsIn_wide.2 (c_covers _ _ _ (zs.eraseIdx i) x HL.out HA.out _ hclW))).mono ?_; rintro e w5 ⟨rfl, hb5⟩; have y0 := (hb5.cell (p := ⟨w.heap.size, 0, none⟩) z0).trans e0; have x0 := (hb5.frozen (p := ⟨w.heap.size, 0, none⟩) z0).trans g0; rw [he])
      refine ⟨kept_below hb5, hb5.mono hB.size, ?_, bt2 hB hb5⟩
      intro y hy
      rcases List.mem_append.1 hy with h | h
      · exact HP.out y h
      · have : y = x := by simpa using h
        subst this
        exact he
  case done =>
    rintro D ys W hD hS ⟨hp, hB⟩ hK
    have HF := Lib.hid (spa_all HIN.out hE hS hp)
    have e0 := (hB.cell (p := ⟨w.heap.size, 0, none⟩) (by rw [HSZ.out]; dsimp only; omega)).trans q0
    have g0 := (hB.frozen (p := ⟨w.heap.size, 0, none⟩) (by rw [HSZ.out]; dsimp only; omega)).trans f0
    have hbW := hB0.trans (hB.mono (by rw [HSZ.out]; omega))
    have hDw : w.heap.size ≤ D := by rw [HSZ.out] at hD; omega
    clear hp q0 q1 q2 q3 q4 q5 f0 hsz
    gi_wp2
    have hK' := (KeepsOthers.setCell W ⟨w.heap.size, 0, none⟩ (.bool true)).same D _ hK rfl
    refine ⟨by simp, .inl ⟨_, _, rfl, run_takeDeferred hK', ?_⟩⟩
    have u0 := cell_kept (set_hit (v := .bool true) e0) (grownBy_putObj' _ D (.deferred none)) (fun r e => by cases e; exact ⟨_, hK', rfl⟩)
    refine ⟨.bool true, ?_, by rw [HF.out], (hbW.setCell (Nat.le_refl _) _).trans (belowK_b (w := w) (Nat.le_refl _) _ D _ _ hDw hK' rfl rfl)⟩
    simp [results, Try.f82, go_sem, u0]
  case stop =>
    rintro D c pre W hD hpre ⟨⟨rfl, p, x, hpp, hx, c0⟩, hB⟩ hK
    have HF := Lib.hid (spa_part HIN.out hE hpre hpp hx)
    have hDw : w.heap.size ≤ D := by rw [HSZ.out] at hD; omega
    clear hpp hx q0 q1 q2 q3 q4 q5 f0 hsz
    gi_wp2
    refine ⟨by simp, .inl ⟨_, _, rfl, run_takeDeferred hK, ?_⟩⟩
    have u0 := cell_kept c0 (grownBy_putObj' _ D (.deferred none)) (fun r e => by cases e; exact ⟨_, hK, rfl⟩)
    refine ⟨.bool false, ?_, by rw [HF.out], hB.trans (belowK_b (w := w) (Nat.le_refl _) W D _ _ hDw hK rfl rfl)⟩
    simp [results, Try.f82, go_sem, u0]
end Go.Proofs.Ytelgmmnjndinhaa
