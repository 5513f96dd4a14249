/- SolveRoot on the machine: its loop that receives, its whole call (own text). -/
import Derived.Test.YtfgipjgjehjijaaLs
namespace Go.Proofs.Ytfgipjgjehjijaa
open Go Go.Conc Go.ConcN Go.RowKit Go.Conc.Lib Go.ConcR.Gen Go.ConcN.Gen
open Go.ConcR (KK wgBlock WgAt stA smA rd wr mk Payload DC0)

/-- The machine comes, on its tape, to where Q holds. -/
def Reach (m : Machine) (t : Trace) (Q : Machine → Trace → Prop) : Prop := ∃ K m' t', runNT Try.prog K m t = (.next m', t') ∧ Q m' t'
theorem Reach.refl {m : Machine} {t : Trace} {Q : Machine → Trace → Prop} (h : Q m t) : Reach m t Q := ⟨0, m, t, rfl, h⟩
theorem Reach.step {m m₁ : Machine} {t t₁ : Trace} {Q : Machine → Trace → Prop} {K : Nat} (r : runNT Try.prog K m t = (.next m₁, t₁)) (h : Reach m₁ t₁ Q) : Reach m t Q := by
  obtain ⟨M, m', t', e1, e2⟩ := h
  exact ⟨K + M, m', t', by rw [runNT_add, r]; exact e1, e2⟩
theorem Reach.trans {m : Machine} {t : Trace} {Q Q' : Machine → Trace → Prop} (h : Reach m t Q) (k : ∀ m' t', Q m' t' → Reach m' t' Q') : Reach m t Q' := by
  obtain ⟨K, m', t', r, q⟩ := h
  exact .step r (k m' t' q)
theorem Reach.mono {m : Machine} {t : Trace} {Q Q' : Machine → Trace → Prop} (h : Reach m t Q) (k : ∀ m' t', Q m' t' → Q' m' t') : Reach m t Q' := h.trans fun m' t' q => .refl (k m' t' q)
theorem Reach.ends {W : World} {m : Machine} {t : Trace} (h : Reach m t (Ends W)) : Ends W m t := by
  obtain ⟨K, m', t', r, q⟩ := h
  exact ends_pre r q

/-- Goroutine 0 stands where I says, the s - 1 others only leave. -/
def At (Sh : Loc → Prop) (B : Nat) (I : Goroutine → World → Prop) (s : Nat) (m : Machine) (t : Trace) : Prop :=
  ∃ (gs : Array Goroutine) (g : Goroutine) (w : World) (sl : Option (Nat × Nat)) (q : Nat → Nat), m = crowd gs w sl ∧ gs.size = s ∧ gs[0]? = some g ∧ I g w ∧ Leavers Try.prog t gs q ∧ Past Sh B t
section
variable {Sh : Loc → Prop} {B s : Nat} {I I' : Goroutine → World → Prop} {m : Machine} {t : Trace}
theorem At.walk (h : At Sh B I s m t) (hg : ∀ g w, I g w → ∃ n, Goes Try.prog true AtRel (DE (EvL Sh B)) I' n g w) : Reach m t (At Sh B I' s) := by
  obtain ⟨gs, g, w, sl, q, rfl, hs, h0, hI, L0, P0⟩ := h
  obtain ⟨n, hn⟩ := hg g w hI
  obtain ⟨K, gs', g', w', sl', t', q', r, z, h0', hI', L', P'⟩ := walk_beside (P := Try.prog) (fun _ _ _ h => h) _ n gs g w sl t q (Nat.le_refl _) h0 L0 P0 hn
  exact ⟨K, _, t', r, gs', g', w', sl', q', rfl, z.trans hs, h0', hI', L', P'⟩
theorem At.mono (h : At Sh B I s m t) (k : ∀ g w, I g w → I' g w) : At Sh B I' s m t := by
  obtain ⟨gs, g, w, sl, q, e, hs, h0, hI, L0, P0⟩ := h
  exact ⟨gs, g, w, sl, q, e, hs, h0, k g w hI, L0, P0⟩
end

theorem resO_none {a m : Int} (h : ordX a m = 0) : resO a m = .chan 1 #[] true 0 0 false := by unfold resO; rw [if_neg (by simp [h])]
theorem resO_some {a m : Int} (h : ordX a m ≠ 0) : resO a m = .chan 1 #[.int .i64 (ordX a m)] true 1 0 false := by unfold resO; rw [if_pos h]

section
variable {Sh : Loc → Prop} {B : Nat} {b₀ : Frame} {a₀ : Act} {ops₀ : Array Oper} {i₀ : Nat} {rest₀ : List Nat} {k₀ : List Item} {cs : List Frame}
set_option maxHeartbeats 4000000 in
/-- The loop that receives. -/
theorem loopRoot {m : Int} (hm : 1 ≤ m) {C v0 cap n N s : Nat} {W : World} {res : Int × Bool} (hn : n < 1000000) (hlist : ∀ i : Nat, i < n → W.cell? ⟨v0, i, none⟩ = some (.int .i64 ((i : Int) + 1))) (hv0 : v0 < N)
    (hShl : ∀ i : Nat, ¬ Sh (.cell ⟨v0, i, none⟩)) (hSha : ∀ i : Nat, ¬ Sh (.cell ⟨N + 1, i, none⟩)) (hB : N + 4 + 4 * n < B) :
    ∀ (r i : Nat), i + r = n → rootA m (unQ m) r ((i : Int) + 1) = res → ∀ (v7 v8 v9 v10 v28 v29 v30 v31 v32 v33 v34 v35 v36 v37 v38 v39 v40 v41 v42 v43 v44 v45 v46 v47 : Value) (mc : Machine) (t : Trace),
      At Sh B (fun g w => g = headR (b₀.at a₀ (.inRegion ops₀ (i₀ :: rest₀) :: k₀) :: cs) m C (.slice (some ⟨v0, 0, none⟩) n cap) n N i loopR restR v7 v8 v9 v10 v28 v29 v30 v31 v32 v33 v34 v35 v36 v37 v38 v39 v40 v41 v42 v43 v44 v45 v46 v47 ∧ KnR n N m W i w) s mc t →
      Reach mc t (At Sh B (fun g w => g = retG b₀ a₀ ops₀ i₀ rest₀ k₀ cs (.tuple #[.int .i64 res.1, .bool res.2]) ∧ ∃ j, KnR n N m W j w) s) := by
  intro r
  induction r with
  | zero =>
    intro i hi hres v7 v8 v9 v10 v28 v29 v30 v31 v32 v33 v34 v35 v36 v37 v38 v39 v40 v41 v42 v43 v44 v45 v46 v47 mc t hA
    obtain rfl : i = n := by omega
    simp only [rootA] at hres
    subst hres
    refine hA.walk fun g w ⟨e, hK⟩ => ⟨60, ?_⟩
    subst e
    exact goes_mono (fun g' w' h => ⟨h.1, _, h.2⟩) (noneR v7 v8 v9 v10 v28 v29 v30 v31 v32 v33 v34 v35 v36 v37 v38 v39 v40 v41 v42 v43 v44 v45 v46 v47 w hK)
  | succ r ih =>
    intro i hi hres v7 v8 v9 v10 v28 v29 v30 v31 v32 v33 v34 v35 v36 v37 v38 v39 v40 v41 v42 v43 v44 v45 v46 v47 mc t hA
    have hin : i < n := by omega
    have hx : (0 : Int) ≤ (i : Int) + 1 := by omega
    have hstep : ordX ((i : Int) + 1) m ≠ unQ m → rootA m (unQ m) r (((i + 1 : Nat) : Int) + 1) = res := fun h => by
      have e : (((i + 1 : Nat) : Int) + 1) = (i : Int) + 1 + 1 := by omega
      rw [e, ← hres]
      simp only [rootA]
      rw [if_neg fun k => h k.2]
    refine (hA.walk (I' := fun g w => g = atR (b₀.at a₀ (.inRegion ops₀ (i₀ :: rest₀) :: k₀) :: cs) m C (.slice (some ⟨v0, 0, none⟩) n cap) n N i v9 v10 v32 v34 v35 v36 v37 v38 v39 v40 v41 v42 v43 v44 v45 v46 v47 ∧ KnR n N m W i w) fun g w ⟨e, hK⟩ => ⟨60, by subst e; exact toRecv hin (hSha i) (by omega) v7 v8 v9 v10 v28 v29 v30 v31 v32 v33 v34 v35 v36 v37 v38 v39 v40 v41 v42 v43 v44 v45 v46 v47 w hK⟩).trans fun mc t hA => ?_
    obtain ⟨gs, g, w, sl, q, rfl, hs, h0, ⟨rfl, hK⟩, L0, P0⟩ := hA
    have hch := hK.ch i (Nat.le_refl i) hin
    have hcm := fun d => atR_comm (b₀.at a₀ (.inRegion ops₀ (i₀ :: rest₀) :: k₀) :: cs) m C (.slice (some ⟨v0, 0, none⟩) n cap) n N i v9 v10 v32 v34 v35 v36 v37 v38 v39 v40 v41 v42 v43 v44 v45 v46 v47 (w.at d)
    by_cases ho : ordX ((i : Int) + 1) m = 0
    · rw [resO_none ho] at hch
      obtain ⟨K3, gs3, d3, sl3, T3, q3, r3, z3, h03, L3, P3⟩ := beside_recv_closed (sl := sl) rfl h0 L0 P0 (by omega) hcm hch
      refine .step r3 ?_
      rw [served_atR] at h03
      have e1 : recvd true (.int .i64 0) false = .tuple #[.int .i64 0, .bool false] := by simp [recvd]
      rw [e1] at h03
      have hne : ordX ((i : Int) + 1) m ≠ unQ m := by have := unQ_pos hm; omega
      have hA2 : At Sh B (fun g w => g = gotR (b₀.at a₀ (.inRegion ops₀ (i₀ :: rest₀) :: k₀) :: cs) m C (.slice (some ⟨v0, 0, none⟩) n cap) n N i v9 v10 v32 (.tuple #[.int .i64 0, .bool false]) v35 v36 v37 v38 v39 v40 v41 v42 v43 v44 v45 v46 v47 ∧ KnR n N m W (i + 1) w) s (crowd gs3 (w.at d3) sl3) T3 :=
        ⟨gs3, _, _, sl3, q3, rfl, z3.trans hs, h03, ⟨rfl, hK.next d3⟩, L3, P3⟩
      refine (hA2.walk (I' := fun g w => (∃ u7 u8 u9 u10 u28 u29 u30 u31 u32 u33 u34 u35 u36 u37 u38 u39 u40 u41 u42 u43 u44 u45 u46 u47, g = headR (b₀.at a₀ (.inRegion ops₀ (i₀ :: rest₀) :: k₀) :: cs) m C (.slice (some ⟨v0, 0, none⟩) n cap) n N (i + 1) loopR restR u7 u8 u9 u10 u28 u29 u30 u31 u32 u33 u34 u35 u36 u37 u38 u39 u40 u41 u42 u43 u44 u45 u46 u47) ∧ KnR n N m W (i + 1) w) fun g w ⟨e, hK⟩ => ⟨60, by subst e; exact passOn hin hn 0 false (by simp) v9 v10 v32 v35 v36 v37 v38 v39 v40 v41 v42 v43 v44 v45 v46 v47 w hK⟩).trans fun mc t hA => ?_
      obtain ⟨gs, g, w, sl, q, rfl, hs, h0, ⟨⟨u7, u8, u9, u10, u28, u29, u30, u31, u32, u33, u34, u35, u36, u37, u38, u39, u40, u41, u42, u43, u44, u45, u46, u47, rfl⟩, hK⟩, L0, P0⟩ := hA
      exact ih (i + 1) (by omega) (hstep hne) _ _ _ _ _ _ _ _ _ _ _ _ _ _ _ _ _ _ _ _ _ _ _ _ _ _ ⟨gs, _, w, sl, q, rfl, hs, h0, ⟨rfl, hK⟩, L0, P0⟩
    · rw [resO_some ho] at hch
      obtain ⟨K3, gs3, d3, sl3, T3, q3, r3, z3, h03, L3, P3⟩ := beside_recv (sl := sl) rfl h0 L0 P0 (by omega) hcm hch (by simp)
      refine .step r3 ?_
      rw [served_atR] at h03
      have e1 : recvd true ((#[Value.int .i64 (ordX ((i : Int) + 1) m)]).getD 0 undef) true = .tuple #[.int .i64 (ordX ((i : Int) + 1) m), .bool true] := by simp [recvd]
      rw [e1] at h03
      have hA2 : At Sh B (fun g w => g = gotR (b₀.at a₀ (.inRegion ops₀ (i₀ :: rest₀) :: k₀) :: cs) m C (.slice (some ⟨v0, 0, none⟩) n cap) n N i v9 v10 v32 (.tuple #[.int .i64 (ordX ((i : Int) + 1) m), .bool true]) v35 v36 v37 v38 v39 v40 v41 v42 v43 v44 v45 v46 v47 ∧ KnR n N m W (i + 1) w) s (crowd gs3 ((w.setChan (N + 4 + 4 * i) 1 ((#[Value.int .i64 (ordX ((i : Int) + 1) m)] : Array Value).extract 1 (#[Value.int .i64 (ordX ((i : Int) + 1) m)] : Array Value).size) true 1 (0 + 1) false).at d3) sl3) T3 :=
        ⟨gs3, _, _, sl3, q3, rfl, z3.trans hs, h03, ⟨rfl, hK.chan d3⟩, L3, P3⟩
      by_cases hu : ordX ((i : Int) + 1) m = unQ m
      · have hr : res = ((i : Int) + 1, true) := by
          rw [← hres]
          simp only [rootA]
          rw [if_pos ((rootA_ord hm _ hx).2 hu)]
        rw [hu] at hA2
        rw [hr]
        exact hA2.walk fun g w ⟨e, hK⟩ => ⟨60, by subst e; exact goes_mono (fun g' w' h => ⟨h.1, _, h.2⟩) (foundR hin (hlist i hin) hv0 (hShl i) (by omega) v9 v10 v32 v35 v36 v37 v38 v39 v40 v41 v42 v43 v44 v45 v46 v47 w hK)⟩
      · refine (hA2.walk (I' := fun g w => (∃ u7 u8 u9 u10 u28 u29 u30 u31 u32 u33 u34 u35 u36 u37 u38 u39 u40 u41 u42 u43 u44 u45 u46 u47, g = headR (b₀.at a₀ (.inRegion ops₀ (i₀ :: rest₀) :: k₀) :: cs) m C (.slice (some ⟨v0, 0, none⟩) n cap) n N (i + 1) loopR restR u7 u8 u9 u10 u28 u29 u30 u31 u32 u33 u34 u35 u36 u37 u38 u39 u40 u41 u42 u43 u44 u45 u46 u47) ∧ KnR n N m W (i + 1) w) fun g w ⟨e, hK⟩ => ⟨60, by subst e; exact passOn hin hn _ true (fun _ => hu) v9 v10 v32 v35 v36 v37 v38 v39 v40 v41 v42 v43 v44 v45 v46 v47 w hK⟩).trans fun mc t hA => ?_
        obtain ⟨gs, g, w, sl, q, rfl, hs, h0, ⟨⟨u7, u8, u9, u10, u28, u29, u30, u31, u32, u33, u34, u35, u36, u37, u38, u39, u40, u41, u42, u43, u44, u45, u46, u47, rfl⟩, hK⟩, L0, P0⟩ := hA
        exact ih (i + 1) (by omega) (hstep hu) _ _ _ _ _ _ _ _ _ _ _ _ _ _ _ _ _ _ _ _ _ _ _ _ _ _ ⟨gs, _, w, sl, q, rfl, hs, h0, ⟨rfl, hK⟩, L0, P0⟩
end
end Go.Proofs.Ytfgipjgjehjijaa
