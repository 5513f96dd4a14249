/- FnExactSolveOrder: the run, on whatever tape (own text). -/
import Derived.Test.YtjofmchipkfnmaaKs
namespace Go.Proofs.Ytjofmchipkfnmaa
open Go Go.Conc Go.ConcN Go.RowKit Go.Conc.Lib Go.ConcR.Gen Go.ConcN.Gen
open Go.ConcR (KK wgBlock WgAt stA smA rd wr mk Payload DC0)

noncomputable def entryL (a m : Int) : Goroutine := G ((base 3).at ⟨#[.int .i64 a, .int .i64 m, undef, undef, undef, undef, undef, undef, undef, undef, undef, undef, undef, undef, undef, undef, undef, undef, undef, undef, undef, undef, undef, undef, undef, undef, undef, undef, undef], []⟩ [.code bodyL]) []
theorem enter_eq (a m : Int) : G (Frame.enter Try.prog 3 #[.int .i64 a, .int .i64 m] .normal) [] = entryL a m := by
  simp [entryL, Frame.enter, Frame.at, Try.func3, base, bodyL, Try.f3, Array.replicate_succ]

theorem Kn2.below {S c : Nat} {W w : World} {o : Obj} (h : Kn2 S W c o w) (hS : S = W.heap.size) : Below W.heap.size W w := ⟨h.os, h.tape, h.output, by have := h.size; omega, fun k hk => h.old k (by omega)⟩
theorem Kn2.belowChan {S c cap s r : Nat} {W w : World} {o : Obj} {buf : Array Value} {cl tm : Bool} (h : Kn2 S W c o w) (hS : S = W.heap.size) (hc : S ≤ c) (d : Nat) : Below W.heap.size W ((w.setChan c cap buf cl s r tm).at d) :=
  ⟨h.os, h.tape, h.output, by have := h.size; simp [World.setChan, World.at]; omega, fun k hk => (setChan_ne (w := w) (by omega)).trans (h.old k (by omega))⟩

section
variable (a m : Int) (W : World)

theorem run_true (hb : (numB a && modB m) = true) : Ends W (solo (entryL a m) W) #[] := by
  obtain ⟨ha, hm⟩ : numB a = true ∧ modB m = true := by simpa using hb
  have hm := modB_iff.1 hm
  rw [solo_eq_crowd]
  obtain ⟨K0, gs0, g0, W₁, sl0, T0, q0, r0, z0, h00, hd0, L0, P0⟩ := walk_beside (P := Try.prog) (fun _ _ _ h => h) _ 400500 #[entryL a m] (entryL a m) W none #[] (fun _ => 0)
    (Nat.le_refl _) rfl (leavers_one _ _) past_nil (preWalk a m W hb)
  refine ends_pre r0 ?_
  obtain ⟨w1, hw1, rfl, hF⟩ := hd0
  have O : ((opl (fun _ => False) (W.heap.size + 20) 0 1 (W.heap.size + 1) m (fun _ => a))).Ok := opl_ok (fun _ h => h.elim) (by omega) (by omega)
  have hwg : WgAt Try.link.tWg (W.heap.size + 1 + 2) W₁ 0 0 := hF.blk (W.heap.size + 3, _) (by simp)
  have hl : ∀ k, k < 1 → w1.cell? ((⟨W.heap.size, 0, none⟩ : Addr).add k) = some (.int .i64 ((fun _ => a) k)) := by
    intro k hk
    obtain rfl : k = 0 := by omega
    have := hw1.blk (W.heap.size, .cells #[.int .i64 a] 3) (by simp)
    simp [Addr.add, World.cell?, this]
  have hS := startsO (Sh := fun _ => False) (B := W.heap.size + 20) (J0 := 0) (n := 1) (N := W.heap.size + 1) (m := m) (xs := fun _ => a) (W := w1) (lb := ⟨W.heap.size, 0, none⟩) (cap := 1) (cs := [cFV a m W.heap.size, cFL a m])
    (fun _ h => h.elim) (by omega) hm.1 hm.2 (by omega) (by omega) hl (by simp) (fun _ _ h => h) (madeCells #[.chan none] 1) (by simp [size_madeCells]) undef undef undef undef undef undef undef undef undef undef undef undef undef W₁
    ⟨⟨hF.weak (by simp), by simp, by omega⟩, ⟨0, 0, hwg⟩⟩
  obtain ⟨K1, m1, T1, r1, gs1, g1, w2, sl1, q1, rfl, z1, h01, _, hNx, L1, P1, hfin⟩ := phase (p := (opl (fun _ => False) (W.heap.size + 20) 0 1 (W.heap.size + 1) m (fun _ => a))) (Nx := Left Try.prog (KnW 1 (W.heap.size + 1) m w1) (backO 1 (W.heap.size + 1) m (fun _ => a) [cFV a m W.heap.size, cFL a m] ⟨W.heap.size, 0, none⟩ 1))
    (Anch := anchO (fun _ => False) (W.heap.size + 20) 0 1 (W.heap.size + 1) m (fun _ => a) w1 [cFV a m W.heap.size, cFL a m] ⟨W.heap.size, 0, none⟩ 1) (sl := sl0) (gs := gs0) (t := T0) O
    (fun g w h => by obtain ⟨_, rfl, _⟩ := h; rfl) (roundO (fun _ h => h.elim) (by omega) (by omega)) (B0 := 0) (q := q0) (Nat.zero_le _) (by rw [z0]; rfl) h00 L0 P0 hwg hS
  refine ends_pre r1 ?_
  obtain ⟨kL, hL⟩ := hNx
  have hfin : w2.heap[W.heap.size + 5]? = some (if ordX a m ≠ 0 then .chan 1 #[.int .i64 (ordX a m)] true 1 0 false else .chan 1 #[] true 0 0 false) := hfin 1 (by show 0 < 1; omega) (by show 1 ≤ 0 + 1; omega)
  generalize hob : (if ordX a m ≠ 0 then Obj.chan 1 #[.int .i64 (ordX a m)] true 1 0 false else .chan 1 #[] true 0 0 false) = ob at hfin
  -- on from Wait's return
  have hgo : Goes Try.prog true AtRel (DE (EvL (fun l => False ∨ OwL (opl (fun _ => False) (W.heap.size + 20) 0 1 (W.heap.size + 1) m (fun _ => a)) l) (W.heap.size + 20))) (fun g w' => g = atV a m W.heap.size (W.heap.size + 5) ∧ Kn2 W.heap.size W (W.heap.size + 5) ob w') (60 + kL) g1 w2 := by
    refine goes_join atRel_refl ?_
    refine goes_turn (I := fun w => w.heap[W.heap.size + 5]? = some ob) (R := AtRel) (D := DC0) (fun w w₁ hI h => ⟨h, by obtain ⟨d, rfl⟩ := h; exact hI⟩) (fun w w' es hI h => ⟨fun e he => by rw [h.2] at he; simp at he, by rw [h.1]; exact hI⟩) (fun g w hI h => ?_) hfin hL
    obtain ⟨rfl, hK⟩ := h
    have hK : LF (W.heap.size + 1) w1 1 (W.heap.size + 1 + 3 + 4 * 1) [(W.heap.size + 1 + 1, .cells (chs (W.heap.size + 1) 1).toArray 29), (W.heap.size + 1, .cells #[.int .i64 m] 3)] w := hK
    refine postWalk a m W.heap.size W ob ?_ (by omega) (fun _ => a) w ⟨?_, fun b hb => ?_, ?_, hI, hK.fa.tape.trans hw1.tape, hK.fa.os.trans hw1.os, hK.fa.output.trans hw1.output⟩
    · rintro (h | ⟨b, e, hb⟩ | ⟨x, _, _, e⟩)
      · exact h
      · cases e
        have hb : W.heap.size + 2 = W.heap.size + 1 + 2 := hb
        omega
      · cases e
    · have := hK.fa.size; omega
    · exact (hK.fa.old b (by omega)).trans (hw1.old b hb)
    · have := hK.fa.blk (W.heap.size + 1 + 1, _) (List.mem_cons_self ..)
      simpa [chs] using this
  obtain ⟨K2, gs2, g2, w3, sl2, T2, q2, r2, z2, h02, ⟨rfl, hK⟩, L2, P2⟩ := walk_beside (P := Try.prog) (fun _ _ _ h => h) _ (60 + kL) gs1 g1 w2 sl1 T1 q1 (Nat.le_refl _) h01 L1 P1 hgo
  refine ends_pre r2 ?_
  have hcm : ∀ d, stepG Try.prog true (atV a m W.heap.size (W.heap.size + 5)) (w3.at d) = .comm (atV a m W.heap.size (W.heap.size + 5)) #[rcase (W.heap.size + 5) (.int .i64 0)] true (.recv true) (w3.at d) #[] := fun d => atV_comm a m _ _ _
  have hch := hK.ch
  rw [← hob] at hch
  by_cases h0 : ordX a m = 0
  · rw [if_neg (by simp [h0])] at hch
    obtain ⟨K3, gs3, d3, sl3, T3, q3, r3, z3, h03, L3, P3⟩ := beside_recv_closed (sl := sl2) rfl h02 L2 P2 (by show W.heap.size + 5 < W.heap.size + 20; omega) hcm hch
    refine ends_pre r3 ?_
    rw [served_atV] at h03
    have e1 : recvd true (.int .i64 0) false = .tuple #[.int .i64 (ordV a m), .bool (ordB a m)] := by simp [recvd, ordV, ordB, hb, h0]
    rw [e1] at h03
    exact beside_ends (P := Try.prog) (Post := PostL W) (sl := sl3) (fun _ _ _ h => h) h03 L3 P3 (endWalk a m W.heap.size W (W.heap.size + 5) rfl _ ((hK.rely ⟨d3, rfl⟩).below rfl))
  · rw [if_pos h0] at hch
    obtain ⟨K3, gs3, d3, sl3, T3, q3, r3, z3, h03, L3, P3⟩ := beside_recv (sl := sl2) rfl h02 L2 P2 (by show W.heap.size + 5 < W.heap.size + 20; omega) hcm hch (by simp)
    refine ends_pre r3 ?_
    rw [served_atV] at h03
    have e1 : recvd true ((#[Value.int .i64 (ordX a m)]).getD 0 undef) true = .tuple #[.int .i64 (ordV a m), .bool (ordB a m)] := by simp [recvd, ordV, ordB, hb, h0]
    rw [e1] at h03
    exact beside_ends (P := Try.prog) (Post := PostL W) (sl := sl3) (fun _ _ _ h => h) h03 L3 P3 (endWalk a m W.heap.size W (W.heap.size + 5) rfl _ (hK.belowChan rfl (by omega) d3))
end
end Go.Proofs.Ytjofmchipkfnmaa
