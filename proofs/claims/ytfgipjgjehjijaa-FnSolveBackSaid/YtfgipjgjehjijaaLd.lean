/- SolveOrder's whole call on the machine (own text). -/
import Derived.Test.YtfgipjgjehjijaaLc
namespace Go.Proofs.Ytfgipjgjehjijaa
open Go Go.Conc Go.ConcN Go.RowKit Go.Conc.Lib Go.ConcR.Gen Go.ConcN.Gen
open Go.ConcR (KK wgBlock WgAt stA smA rd wr mk Payload DC0)

section
variable {B N hi : Nat} {W : World} {L : List (Nat × Obj)} {b₀ : Frame} {a₀ : Act} {ops₀ : Array Oper} {i₀ : Nat} {rest₀ : List Nat} {k₀ : List Item} {cs : List Frame}
set_option maxHeartbeats 4000000 in
/-- SolveOrder(a, m). -/
theorem orderCall (a m : Int) (hB : hi + 100 < B) {mc : Machine} {t : Trace} (h : Stn B N W L hi (entO a m (b₀.at a₀ (.inRegion ops₀ (i₀ :: rest₀) :: k₀) :: cs)) mc t) :
    Reach mc t (Stn B N W L (hi + 20) (retG b₀ a₀ ops₀ i₀ rest₀ k₀ cs (.tuple #[.int .i64 (ordV a m), .bool (ordB a m)]))) := by
  cases hb : (numB a && modB m) with
  | false =>
    have e1 : ordV a m = 0 := by simp [ordV, hb]
    have e2 : ordB a m = false := by simp [ordB, hb]
    rw [e1, e2]
    exact h.walk fun Sh sz h1 h2 _ _ _ w hF => ⟨400, goes_mono (fun g' w' hx => ⟨hx.1, sz, Nat.le_refl _, by omega, hx.2⟩) (earlyOrder a m hb w hF)⟩
  | true =>
  obtain ⟨_, hmod⟩ : numB a = true ∧ modB m = true := by simpa using hb
  obtain ⟨hm, hm2⟩ := modB_iff.1 hmod
  obtain ⟨Sh, s, sz, h1, h2, hc, ho, gs, g', w, sl, q, rfl, hs, h0, ⟨rfl, hF⟩, L0, P0⟩ := h
  have hL : ∀ q ∈ L, q.1 < sz := fun q hq => by have := lt_of_blk (hF.blk q hq); rw [hF.size] at this; exact this
  have hA : At Sh B (fun g'' w' => g'' = entO a m (b₀.at a₀ (.inRegion ops₀ (i₀ :: rest₀) :: k₀) :: cs) ∧ w' = w) s (crowd gs w sl) t := ⟨gs, _, w, sl, q, rfl, hs, h0, ⟨rfl, rfl⟩, L0, P0⟩
  refine (hA.walk (I' := HeadAtS a m N W sz L (b₀.at a₀ (.inRegion ops₀ (i₀ :: rest₀) :: k₀) :: cs)) fun g'' w' ⟨e1, e2⟩ => ⟨_, by subst e1 e2; exact preOrder a m hb h1 w' hF⟩).trans fun mc t hA0 => ?_
  clear hA P0 L0 h0 hs hF
  obtain ⟨gs, g, W₁, sl, q, rfl, hs, h0, ⟨w1, hG, rfl, hF1⟩, L0, P0⟩ := hA0
  obtain ⟨J0, hJ⟩ : ∃ J0, gs.size = J0 + 1 := ⟨gs.size - 1, by have := (Array.getElem?_eq_some_iff.1 h0).1; omega⟩
  have hShN : ∀ a : Addr, Sh (.cell a) → a.block < sz + 1 := fun a h => by have := (hc a h).2; omega
  have O : (opl Sh B J0 1 (sz + 1) m (fun _ => a)).Ok := opl_ok hShN (by omega) (by omega)
  have hwg : WgAt Try.link.tWg (sz + 1 + 2) W₁ 0 0 := hF1.blk (sz + 3, _) (by simp)
  have hcells : ∀ k : Nat, k < 1 → w1.cell? ((⟨sz, 0, none⟩ : Addr).add k) = some (.int .i64 ((fun _ => a) k)) := by
    intro k hk
    obtain rfl : k = 0 := by omega
    have := hG.blk (sz, .cells #[.int .i64 a] 3) (by simp)
    simp [Addr.add, World.cell?, this]
  have hS := startsO (Sh := Sh) (B := B) (J0 := J0) (n := 1) (N := sz + 1) (m := m) (xs := fun _ => a) (W := w1) (lb := ⟨sz, 0, none⟩) (cap := 1) (cs := cFS a m sz :: b₀.at a₀ (.inRegion ops₀ (i₀ :: rest₀) :: k₀) :: cs)
    hShN (by omega) hm hm2 (by omega) (by omega) hcells (by simp) (fun k _ h => by rw [addr_add0] at h; have h := (hc _ h).2; have h : sz < sz := h; omega) (madeCells #[.chan none] 1) (by simp [size_madeCells]) undef undef undef undef undef undef undef undef undef undef undef undef undef W₁
    ⟨⟨hF1.weak (by simp), by simp, by omega⟩, ⟨0, 0, hwg⟩⟩
  obtain ⟨K1, m1, T1, r1, gs1, g1, w2, sl1, q1, rfl, z1, h01, _, ⟨kL, hKL⟩, L1, P1, hfin⟩ := phase (p := opl Sh B J0 1 (sz + 1) m (fun _ => a)) (Nx := Left Try.prog (KnW 1 (sz + 1) m w1) (backO 1 (sz + 1) m (fun _ => a) (cFS a m sz :: b₀.at a₀ (.inRegion ops₀ (i₀ :: rest₀) :: k₀) :: cs) ⟨sz, 0, none⟩ 1))
    (Anch := anchO Sh B J0 1 (sz + 1) m (fun _ => a) w1 (cFS a m sz :: b₀.at a₀ (.inRegion ops₀ (i₀ :: rest₀) :: k₀) :: cs) ⟨sz, 0, none⟩ 1) (sl := sl) (gs := gs) (t := t) O
    (fun g w h => by obtain ⟨_, rfl, _⟩ := h; rfl) (roundO hShN (by omega) (by omega)) (B0 := B) (q := q) (Nat.le_refl _) hJ h0 L0 P0 hwg hS
  refine .step r1 ?_
  clear hS hwg r1 L0 P0 h0 hF1
  have hfin' : w2.heap[sz + 5]? = some (resO a m) := by
    have := hfin (J0 + 1) (by show J0 < J0 + 1; omega) (by show J0 + 1 ≤ J0 + 1; omega)
    have e : J0 + 1 - J0 - 1 = 0 := by omega
    simp only [Fin, opl, e] at this
    exact this
  have hNs : ¬ (Sh (.cell ⟨sz + 2, 0, none⟩) ∨ OwL (opl Sh B J0 1 (sz + 1) m (fun _ => a)) (.cell ⟨sz + 2, 0, none⟩)) := by
    rintro (h | ⟨a', e, ha⟩ | ⟨x, _, _, e⟩)
    · have h := (hc _ h).2
      have h : sz + 2 < sz := h
      omega
    · cases e
      have ha : sz + 2 = sz + 1 + 2 := ha
      omega
    · cases e
  have hgo : Goes Try.prog true AtRel (DE (EvL (fun l => Sh l ∨ OwL (opl Sh B J0 1 (sz + 1) m (fun _ => a)) l) B)) (fun g w => g = atO a m sz (b₀.at a₀ (.inRegion ops₀ (i₀ :: rest₀) :: k₀) :: cs) ∧ KnO sz w1 (resO a m) w) (60 + kL) g1 w2 := by
    refine goes_join atRel_refl ?_
    refine goes_turn (I := fun w => w.heap[sz + 5]? = some (resO a m)) (R := AtRel) (D := DC0) (fun w w₁ hI h => ⟨h, by obtain ⟨d, rfl⟩ := h; exact hI⟩) (fun w w' es hI h => ⟨fun e he => by rw [h.2] at he; simp at he, by rw [h.1]; exact hI⟩) (fun g w hI h => ?_) hfin' hKL
    obtain ⟨rfl, hK⟩ := h
    have hK : LF (sz + 1) w1 1 (sz + 1 + 3 + 4 * 1) [(sz + 1 + 1, .cells (chs (sz + 1) 1).toArray 36), (sz + 1, .cells #[.int .i64 m] 3)] w := hK
    refine backOrder a m sz w1 _ hNs (by omega) _ w ⟨by have := hK.fa.size; omega, hK.fa.old, ?_, hI, hK.fa.tape, hK.fa.os, hK.fa.output⟩
    have := hK.fa.blk (sz + 1 + 1, _) (List.mem_cons_self ..)
    simpa [chs] using this
  have hA1 : At (fun l => Sh l ∨ OwL (opl Sh B J0 1 (sz + 1) m (fun _ => a)) l) B (fun g w => g = g1 ∧ w = w2) (J0 + 1 + 1) (crowd gs1 w2 sl1) T1 := ⟨gs1, g1, w2, sl1, q1, rfl, z1, h01, ⟨rfl, rfl⟩, L1, P1⟩
  refine (hA1.walk (I' := fun g w => g = atO a m sz (b₀.at a₀ (.inRegion ops₀ (i₀ :: rest₀) :: k₀) :: cs) ∧ KnO sz w1 (resO a m) w) fun g w ⟨e1, e2⟩ => ⟨_, by subst e1 e2; exact hgo⟩).trans fun mc t hA2 => ?_
  clear hgo hA1 hKL hfin hfin' P1 L1 h01
  obtain ⟨gs, g, w3, sl, q, rfl, hs, h0, ⟨rfl, hK⟩, L0, P0⟩ := hA2
  -- what is known of the world behind the receive
  have hFa : ∀ w : World, (∀ b, b ≠ sz + 5 → w.heap[b]? = w3.heap[b]?) → w.heap.size = w3.heap.size → w.tape = w3.tape → w.os = w3.os → w.output = w3.output → Fa N W (sz + 8) L w := fun w hw hsz ht hos hout =>
    ⟨hsz.trans hK.size, fun b hb => (hw b (by omega)).trans ((hK.old b (by omega)).trans (hG.old b hb)), fun q hq => (hw _ (by have := hL q hq; omega)).trans ((hK.old _ (by have := hL q hq; omega)).trans (hG.blk q (List.mem_cons_of_mem _ hq))), ht.trans (hK.tape.trans hG.tape), hos.trans (hK.os.trans hG.os), hout.trans (hK.output.trans hG.output)⟩
  have hend : ∀ (k : Int) (ok : Bool) (gs3 : Array Goroutine) (w4 : World) (sl3 : Option (Nat × Nat)) (q3 : Nat → Nat) (T3 : Trace), gs3.size = J0 + 1 + 1 → gs3[0]? = some (gotO a m sz (b₀.at a₀ (.inRegion ops₀ (i₀ :: rest₀) :: k₀) :: cs) (.tuple #[.int .i64 k, .bool ok])) → Fa N W (sz + 8) L w4 →
      Leavers Try.prog T3 gs3 q3 → Past (fun l => Sh l ∨ OwL (opl Sh B J0 1 (sz + 1) m (fun _ => a)) l) B T3 → Reach (crowd gs3 w4 sl3) T3 (Stn B N W L (hi + 20) (retG b₀ a₀ ops₀ i₀ rest₀ k₀ cs (.tuple #[.int .i64 k, .bool ok]))) := by
    intro k ok gs3 w4 sl3 q3 T3 hs3 h03 hF4 L3 P3
    have hA : At (fun l => Sh l ∨ OwL (opl Sh B J0 1 (sz + 1) m (fun _ => a)) l) B (fun g w => g = gotO a m sz (b₀.at a₀ (.inRegion ops₀ (i₀ :: rest₀) :: k₀) :: cs) (.tuple #[.int .i64 k, .bool ok]) ∧ Fa N W (sz + 8) L w) (J0 + 1 + 1) (crowd gs3 w4 sl3) T3 := ⟨gs3, _, w4, sl3, q3, rfl, hs3, h03, ⟨rfl, hF4⟩, L3, P3⟩
    refine (hA.walk (I' := fun g w => g = retG b₀ a₀ ops₀ i₀ rest₀ k₀ cs (.tuple #[.int .i64 k, .bool ok]) ∧ Fa N W (sz + 8) L w) fun g w ⟨e1, e2⟩ => ⟨60, by subst e1; exact endOrder a m sz (Fa N W (sz + 8) L) Fa.atRel k ok w e2⟩).mono fun mc t hA => ?_
    refine ⟨_, J0 + 1 + 1, sz + 8, by omega, by omega, ?_, ?_, hA⟩
    · rintro c (h | ⟨a', e, ha⟩ | ⟨x, _, _, e⟩)
      · have := hc c h; omega
      · cases e
        have ha : c.block = sz + 1 + 2 := ha
        omega
      · cases e
    · rintro b (h | ⟨a', e, ha⟩ | ⟨x, hx1, hx2, e⟩)
      · have := ho b h; omega
      · cases e
      · have hx2 : x ≤ J0 + 1 := hx2
        have hx1 : J0 < x := hx1
        have e : b = sz + 1 + 4 + 4 * (x - J0 - 1) := by injection e
        omega
  have hcm := fun d => atO_comm a m sz (b₀.at a₀ (.inRegion ops₀ (i₀ :: rest₀) :: k₀) :: cs) (w3.at d)
  have hch := hK.ch
  by_cases h00 : ordX a m = 0
  · rw [resO_none h00] at hch
    obtain ⟨K3, gs3, d3, sl3, T3, q3, r3, z3, h03, L3, P3⟩ := beside_recv_closed (sl := sl) rfl h0 L0 P0 (by omega) hcm hch
    refine .step r3 ?_
    rw [served_atO] at h03
    have e1 : recvd true (.int .i64 0) false = .tuple #[.int .i64 0, .bool false] := by simp [recvd]
    rw [e1] at h03
    have e2 : ordV a m = 0 := by simp [ordV, hb, h00]
    have e3 : ordB a m = false := by simp [ordB, hb, h00]
    rw [e2, e3]
    exact hend 0 false gs3 _ sl3 q3 T3 (z3.trans hs) h03 (hFa _ (fun _ _ => rfl) rfl rfl rfl rfl) L3 P3
  · rw [resO_some h00] at hch
    obtain ⟨K3, gs3, d3, sl3, T3, q3, r3, z3, h03, L3, P3⟩ := beside_recv (sl := sl) rfl h0 L0 P0 (by omega) hcm hch (by simp)
    refine .step r3 ?_
    rw [served_atO] at h03
    have e1 : recvd true ((#[Value.int .i64 (ordX a m)]).getD 0 undef) true = .tuple #[.int .i64 (ordX a m), .bool true] := by simp [recvd]
    rw [e1] at h03
    have e2 : ordV a m = ordX a m := by simp [ordV, hb]
    have e3 : ordB a m = true := by simp [ordB, hb, h00]
    rw [e2, e3]
    exact hend _ true gs3 _ sl3 q3 T3 (z3.trans hs) h03 (hFa _ (fun b hb => setChan_ne (w := w3) (by omega)) (by simp [World.setChan, World.at]) rfl rfl rfl) L3 P3
end
end Go.Proofs.Ytfgipjgjehjijaa
