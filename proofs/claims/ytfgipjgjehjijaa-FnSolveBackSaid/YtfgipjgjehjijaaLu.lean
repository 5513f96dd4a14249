/- SolveRoot's whole call on the machine (own text). -/
import Derived.Test.YtfgipjgjehjijaaLt
namespace Go.Proofs.Ytfgipjgjehjijaa
open Go Go.Conc Go.ConcN Go.RowKit Go.Conc.Lib Go.ConcR.Gen Go.ConcN.Gen
open Go.ConcR (KK wgBlock WgAt stA smA rd wr mk Payload DC0)

/-- Goroutine 0 stands at g, the others only leave; of the world is known what stood below N, and L; what is shunned lies behind N. -/
def Stn (B N : Nat) (W : World) (L : List (Nat × Obj)) (hi : Nat) (g : Goroutine) (mc : Machine) (t : Trace) : Prop :=
  ∃ (Sh : Loc → Prop) (s sz : Nat), N ≤ sz ∧ sz ≤ hi ∧ (∀ a : Addr, Sh (.cell a) → N ≤ a.block ∧ a.block < sz) ∧ (∀ b, Sh (.obj b) → N ≤ b ∧ b < sz) ∧ At Sh B (fun g' w => g' = g ∧ Fa N W sz L w) s mc t
theorem Stn.walk {B N : Nat} {W : World} {L : List (Nat × Obj)} {hi hi2 : Nat} {g g2 : Goroutine} {mc : Machine} {t : Trace} (h : Stn B N W L hi g mc t)
    (hg : ∀ (Sh : Loc → Prop) (sz : Nat), N ≤ sz → sz ≤ hi → (∀ a : Addr, Sh (.cell a) → N ≤ a.block ∧ a.block < sz) → (∀ b, Sh (.obj b) → N ≤ b ∧ b < sz) → (∀ q ∈ L, q.1 < sz) → ∀ w, Fa N W sz L w →
      ∃ n, Goes Try.prog true AtRel (DE (EvL Sh B)) (fun g' w' => g' = g2 ∧ ∃ sz', sz ≤ sz' ∧ sz' ≤ hi2 ∧ Fa N W sz' L w') n g w) : Reach mc t (Stn B N W L hi2 g2) := by
  obtain ⟨Sh, s, sz, h1, h2, hc, ho, gs, g', w, sl, q, rfl, hs, h0, ⟨rfl, hF⟩, L0, P0⟩ := h
  have hL : ∀ q ∈ L, q.1 < sz := fun q hq => by have := lt_of_blk (hF.blk q hq); rw [hF.size] at this; exact this
  have hA : At Sh B (fun g'' w' => g'' = g' ∧ w' = w) s (crowd gs w sl) t := ⟨gs, g', w, sl, q, rfl, hs, h0, ⟨rfl, rfl⟩, L0, P0⟩
  refine (hA.walk (I' := fun g' w' => g' = g2 ∧ ∃ sz', sz ≤ sz' ∧ sz' ≤ hi2 ∧ Fa N W sz' L w') fun g'' w' ⟨e1, e2⟩ => by subst e1 e2; exact hg Sh sz h1 h2 hc ho hL w' hF).mono fun mc t hA => ?_
  obtain ⟨gs, g', w, sl, q, rfl, hs, h0, ⟨rfl, sz', k1, k2, hF⟩, L0, P0⟩ := hA
  exact ⟨Sh, s, sz', by omega, k2, fun a h => by have := hc a h; omega, fun b h => by have := ho b h; omega, gs, g', w, sl, q, rfl, hs, h0, ⟨rfl, hF⟩, L0, P0⟩

theorem addr_add0 (b k : Nat) : (⟨b, 0, none⟩ : Addr).add k = ⟨b, k, none⟩ := by
  unfold Addr.add
  split
  · rename_i h
    rw [h]
  · simp

section
variable {B N hi : Nat} {W : World} {L : List (Nat × Obj)} {b₀ : Frame} {a₀ : Act} {ops₀ : Array Oper} {i₀ : Nat} {rest₀ : List Nat} {k₀ : List Item} {cs : List Frame}
/-- SolveRoot's entry. -/
noncomputable def entR (m : Int) (cs : List Frame) : Goroutine := G ((base 15).at ⟨#[.int .i64 m, undef, undef, undef, undef, undef, undef, undef, undef, undef, undef, undef, undef, undef, undef, undef, undef, undef, undef, undef, undef, undef, undef, undef, undef, undef, undef, undef, undef, undef, undef, undef, undef, undef, undef, undef, undef, undef, undef, undef, undef, undef, undef, undef, undef, undef, undef, undef], []⟩ [.code bodyR]) cs

set_option maxHeartbeats 4000000 in
/-- SolveRoot(m), m a modulus. -/
theorem rootCall {m : Int} (hm : 1 ≤ m) (hm2 : m ≤ 1000) (hB : hi + 20000 < B) {mc : Machine} {t : Trace} (h : Stn B N W L hi (entR m (b₀.at a₀ (.inRegion ops₀ (i₀ :: rest₀) :: k₀) :: cs)) mc t) :
    Reach mc t (Stn B N W L (hi + 7000) (retG b₀ a₀ ops₀ i₀ rest₀ k₀ cs (.tuple #[.int .i64 (rootR m).1, .bool (rootR m).2]))) := by
  obtain ⟨Sh, s, sz, h1, h2, hc, ho, gs, g', w, sl, q, rfl, hs, h0, ⟨rfl, hF⟩, L0, P0⟩ := h
  have hL : ∀ q ∈ L, q.1 < sz := fun q hq => by have := lt_of_blk (hF.blk q hq); rw [hF.size] at this; exact this
  have hA : At Sh B (fun g'' w' => g'' = entR m (b₀.at a₀ (.inRegion ops₀ (i₀ :: rest₀) :: k₀) :: cs) ∧ w' = w) s (crowd gs w sl) t := ⟨gs, _, w, sl, q, rfl, hs, h0, ⟨rfl, rfl⟩, L0, P0⟩
  refine (hA.walk (I' := HeadAtR m N W sz L (b₀.at a₀ (.inRegion ops₀ (i₀ :: rest₀) :: k₀) :: cs)) fun g'' w' ⟨e1, e2⟩ => ⟨_, by subst e1 e2; exact preRoot hm hm2 h1 (fun a h => (hc a h).2) (fun b hb h => by have := (ho b h).2; omega) (by omega) hL w' hF⟩).trans fun mc t hA0 => ?_
  clear hA P0 L0 h0 hs hF
  obtain ⟨gs, g, W₁, sl, q, rfl, hs, h0, ⟨v0, cap, w1, hv0, hG, rfl, hF1⟩, L0, P0⟩ := hA0
  have hge := hG.ge
  have hle := hG.le
  have hv1 : v0 < w1.heap.size := (hG.own.lt v0 rfl).2
  have hrr : rootA m (unQ m) m.toNat 1 = rootR m := by simp [rootR, hm, hm2]
  generalize hn : m.toNat = n at *
  have hn1 : 0 < n := by omega
  have hn2 : n ≤ 1000 := by omega
  generalize hN' : w1.heap.size = N' at *
  obtain ⟨J0, hJ⟩ : ∃ J0, gs.size = J0 + 1 := ⟨gs.size - 1, by have := (Array.getElem?_eq_some_iff.1 h0).1; omega⟩
  have hShN : ∀ a : Addr, Sh (.cell a) → a.block < N' := fun a h => by have := (hc a h).2; omega
  have O : (opl Sh B J0 n N' m (fun k => (k : Int) + 1)).Ok := opl_ok hShN (by omega) (by omega)
  have hwg : WgAt Try.link.tWg (N' + 2) W₁ 0 0 := hF1.blk (N' + 2, _) (by simp)
  have hcells : ∀ k : Nat, k < n → w1.cell? ((⟨v0, 0, none⟩ : Addr).add k) = some (.int .i64 ((k : Int) + 1)) := fun k hk => hG.own.cells (g := v0) rfl k _ (by simp [upTo, hk])
  have hS := startsO (Sh := Sh) (B := B) (J0 := J0) (n := n) (N := N') (m := m) (xs := fun k => (k : Int) + 1) (W := w1) (lb := ⟨v0, 0, none⟩) (cap := cap) (cs := cFR m (sz + 12) (.slice (some ⟨v0, 0, none⟩) n cap) :: b₀.at a₀ (.inRegion ops₀ (i₀ :: rest₀) :: k₀) :: cs)
    hShN (by omega) hm hm2 hn1 (by omega) hcells hv1 (fun k _ h => by rw [addr_add0] at h; have h := (hc _ h).2; have h : v0 < sz := h; omega) (madeCells #[.chan none] n) (by simp [size_madeCells]) undef undef undef undef undef undef undef undef undef undef undef undef undef W₁
    ⟨⟨hF1.weak (by simp), by simp, by omega⟩, ⟨0, 0, hwg⟩⟩
  obtain ⟨K1, m1, T1, r1, gs1, g1, w2, sl1, q1, rfl, z1, h01, _, ⟨kL, hKL⟩, L1, P1, hfin⟩ := phase (p := opl Sh B J0 n N' m (fun k => (k : Int) + 1)) (Nx := Left Try.prog (KnW n N' m w1) (backO n N' m (fun k => (k : Int) + 1) (cFR m (sz + 12) (.slice (some ⟨v0, 0, none⟩) n cap) :: b₀.at a₀ (.inRegion ops₀ (i₀ :: rest₀) :: k₀) :: cs) ⟨v0, 0, none⟩ cap))
    (Anch := anchO Sh B J0 n N' m (fun k => (k : Int) + 1) w1 (cFR m (sz + 12) (.slice (some ⟨v0, 0, none⟩) n cap) :: b₀.at a₀ (.inRegion ops₀ (i₀ :: rest₀) :: k₀) :: cs) ⟨v0, 0, none⟩ cap) (sl := sl) (gs := gs) (t := t) O
    (fun g w h => by obtain ⟨_, rfl, _⟩ := h; rfl) (roundO hShN (by omega) (by omega)) (B0 := B) (q := q) (Nat.le_refl _) hJ h0 L0 P0 hwg hS
  refine .step r1 ?_
  clear hS hwg r1 L0 P0 h0 hF1
  have hfin' : ∀ i : Nat, i < n → w2.heap[N' + 4 + 4 * i]? = some (resO ((i : Int) + 1) m) := fun i hi => by
    have := hfin (J0 + 1 + i) (by show J0 < J0 + 1 + i; omega) (by show J0 + 1 + i ≤ J0 + n; omega)
    have e : J0 + 1 + i - J0 - 1 = i := by omega
    simp only [Fin, opl, e] at this
    exact this
  have hgo : Goes Try.prog true AtRel (DE (EvL (fun l => Sh l ∨ OwL (opl Sh B J0 n N' m (fun k => (k : Int) + 1)) l) B)) (fun g w => g = headR (b₀.at a₀ (.inRegion ops₀ (i₀ :: rest₀) :: k₀) :: cs) m (sz + 12) (.slice (some ⟨v0, 0, none⟩) n cap) n N' 0 loopR restR undef undef undef undef undef undef undef undef undef undef undef undef undef undef undef undef undef undef undef undef undef undef undef undef ∧ KnR n N' m w1 0 w) (60 + kL) g1 w2 := by
    refine goes_join atRel_refl ?_
    refine goes_turn (I := fun w => ∀ i : Nat, i < n → w.heap[N' + 4 + 4 * i]? = some (resO ((i : Int) + 1) m)) (R := AtRel) (D := DC0) (fun w w₁ hI h => ⟨h, by obtain ⟨d, rfl⟩ := h; exact hI⟩) (fun w w' es hI h => ⟨fun e he => by rw [h.2] at he; simp at he, by rw [h.1]; exact hI⟩) (fun g w hI h => ?_) hfin' hKL
    obtain ⟨rfl, hK⟩ := h
    have hK : LF N' w1 n (N' + 3 + 4 * n) [(N' + 1, .cells (chs N' n).toArray 36), (N', .cells #[.int .i64 m] 3)] w := hK
    exact backRoot m (sz + 12) _ n N' (by omega) w1 _ _ _ w ⟨hK.fa.size, hK.fa.old, hK.fa.blk _ (List.mem_cons_self ..), fun i _ hi => hI i hi, hK.fa.tape, hK.fa.os, hK.fa.output⟩
  have hA1 : At (fun l => Sh l ∨ OwL (opl Sh B J0 n N' m (fun k => (k : Int) + 1)) l) B (fun g w => g = g1 ∧ w = w2) (J0 + 1 + n) (crowd gs1 w2 sl1) T1 := ⟨gs1, g1, w2, sl1, q1, rfl, z1, h01, ⟨rfl, rfl⟩, L1, P1⟩
  refine (hA1.walk (I' := fun g w => g = headR (b₀.at a₀ (.inRegion ops₀ (i₀ :: rest₀) :: k₀) :: cs) m (sz + 12) (.slice (some ⟨v0, 0, none⟩) n cap) n N' 0 loopR restR undef undef undef undef undef undef undef undef undef undef undef undef undef undef undef undef undef undef undef undef undef undef undef undef ∧ KnR n N' m w1 0 w) fun g w ⟨e1, e2⟩ => ⟨_, by subst e1 e2; exact hgo⟩).trans fun mc t hA2 => ?_
  have hN1 : ∀ b i : Nat, sz ≤ b → b ≠ N' + 2 → ¬ (Sh (.cell ⟨b, i, none⟩) ∨ OwL (opl Sh B J0 n N' m (fun k => (k : Int) + 1)) (.cell ⟨b, i, none⟩)) := by
    rintro b i hb hne (h | ⟨a, e, ha⟩ | ⟨x, _, _, e⟩)
    · have h := (hc _ h).2
      have h : b < sz := h
      omega
    · cases e
      exact hne ha
    · cases e
  refine (loopRoot (Sh := fun l => Sh l ∨ OwL (opl Sh B J0 n N' m (fun k => (k : Int) + 1)) l) hm (C := sz + 12) (v0 := v0) (cap := cap) (n := n) (N := N') (W := w1) (res := rootR m) (by omega) (fun i hi => by have := hcells i hi; rw [addr_add0] at this; exact this) hv1 (fun i => hN1 v0 i hv0 (by omega)) (fun i => hN1 (N' + 1) i (by omega) (by omega)) (by omega) n 0 (by omega) (by simpa using hrr) undef undef undef undef undef undef undef undef undef undef undef undef undef undef undef undef undef undef undef undef undef undef undef undef mc t hA2).mono fun mc t hA3 => ?_
  obtain ⟨gs3, g3, w3, sl3, q3, rfl, hs3, h03, ⟨rfl, j, hK⟩, L3, P3⟩ := hA3
  refine ⟨_, J0 + 1 + n, N' + 3 + 4 * n, by omega, by omega, ?_, ?_, gs3, _, w3, sl3, q3, rfl, hs3, h03, ⟨rfl, hK.size, fun b hb => (hK.old b (by omega)).trans (hG.old b hb), fun q hq => (hK.old _ (by have := hL q hq; omega)).trans (hG.blk q hq), hK.tape.trans hG.tape, hK.os.trans hG.os, hK.output.trans hG.output⟩, L3, P3⟩
  · rintro a (h | ⟨a', e, ha⟩ | ⟨x, _, _, e⟩)
    · have := hc a h; omega
    · cases e
      have ha : a.block = N' + 2 := ha
      omega
    · cases e
  · rintro b (h | ⟨a', e, ha⟩ | ⟨x, hx1, hx2, e⟩)
    · have := ho b h; omega
    · cases e
    · have hx2 : x ≤ J0 + n := hx2
      have hx1 : J0 < x := hx1
      have e : b = N' + 4 + 4 * (x - J0 - 1) := by injection e
      omega
end
end Go.Proofs.Ytfgipjgjehjijaa
