/- Goroutine 0 receives beside goroutines that only leave (own text). -/
import Derived.Conc.Beside
import Derived.Conc.CrowdComm
import Derived.Conc.CrowdCom2
namespace Go.Proofs.Ytfgipjgjehjijaa
open Go Go.Conc Go.ConcN

section
variable {P : Program} {Shun : Loc → Prop} {B : Nat}

/-- One step of goroutine 0's that touches no memory, beside leavers. -/
theorem beside_one {a a' : Goroutine} {w W : World} (hrun : a.status = .running)
    (hstep : ∀ (d : Nat) (gs : Array Goroutine) (sl : Option (Nat × Nat)), gs[0]? = some a → (∀ i g, 0 < i → gs[i]? = some g → g.status = .running ∨ g.status = .finished) →
      ∃ ops, runT P (crowd gs (w.at d) sl) 0 = (.next (crowd (gs.setIfInBounds 0 a') (W.at d) sl), ops) ∧ ∀ op ∈ ops, op.g = 0 ∧ op.act.touch? = none ∧ op.act.low B ∧ op.act ≠ .mark .disable ∧ op.act ≠ .mark .enable) :
    ∀ (M : Nat) (gs : Array Goroutine) (e : Nat) (sl : Option (Nat × Nat)) (t : Trace) (q : Nat → Nat), sumTo gs.size q ≤ M → gs[0]? = some a → Leavers P t gs q → Past Shun B t →
      ∃ (N : Nat) (gs' : Array Goroutine) (d : Nat) (sl' : Option (Nat × Nat)) (t' : Trace) (q' : Nat → Nat),
        runNT P N (crowd gs (w.at e) sl) t = (.next (crowd gs' (W.at d) sl'), t') ∧ gs'.size = gs.size ∧ gs'[0]? = some a' ∧ Leavers P t' gs' q' ∧ Past Shun B t' := by
  intro M
  induction M with
  | zero =>
    intro gs e sl t q hM h0 hL hP
    exact go 0 (fun _ _ _ _ _ _ h => absurd h (Nat.not_lt_zero _)) gs e sl t q hM h0 hL hP
  | succ M ih =>
    intro gs e sl t q hM h0 hL hP
    exact go (M + 1) (fun gs e sl t q hM hlt => ih gs e sl t q (Nat.lt_succ_iff.1 hlt)) gs e sl t q hM h0 hL hP
  where
  go (M : Nat) (ih : ∀ (gs : Array Goroutine) (e : Nat) (sl : Option (Nat × Nat)) (t : Trace) (q : Nat → Nat) (_ : True), sumTo gs.size q < M → gs[0]? = some a → Leavers P t gs q → Past Shun B t →
      ∃ (N : Nat) (gs' : Array Goroutine) (d : Nat) (sl' : Option (Nat × Nat)) (t' : Trace) (q' : Nat → Nat),
        runNT P N (crowd gs (w.at e) sl) t = (.next (crowd gs' (W.at d) sl'), t') ∧ gs'.size = gs.size ∧ gs'[0]? = some a' ∧ Leavers P t' gs' q' ∧ Past Shun B t')
      (gs : Array Goroutine) (e : Nat) (sl : Option (Nat × Nat)) (t : Trace) (q : Nat → Nat) (hM : sumTo gs.size q ≤ M) (h0 : gs[0]? = some a) (hL : Leavers P t gs q) (hP : Past Shun B t) :
      ∃ (N : Nat) (gs' : Array Goroutine) (d : Nat) (sl' : Option (Nat × Nat)) (t' : Trace) (q' : Nat → Nat),
        runNT P N (crowd gs (w.at e) sl) t = (.next (crowd gs' (W.at d) sl'), t') ∧ gs'.size = gs.size ∧ gs'[0]? = some a' ∧ Leavers P t' gs' q' ∧ Past Shun B t' := by
    have hst : ∀ i g, 0 < i → gs[i]? = some g → g.status = .running ∨ g.status = .finished := fun i g hi hg => (hL.old i g hi hg).status
    have haw : ∀ g ∈ gs, awake g := by
      intro g hg
      obtain ⟨i, hi, rfl⟩ := Array.mem_iff_getElem.1 hg
      rcases Nat.eq_zero_or_pos i with rfl | hpos
      · have : gs[0] = a := by simpa [Array.getElem?_eq_getElem hi] using h0
        rw [this]; exact awake_of (.inl hrun)
      · exact awake_of ((hst i _ hpos (Array.getElem?_eq_getElem hi)).elim .inl fun x => .inr (.inr x))
    obtain ⟨i, g, d, sl', hi, hg, hs⟩ := crowd_pick (P := P) (w := w.at e) (sl := sl) haw ⟨0, a, h0, hrun⟩
    have hlt : i < gs.size := (Array.getElem?_eq_some_iff.1 hi).1
    rcases Nat.eq_zero_or_pos i with rfl | hpos
    · obtain ⟨ops, hrunT, hops⟩ := hstep d gs sl' h0 hst
      have hg0 : ∀ op ∈ ops, op.g = 0 := fun op hop => (hops op hop).1
      refine ⟨1, _, d, sl', t ++ ops, q, by simp only [runNT, hs]; rw [show (w.at e).at d = w.at d from rfl, hrunT], by simp, by simp [hlt], ⟨fun j x hj hx => ?_, fun j hj => ?_⟩, hP.app0 hg0 (fun op hop b hb _ => by rw [(hops op hop).2.1] at hb; cases hb) ?_ (fun op hop => (hops op hop).2.2.1)⟩
      · rw [Array.getElem?_setIfInBounds_ne (by omega)] at hx
        rw [Deaf_other t (by omega) _ hg0]
        exact hL.old j x hj hx
      · have : 0 < gs.size := hlt
        rw [Deaf_other t (g' := 0) (by simp at hj; omega) _ hg0]
        exact hL.above j (by simpa using hj)
      · exact Deaf_still t 0 ops fun op hop => (hops op hop).2.2.2
    · have hq := hL.old i g hpos hi
      have hi0 : (i == 0) = false := by simp; omega
      cases hqi : q i with
      | zero => rw [hqi] at hq; rw [hq.1] at hg; cases hg
      | succ k =>
        rw [hqi] at hq
        rcases hq with ⟨hf, _⟩ | ⟨_, g', es, hm, hstp, hq'⟩
        · rw [hf] at hg; cases hg
        have hrunT := runT_crowd_go (P := P) (sl := sl') (i := i) hi (by rw [hi0]; exact hstp ((w.at e).at d))
        have hsz : ((gs.map (woken P g g' ((w.at e).at d))).setIfInBounds i g').size = gs.size := by simp
        have hsum : sumTo gs.size (upd q i k) + (k + 1) = sumTo gs.size q + k := by
          have := sumTo_upd q k id hlt
          simpa [hqi] using this
        obtain ⟨N, gs', d', sl'', t', q', hr, hs', h0', hL', hP'⟩ := ih ((gs.map (woken P g g' ((w.at e).at d))).setIfInBounds i g') d sl' (t ++ MemOp.ofEvents i g.frame.fn g.frame.place es) (upd q i k) trivial (by rw [hsz]; omega)
          (by
            rw [Array.getElem?_setIfInBounds_ne (by omega), Array.getElem?_map, h0]
            simp [woken_run hrun])
          ⟨fun j x hj hx => by
            by_cases hji : i = j
            · subst hji
              rw [Array.getElem?_setIfInBounds_self_of_lt (by simpa using hlt)] at hx
              obtain rfl := Option.some.inj hx
              rw [upd_same, Deaf_own]
              exact hq'
            · rw [Array.getElem?_setIfInBounds_ne hji, Array.getElem?_map] at hx
              obtain ⟨y, hy, rfl⟩ := Option.map_eq_some_iff.1 hx
              have hqj := hL.old j y hj hy
              rw [woken_quitsD hqj, upd_ne q k (Ne.symm hji), Deaf_other t hji _ (fun op hop => by obtain ⟨e, _, rfl⟩ := Go.Conc.mem_ofEvents hop; rfl)]
              exact hqj, fun j hj => by
            rw [Deaf_other t (g' := i) (by simp at hj; omega) _ (fun op hop => by obtain ⟨e, _, rfl⟩ := Go.Conc.mem_ofEvents hop; rfl)]
            exact hL.above j (by simpa using hj)⟩
          (hP.mute (by omega) hm)
        exact ⟨N + 1, gs', d', sl'', t', q', by simp only [runNT, hs, hrunT]; exact hr, hs'.trans hsz, h0', hL', hP'⟩

theorem no_partner {a : Goroutine} (hrun : a.status = .running) {gs : Array Goroutine} (h0 : gs[0]? = some a) (hst : ∀ i g, 0 < i → gs[i]? = some g → g.status = .running ∨ g.status = .finished) (i r : Nat) (send : Bool) :
    partners (gs.setIfInBounds i ph) r send = [] := by
  refine partners_nil fun y q hq => ?_
  rcases getElem?_stand gs i y q hq with ⟨_, rfl⟩ | ⟨hne, hq'⟩
  · rfl
  · rcases Nat.eq_zero_or_pos y with rfl | hy0
    · rw [h0] at hq'
      obtain rfl := Option.some.inj hq'
      exact offersAt_of_not_blocked (by rw [hrun]; simp) _ _
    · exact offersAt_of_not_blocked (by rcases hst y q hy0 hq' with h' | h' <;> rw [h'] <;> simp) _ _

variable {gs : Array Goroutine} {a a₂ : Goroutine} {w : World} {sl : Option (Nat × Nat)} {t : Trace} {q : Nat → Nat} {c cap s r : Nat} {buf : Array Value} {closed tm : Bool} {z : Value}

/-- It takes what the channel holds. -/
theorem beside_recv (hrun : a.status = .running) (h0 : gs[0]? = some a) (hL : Leavers P t gs q) (hP : Past Shun B t) (hB : c < B)
    (hgo : ∀ d, stepG P true a (w.at d) = .comm a₂ #[rcase c z] true (.recv true) (w.at d) #[]) (hc : w.heap[c]? = some (.chan cap buf closed s r tm)) (hsome : 0 < buf.size) :
    ∃ (N : Nat) (gs' : Array Goroutine) (d : Nat) (sl' : Option (Nat × Nat)) (t' : Trace) (q' : Nat → Nat),
      runNT P N (crowd gs w sl) t = (.next (crowd gs' ((w.setChan c cap (buf.extract 1 buf.size) closed s (r + 1) tm).at d) sl'), t') ∧ gs'.size = gs.size ∧ gs'[0]? = some (Go.Conc.served a₂ (recvd true (buf.getD 0 undef) true)) ∧ Leavers P t' gs' q' ∧ Past Shun B t' :=
  beside_one (w := w) (W := w.setChan c cap (buf.extract 1 buf.size) closed s (r + 1) tm) hrun (fun d gs sl h0 hst => by
    have h := crowd_recv_buf (P := P) (sl := sl) (i := 0) h0 (by simpa using hgo d) (show (w.at d).heap[c]? = _ from hc) hsome (no_partner hrun h0 hst 0 c true)
    rw [finishComm_recv] at h
    refine ⟨_, h, fun op hop => ?_⟩
    simp [MemOp.ofEvents] at hop
    rcases hop with rfl | rfl <;> exact ⟨rfl, rfl, hB, by simp, by simp⟩) _ gs w.drawn sl t q (Nat.le_refl _) h0 hL hP

/-- It finds the channel closed and empty. -/
theorem beside_recv_closed (hrun : a.status = .running) (h0 : gs[0]? = some a) (hL : Leavers P t gs q) (hP : Past Shun B t) (hB : c < B)
    (hgo : ∀ d, stepG P true a (w.at d) = .comm a₂ #[rcase c z] true (.recv true) (w.at d) #[]) (hc : w.heap[c]? = some (.chan cap #[] true s r tm)) :
    ∃ (N : Nat) (gs' : Array Goroutine) (d : Nat) (sl' : Option (Nat × Nat)) (t' : Trace) (q' : Nat → Nat),
      runNT P N (crowd gs w sl) t = (.next (crowd gs' (w.at d) sl'), t') ∧ gs'.size = gs.size ∧ gs'[0]? = some (Go.Conc.served a₂ (recvd true z false)) ∧ Leavers P t' gs' q' ∧ Past Shun B t' :=
  beside_one (w := w) (W := w) hrun (fun d gs sl h0 hst => by
    have h := crowd_recv_closed (P := P) (sl := sl) (i := 0) h0 (by simpa using hgo d) (show (w.at d).heap[c]? = _ from hc) (no_partner hrun h0 hst 0 c true)
    rw [finishComm_recv] at h
    refine ⟨_, h, fun op hop => ?_⟩
    simp [MemOp.ofEvents] at hop
    subst hop
    exact ⟨rfl, rfl, hB, by simp, by simp⟩) _ gs w.drawn sl t q (Nat.le_refl _) h0 hL hP
end
end Go.Proofs.Ytfgipjgjehjijaa
