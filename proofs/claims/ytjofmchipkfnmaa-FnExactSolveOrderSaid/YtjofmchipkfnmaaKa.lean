/- Laws of a trace while the goroutines of one group work beside older ones that only leave (own text). -/
import Derived.Conc.Beside
import Derived.Conc.CrowdCom2
namespace Go.Proofs.Ytjofmchipkfnmaa
open Go Go.Conc Go.ConcN
open Go.ConcR (g_of_ofEvents)

section
variable (Sh Ow : Loc → Prop) (Rd : Nat → Loc → Prop) (B J0 : Nat) (a : Addr)

/-- What holds of the trace while j goroutines of the group are started. -/
structure TI (j : Nat) (t : Trace) (D : Nat → WD) (d0 : Nat) : Prop where
  clean : ∀ said, ¬ Race said t
  known : ∀ i x, touchAt t i = some x → x.loc.isMemory = true → Knows t 0 i ∨ ((Sh x.loc ∨ Ow x.loc) ∧ x.kind = .atomic) ∨ (x.kind = .plain ∧ x.write = false ∧ (∃ y, J0 < y ∧ y ≤ J0 + j ∧ Rd y x.loc) ∧ ∃ op, t[i]? = some op ∧ op.g ≠ 0)
  rd : ∀ y, J0 < y → y ≤ J0 + j → ∀ l, Rd y l → PermW t y l
  quiet : ∀ i x, touchAt t i = some x → Ow x.loc → x.kind ≠ .plain ∨ (Knows t 0 i ∧ ∀ y, J0 < y → y ≤ J0 + j → Knows t y i)
  seen : ∀ op ∈ t, op.act.low B
  ho : ∀ i y, t.g? i = some y → y ≠ 0 → t.counts i → Knows t 0 i ∨ 7 ≤ (D y).stage ∨ ∃ r, i ≤ r ∧ t.act? r = some (.mark (.releaseMerge a)) ∧ t.g? r = some y ∧ t.heard r ∧ ∀ k, r < k → t.act? k ≠ some (.mark (.release a))
  deaf0 : Deaf t 0 = d0
  deafW : ∀ y, 0 < y → Deaf t y = (D y).deaf

structure AP : Prop where
  rdSh : ∀ y l, Rd y l → ¬ Sh l
  rdOw : ∀ y l, Rd y l → ¬ Ow l
  rdMem : ∀ y l, Rd y l → l.isMemory = true

def K0 (j : Nat) (op : MemOp) : Prop :=
  op.g = 0 ∧ op.act.low B ∧ op.act ≠ .mark (.release a) ∧ ∀ x, op.act.touch? = some x → ((Sh x.loc ∨ Ow x.loc) → x.kind ≠ .plain) ∧ (x.write = true → ∀ y, J0 < y → y ≤ J0 + j → ¬ Rd y x.loc)
def KW (j y : Nat) (op : MemOp) : Prop :=
  op.g = y ∧ op.act.low B ∧ op.act ≠ .mark (.release a) ∧ ∀ x, op.act.touch? = some x → (Ow x.loc ∧ x.kind = .atomic ∧ J0 < y ∧ y ≤ J0 + j) ∨ (Rd y x.loc ∧ x.write = false ∧ x.kind = .plain ∧ J0 < y ∧ y ≤ J0 + j)
end

section
variable {Sh Ow : Loc → Prop} {Rd : Nat → Loc → Prop} {B J0 : Nat} {a : Addr} {j : Nat} {t u : Trace} {D : Nat → WD} {d0 : Nat}

theorem touch_cases {i : Nat} {x : Touch} (h : touchAt (t ++ u) i = some x) : (i < t.size ∧ touchAt t i = some x) ∨ (t.size ≤ i ∧ ∃ op ∈ u, (t ++ u)[i]? = some op ∧ op.act.touch? = some x) := by
  obtain ⟨op, ho, hx⟩ := touch_of h
  rcases getElem?_append_cases ho with ⟨hi, ho'⟩ | ⟨hi, hu⟩
  · exact .inl ⟨hi, by rw [touchAt_of ho']; exact hx⟩
  · exact .inr ⟨hi, op, hu, ho, hx⟩

theorem keep_old {i : Nat} {x : Touch} (h : Knows t 0 i ∨ ((Sh x.loc ∨ Ow x.loc) ∧ x.kind = .atomic) ∨ (x.kind = .plain ∧ x.write = false ∧ (∃ y, J0 < y ∧ y ≤ J0 + j ∧ Rd y x.loc) ∧ ∃ op, t[i]? = some op ∧ op.g ≠ 0)) (hi : i < t.size) {j' : Nat} (hj : j ≤ j') :
    Knows (t ++ u) 0 i ∨ ((Sh x.loc ∨ Ow x.loc) ∧ x.kind = .atomic) ∨ (x.kind = .plain ∧ x.write = false ∧ (∃ y, J0 < y ∧ y ≤ J0 + j' ∧ Rd y x.loc) ∧ ∃ op, (t ++ u)[i]? = some op ∧ op.g ≠ 0) := by
  rcases h with h | h | ⟨h1, h2, ⟨y, h3, h4, h5⟩, h6⟩
  · exact .inl (h.app u)
  · exact .inr (.inl h)
  · exact .inr (.inr ⟨h1, h2, ⟨y, h3, by omega, h5⟩, by rw [getElem?_append_old hi]; exact h6⟩)

theorem norel_app {r : Nat} (h : ∀ k, r < k → t.act? k ≠ some (.mark (.release a))) (hu : ∀ op ∈ u, op.act ≠ .mark (.release a)) : ∀ k, r < k → (t ++ u).act? k ≠ some (.mark (.release a)) := by
  intro k hk e
  obtain ⟨op, ho, hoa⟩ := Option.map_eq_some_iff.1 e
  rcases getElem?_append_cases ho with ⟨_, ho'⟩ | ⟨_, hop⟩
  · exact h k hk (by rw [act?_of ho', hoa])
  · exact hu op hop hoa
theorem ho_old {i y r : Nat} (hu : ∀ op ∈ u, op.act ≠ .mark (.release a)) (h : i ≤ r ∧ t.act? r = some (.mark (.releaseMerge a)) ∧ t.g? r = some y ∧ t.heard r ∧ ∀ k, r < k → t.act? k ≠ some (.mark (.release a))) :
    i ≤ r ∧ (t ++ u).act? r = some (.mark (.releaseMerge a)) ∧ (t ++ u).g? r = some y ∧ (t ++ u).heard r ∧ ∀ k, r < k → (t ++ u).act? k ≠ some (.mark (.release a)) := by
  have hr := lt_of_act? h.2.1
  exact ⟨h.1, by rw [act?_old hr]; exact h.2.1, by rw [g?_old hr]; exact h.2.2.1, (heard_old hr).2 h.2.2.2.1, norel_app h.2.2.2.2 hu⟩

/-- Goroutine 0 does something. -/
theorem TI.main (h : TI Sh Ow Rd B J0 a j t D d0) (hu : ∀ op ∈ u, K0 Sh Ow Rd B J0 a j op) : TI Sh Ow Rd B J0 a j (t ++ u) D (Deaf (t ++ u) 0) := by
  have hg : ∀ op ∈ u, op.g = 0 := fun op hop => (hu op hop).1
  refine ⟨fun said => noRace_append (h.clean said) hg fun i x hx op hop b hb hc => ?_, fun i x hx hm => ?_, fun y h1 h2 l hl => (h.rd y h1 h2 l hl).app fun op hop b hb e hw => ?_, fun i x hx ho => ?_, seen_app h.seen fun op hop => (hu op hop).2.1,
    fun i y hy hy0 hc => ?_, rfl, fun y hy => by rw [Deaf_other t (by omega) u hg]; exact h.deafW y hy⟩
  · have hk := (hu op hop).2.2.2 b hb
    rcases h.known i x hx hc.2.1 with h' | ⟨hs, ha⟩ | ⟨hp, hw, ⟨y, h1, h2, h3⟩, _⟩
    · exact h'
    · have hkb := hk.1 (hc.1 ▸ hs)
      rcases hc.2.2.2 with e | e | ⟨_, e, _⟩
      · rw [ha] at e; cases e
      · exact absurd e hkb
      · rw [ha] at e; cases e
    · have hbw : b.write = true := by
        rcases hc.2.2.1 with e | e
        · rw [hw] at e; cases e
        · exact e
      exact absurd (hc.1 ▸ h3) (hk.2 hbw y h1 h2)
  · rcases touch_cases hx with ⟨hi, hx'⟩ | ⟨_, op, hop, ho, hx'⟩
    · exact keep_old (h.known i x hx' hm) hi (Nat.le_refl _)
    · have := knows_own ho
      rw [hg op hop] at this
      exact .inl this
  · exact absurd (e ▸ hl) ((hu op hop).2.2.2 b hb |>.2 hw y h1 h2)
  · rcases touch_cases hx with ⟨hi, hx'⟩ | ⟨_, op, hop, _, hx'⟩
    · exact (h.quiet i x hx' ho).imp id fun k => ⟨k.1.app u, fun y h1 h2 => (k.2 y h1 h2).app u⟩
    · exact .inl (((hu op hop).2.2.2 x hx').1 (.inr ho))
  · have hi : i < t.size := by
      rcases Nat.lt_or_ge i t.size with h' | h'
      · exact h'
      · obtain ⟨op, ho, hog⟩ := Option.map_eq_some_iff.1 hy
        rcases getElem?_append_cases ho with ⟨hlt, _⟩ | ⟨_, hop⟩
        · omega
        · exact absurd ((hg op hop).symm.trans hog).symm hy0
    rcases h.ho i y (by rw [← g?_old (u := u) hi]; exact hy) hy0 ((counts_old hi).1 hc) with h' | h' | ⟨r, h'⟩
    · exact .inl (h'.app u)
    · exact .inr (.inl h')
    · exact .inr (.inr ⟨r, ho_old (fun op hop => (hu op hop).2.2.1) h'⟩)

/-- Another goroutine does something. -/
theorem TI.work (A : AP Sh Ow Rd) (h : TI Sh Ow Rd B J0 a j t D d0) {y : Nat} (hy0 : 0 < y) (hu : ∀ op ∈ u, KW Ow Rd B J0 a j y op) {x' : WD} (hd : Deaf (t ++ u) y = x'.deaf)
    (hh : ∀ i, (t ++ u).g? i = some y → (t ++ u).counts i → Knows (t ++ u) 0 i ∨ 7 ≤ x'.stage ∨ ∃ r, i ≤ r ∧ (t ++ u).act? r = some (.mark (.releaseMerge a)) ∧ (t ++ u).g? r = some y ∧ (t ++ u).heard r ∧ ∀ k, r < k → (t ++ u).act? k ≠ some (.mark (.release a))) :
    TI Sh Ow Rd B J0 a j (t ++ u) (upd D y x') d0 := by
  have hg : ∀ op ∈ u, op.g = y := fun op hop => (hu op hop).1
  refine ⟨fun said => noRace_append (h.clean said) hg fun i x hx op hop b hb hc => ?_, fun i x hx hm => ?_, fun z h1 h2 l hl => (h.rd z h1 h2 l hl).app fun op hop b hb e hw => ?_, fun i x hx ho => ?_, seen_app h.seen fun op hop => (hu op hop).2.1,
    fun i z hz hz0 hc => ?_, by rw [Deaf_other t (by omega) u hg]; exact h.deaf0, fun z hz => ?_⟩
  · rcases (hu op hop).2.2.2 b hb with ⟨ho, hk, h1, h2⟩ | ⟨hr, hw, hp, h1, h2⟩
    · rcases h.quiet i x hx (hc.1 ▸ ho) with hq | hq
      · rcases hc.2.2.2 with e | e | ⟨_, _, e⟩
        · exact absurd e hq
        · rw [hk] at e; cases e
        · rw [hk] at e; cases e
      · exact hq.2 y h1 h2
    · exact h.rd y h1 h2 b.loc hr i x hx hc.1 (hc.2.2.1.resolve_right (by simp [hw]))
  · rcases touch_cases hx with ⟨hi, hx'⟩ | ⟨_, op, hop, ho, hx'⟩
    · exact keep_old (h.known i x hx' hm) hi (Nat.le_refl _)
    · rcases (hu op hop).2.2.2 x hx' with ⟨h1, h2, _⟩ | ⟨hr, hw, hp, h1, h2⟩
      · exact .inr (.inl ⟨.inr h1, h2⟩)
      · exact .inr (.inr ⟨hp, hw, ⟨y, h1, h2, hr⟩, op, ho, by rw [hg op hop]; omega⟩)
  · rcases (hu op hop).2.2.2 b hb with ⟨h3, _⟩ | ⟨_, h3, _⟩
    · exact absurd (e ▸ h3) (A.rdOw z l hl)
    · rw [h3] at hw; cases hw
  · rcases touch_cases hx with ⟨hi, hx'⟩ | ⟨_, op, hop, _, hx'⟩
    · exact (h.quiet i x hx' ho).imp id fun k => ⟨k.1.app u, fun y h1 h2 => (k.2 y h1 h2).app u⟩
    · rcases (hu op hop).2.2.2 x hx' with ⟨_, h2, _⟩ | ⟨hr, _⟩
      · rw [h2]; exact .inl (by simp)
      · exact absurd ho (A.rdOw y _ hr)
  · by_cases e : z = y
    · subst e; rw [upd_same]; exact hh i hz hc
    · rw [upd_ne D _ e]
      have hi : i < t.size := by
        rcases Nat.lt_or_ge i t.size with h' | h'
        · exact h'
        · obtain ⟨op, ho, hog⟩ := Option.map_eq_some_iff.1 hz
          rcases getElem?_append_cases ho with ⟨hlt, _⟩ | ⟨_, hop⟩
          · omega
          · exact absurd ((hg op hop).symm.trans hog).symm e
      rcases h.ho i z (by rw [← g?_old (u := u) hi]; exact hz) hz0 ((counts_old hi).1 hc) with h' | h' | ⟨r, h'⟩
      · exact .inl (h'.app u)
      · exact .inr (.inl h')
      · exact .inr (.inr ⟨r, ho_old (fun op hop => (hu op hop).2.2.1) h'⟩)
  · by_cases e : z = y
    · subst e; rw [upd_same]; exact hd
    · rw [upd_ne D _ e, Deaf_other t (fun x => e x.symm) u hg]; exact h.deafW z hz

/-- It says its release, hearing. -/
theorem ho_release {y : Nat} (h0 : Deaf t y = 0) {op : MemOp} (ho : op.g = y ∧ op.act = .mark (.releaseMerge a)) {s : Nat} :
    ∀ i, (t ++ #[op]).g? i = some y → (t ++ #[op]).counts i → Knows (t ++ #[op]) 0 i ∨ 7 ≤ s ∨ ∃ r, i ≤ r ∧ (t ++ #[op]).act? r = some (.mark (.releaseMerge a)) ∧ (t ++ #[op]).g? r = some y ∧ (t ++ #[op]).heard r ∧ ∀ k, r < k → (t ++ #[op]).act? k ≠ some (.mark (.release a)) := by
  intro i hi _
  have hl : (t ++ #[op])[t.size]? = some op := by simp
  obtain ⟨z, hz, _⟩ := Option.map_eq_some_iff.1 hi
  have hlt := lt_size_of_getElem? hz
  refine .inr (.inr ⟨t.size, by simp at hlt; omega, by rw [act?_of hl, ho.2], by simp [Trace.g?, ho.1], ⟨y, by simp [Trace.g?, ho.1], by rw [deaf_old (Nat.le_refl _)]; exact h0⟩, fun k hk e => by have := lt_of_act? e; simp at this; omega⟩)

/-- What it does counts no more. -/
theorem ho_still (h : TI Sh Ow Rd B J0 a j t D d0) {y : Nat} (hy0 : 0 < y) (h7 : (D y).stage < 7) (hn : ∀ i, t.size ≤ i → (t ++ u).g? i = some y → ¬ (t ++ u).counts i) (hur : ∀ op ∈ u, op.act ≠ .mark (.release a)) {s : Nat} :
    ∀ i, (t ++ u).g? i = some y → (t ++ u).counts i → Knows (t ++ u) 0 i ∨ 7 ≤ s ∨ ∃ r, i ≤ r ∧ (t ++ u).act? r = some (.mark (.releaseMerge a)) ∧ (t ++ u).g? r = some y ∧ (t ++ u).heard r ∧ ∀ k, r < k → (t ++ u).act? k ≠ some (.mark (.release a)) := by
  intro i hi hc
  rcases Nat.lt_or_ge i t.size with hlt | hge
  · rcases h.ho i y (by rw [← g?_old (u := u) hlt]; exact hi) (by omega) ((counts_old hlt).1 hc) with h' | h' | ⟨r, h'⟩
    · exact .inl (h'.app u)
    · omega
    · exact .inr (.inr ⟨r, ho_old hur h'⟩)
  · exact absurd hc (hn i hge hi)

/-- One goroutine more is started. -/
theorem TI.fork (A : AP Sh Ow Rd) (h : TI Sh Ow Rd B J0 a j t D 0) {x y : MemOp} (hx : x.g = 0 ∧ x.act = .go (J0 + j + 1)) (hy : y.g = J0 + j + 1 ∧ y.act = .start) (hD : D (J0 + j + 1) = ⟨0, 0, 0⟩) {s m : Nat} (hs : 7 ≤ s) :
    TI Sh Ow Rd B J0 a (j + 1) (t ++ #[x, y]) (upd D (J0 + j + 1) ⟨s, m, 0⟩) 0 := by
  have hm : ∀ op ∈ #[x, y], op = x ∨ op = y := by intro op hop; simpa using hop
  have hk : Deaf t (J0 + j + 1) = 0 := by rw [h.deafW _ (by omega), hD]
  have hnt : ∀ op ∈ #[x, y], ∀ b, op.act.touch? = some b → False := by
    intro op hop b hb
    rcases hm op hop with rfl | rfl
    · rw [hx.2] at hb; cases hb
    · rw [hy.2] at hb; cases hb
  have hst : ∀ op ∈ #[x, y], op.act ≠ .mark .disable ∧ op.act ≠ .mark .enable := by
    intro op hop
    rcases hm op hop with rfl | rfl
    · rw [hx.2]; exact ⟨by simp, by simp⟩
    · rw [hy.2]; exact ⟨by simp, by simp⟩
  have hnr : ∀ op ∈ #[x, y], op.act ≠ .mark (.release a) := by
    intro op hop
    rcases hm op hop with rfl | rfl
    · rw [hx.2]; simp
    · rw [hy.2]; simp
  have dstill : ∀ g, Deaf (t ++ #[x, y]) g = Deaf t g := by
    intro g
    have e1 := Deaf_append t g [x, y]
    have key : ∀ (l : List MemOp) (d : Nat), (∀ op ∈ l, op.act ≠ .mark .disable ∧ op.act ≠ .mark .enable) → l.foldl (deafStep g) d = d := by
      intro l
      induction l with
      | nil => intro _ _; rfl
      | cons z l ih =>
        intro d hl
        have hz : deafStep g d z = d := by
          have := hl z (by simp)
          unfold deafStep
          split
          · exact absurd ‹_› this.1
          · exact absurd ‹_› this.2
          · rfl
        rw [List.foldl_cons, hz]
        exact ih d fun op hop => hl op (by simp [hop])
    rw [show (#[x, y] : Trace) = [x, y].toArray from rfl, e1]
    exact key _ _ fun op hop => hst op (by simpa using hop)
  have old : ∀ {i : Nat} {b : Touch}, touchAt (t ++ #[x, y]) i = some b → i < t.size ∧ touchAt t i = some b := by
    intro i b hb
    rcases touch_cases hb with h' | ⟨_, op, hop, _, hx'⟩
    · exact h'
    · exact (hnt op hop b hx').elim
  refine ⟨fun said => ?_, fun i b hb hmem => ?_, fun z h1 h2 l hl => ?_, fun i b hb ho => (h.quiet i b (old hb).2 ho).imp id fun k => ⟨k.1.app _, fun z h1 h2 => ?_⟩, seen_app h.seen fun op hop => ?_, fun i z hz hz0 hc => ?_, (dstill 0).trans h.deaf0, fun z hz => ?_⟩
  · have e : t ++ #[x, y] = (t ++ #[x]) ++ #[y] := by apply Array.ext'; simp
    rw [e]
    refine noRace_append (g := J0 + j + 1) (noRace_append (g := 0) (h.clean said) (fun op hop => by simp at hop; rw [hop]; exact hx.1) (fun i b _ op hop c hc _ => (hnt op (by simp at hop ⊢; exact .inl hop) c hc).elim))
      (fun op hop => by simp at hop; rw [hop]; exact hy.1) (fun i b _ op hop c hc _ => (hnt op (by simp at hop ⊢; exact .inr hop) c hc).elim)
  · exact keep_old (h.known i b (old hb).2 hmem) (old hb).1 (by omega)
  · rcases Nat.lt_or_ge (J0 + j) z with hlt | hge
    · obtain rfl : z = J0 + j + 1 := by omega
      intro i b hb e hw
      obtain ⟨hi, hb'⟩ := old hb
      have hmem : b.loc.isMemory = true := by rw [e]; exact A.rdMem _ l hl
      rcases h.known i b hb' hmem with h' | ⟨h', _⟩ | ⟨_, h', _⟩
      · exact fork_knows hx hy h.deaf0 hk h'
      · exact absurd (e ▸ h') (fun h' => h'.elim (A.rdSh _ l hl) (A.rdOw _ l hl))
      · rw [h'] at hw; cases hw
    · exact (h.rd z h1 hge l hl).app fun op hop b hb _ _ => (hnt op hop b hb).elim
  · rcases Nat.lt_or_ge (J0 + j) z with hlt | hge
    · obtain rfl : z = J0 + j + 1 := by omega
      exact fork_knows hx hy h.deaf0 hk k.1
    · exact (k.2 z h1 hge).app _
  · rcases hm op hop with rfl | rfl
    · rw [hx.2]; trivial
    · rw [hy.2]; trivial
  · by_cases e : z = J0 + j + 1
    · subst e; rw [upd_same]; exact .inr (.inl hs)
    · rw [upd_ne D _ e]
      have hi : i < t.size := by
        obtain ⟨b, hb, _⟩ := hc
        exact (old hb).1
      rcases h.ho i z (by rw [← g?_old (u := #[x, y]) hi]; exact hz) hz0 ((counts_old hi).1 hc) with h' | h' | ⟨r, h'⟩
      · exact .inl (h'.app _)
      · exact .inr (.inl h')
      · exact .inr (.inr ⟨r, ho_old hnr h'⟩)
  · rw [dstill]
    by_cases e : z = J0 + j + 1
    · subst e; rw [upd_same]; exact hk
    · rw [upd_ne D _ e]; exact h.deafW z hz

theorem acq_knows (h : TI Sh Ow Rd B J0 a j t D 0) (all : ∀ y, 0 < y → (D y).stage < 7) {op : MemOp} (ho : op.g = 0 ∧ op.act = .mark (.acquire a)) {i y : Nat} (hy : t.g? i = some y) (hy0 : y ≠ 0) (hc : t.counts i) : Knows (t ++ #[op]) 0 i := by
  have hl : (t ++ #[op])[t.size]? = some op := by simp
  rcases h.ho i y hy hy0 hc with h' | h' | ⟨r, h1, h2, h3, h4, h5⟩
  · exact h'.app _
  · have := all y (by omega); omega
  · have hr := lt_of_act? h2
    have edge : HappensBefore (t ++ #[op]) r t.size := .single (.inr ⟨.marked hr (.inr (by rw [act?_old hr]; exact h2)) (by rw [act?_of hl, ho.2]) (fun k hrk hk => by rw [act?_old hk]; exact h5 k hrk), (heard_old hr).2 h4, ⟨0, by simp [Trace.g?, ho.1], by rw [deaf_old (Nat.le_refl _)]; exact h.deaf0⟩⟩)
    refine ⟨t.size, op, hl, ho.1, .inr ?_⟩
    rcases Nat.lt_or_ge i r with hlt | hge
    · exact .trans (.single (.inl ⟨hlt, y, by rw [g?_old (by omega)]; exact hy, by rw [g?_old hr]; exact h3⟩)) edge
    · obtain rfl : i = r := by omega
      exact edge

/-- Goroutine 0 says its 'acquire' behind all releases: all that was done is known to it. -/
theorem TI.acquire (h : TI Sh Ow Rd B J0 a j t D 0) (all : ∀ y, 0 < y → (D y).stage < 7) {op : MemOp} (ho : op.g = 0 ∧ op.act = .mark (.acquire a)) (hlow : a.block < B) : Past (fun l => Sh l ∨ Ow l) B (t ++ #[op]) := by
  have hg : ∀ z ∈ #[op], z.g = 0 := fun z hz => by simp at hz; rw [hz]; exact ho.1
  have hn : ∀ z ∈ #[op], ∀ b, z.act.touch? = some b → False := fun z hz b hb => by
    simp at hz
    rw [hz, ho.2] at hb
    cases hb
  have hd : Deaf (t ++ #[op]) 0 = 0 := by
    rw [Deaf_push, h.deaf0]
    simp [deafStep, ho.2]
  refine ⟨fun said => noRace_append (h.clean said) hg fun i x _ z hz b hb _ => (hn z hz b hb).elim, fun i x hx hm => ?_, fun i y hy hy0 hc => ?_, hd, seen_app h.seen fun z hz => by simp at hz; rw [hz, ho.2]; exact hlow⟩
  · rcases touch_cases hx with ⟨hi, hx'⟩ | ⟨_, z, hz, _, hx'⟩
    · rcases h.known i x hx' hm with h' | h' | ⟨hp, _, _, z, hz, hz0⟩
      · exact .inl (h'.app _)
      · exact .inr h'
      · exact .inl (acq_knows h all ho (y := z.g) (by simp [Trace.g?, hz]) hz0 ⟨x, hx', hm, .inl (by rw [hp]; simp)⟩)
    · exact (hn z hz x hx').elim
  · have hi : i < t.size := by
      obtain ⟨x, hx, _⟩ := hc
      rcases touch_cases hx with ⟨hi, _⟩ | ⟨_, z, hz, _, hx'⟩
      · exact hi
      · exact (hn z hz x hx').elim
    rw [g?_old hi] at hy
    obtain ⟨q, z, h1, h2, h3⟩ := acq_knows h all ho hy hy0 ((counts_old hi).1 hc)
    rcases h3 with rfl | h3
    · have := (by simpa [Trace.g?, getElem?_append_old hi] using hy : ∃ w, t[i]? = some w ∧ w.g = y)
      obtain ⟨w', hw, hwg⟩ := this
      rw [getElem?_append_old hi, hw] at h1
      obtain rfl := Option.some.inj h1
      exact absurd (hwg.symm.trans h2) hy0
    · exact ⟨q, by rw [Trace.g?, h1]; simp [h2], h3⟩

/-- Where a phase begins. -/
theorem TI.start {B0 : Nat} (h : Past Sh B0 t) (hB : B0 ≤ B) (hOw : ∀ l, Ow l → l.isMemory = true) (hD : ∀ y, 0 < y → Deaf t y = (D y).deaf) : TI Sh Ow Rd B J0 a 0 t D 0 := by
  refine ⟨h.clean, fun i x hx hm => (h.known i x hx hm).imp id fun y => .inl ⟨.inl y.1, y.2⟩, fun y h1 h2 => by omega, fun i x hx ho => ?_, fun op hop => MemAct.low_mono hB (h.seen op hop), fun i y hy hy0 hc => ?_, h.hears, hD⟩
  · rcases h.known i x hx (hOw _ ho) with k | ⟨_, k⟩
    · exact .inr ⟨k, fun y h1 h2 => by omega⟩
    · exact .inl (by rw [k]; simp)
  · obtain ⟨q, h1, h2⟩ := h.over i y hy hy0 hc
    obtain ⟨z, hz, hzg⟩ := Option.map_eq_some_iff.1 h1
    exact .inl ⟨q, z, hz, hzg, .inr h2⟩
end
end Go.Proofs.Ytjofmchipkfnmaa
