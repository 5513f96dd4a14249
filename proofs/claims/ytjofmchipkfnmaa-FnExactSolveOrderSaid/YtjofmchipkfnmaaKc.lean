/- n goroutines with channels of their own and their starter: the invariant, and how a step keeps it (own text). -/
import Derived.Test.YtjofmchipkfnmaaKb
import Derived.Conc.CrowdInv
namespace Go.Proofs.Ytjofmchipkfnmaa
open Go Go.Conc Go.ConcN
open Go.ConcR (KK wgBlock WgAt stA smA rd wr mk Payload DC0 g_of_ofEvents)

def OpenS (N : Nat) (D : Nat → WD) : Prop := ∀ x, 0 < x → x < N → (D x).stage = 1 ∨ 5 ≤ (D x).stage
def QuitS (N : Nat) (D : Nat → WD) : Prop := ∀ x, 0 < x → x < N → (D x).stage = 1

inductive Md (N : Nat) (D : Nat → WD) : CTag → Int → Int → Prop
  | opn {tag : CTag} : isOpen tag → OpenS N D → (∀ vs, tag = .w2 vs → Vc N D ≤ vs ∧ 1 ≤ vs) → Md N D tag (((Vc N D + pend tag : Nat) : Int) * KK) 0
  | reg {tag : CTag} : isW3 tag → OpenS N D → 1 ≤ Vc N D → Md N D tag (((Vc N D : Nat) : Int) * KK + 1) 0
  | last {tag : CTag} (L : Nat) : isW3 tag → 0 < L → L < N → ((D L).stage = 4 ∨ (D L).stage = 3 ∨ (D L).stage = 2) → (∀ x, 0 < x → x < N → x ≠ L → (D x).stage = 1) → Md N D tag (if (D L).stage = 2 then 0 else 1) 0
  | sema : QuitS N D → Md N D .w3 0 1
  | fin {tag : CTag} : isFin tag → QuitS N D → Md N D tag 0 0

theorem Md.retag {N : Nat} {D : Nat → WD} {tag tag' : CTag} {st sm : Int} (h : Md N D tag st sm) (e : tag' = tag ∨ (tag = .blk ∧ tag' = .w3)) : Md N D tag' st sm := by
  rcases e with rfl | ⟨rfl, rfl⟩
  · exact h
  · cases h with
    | opn h1 _ _ => exact h1.elim
    | reg _ h2 h3 => exact .reg trivial h2 h3
    | last L _ h1 h2 h3 h4 => exact .last L trivial h1 h2 h3 h4
    | fin h1 _ => exact h1.elim

theorem Md.congr {N : Nat} {D D' : Nat → WD} {tag : CTag} {st sm : Int} (h : ∀ x, x < N → (D' x).stage = (D x).stage) (hm : Md N D tag st sm) : Md N D' tag st sm := by
  have hv : Vc N D' = Vc N D := sumTo_congr fun a ha => by simp only [cnt, h a ha]
  cases hm with
  | opn h1 h2 h3 => rw [← hv]; exact .opn h1 (fun a h0 ha => by rw [h a ha]; exact h2 a h0 ha) (fun vs e => by rw [hv]; exact h3 vs e)
  | reg h1 h2 h3 => rw [← hv]; exact .reg h1 (fun a h0 ha => by rw [h a ha]; exact h2 a h0 ha) (by rw [hv]; exact h3)
  | last L h1 h0 h2 h3 h4 => rw [← h L h2]; exact .last L h1 h0 h2 (by rw [h L h2]; exact h3) (fun a h0 ha e => by rw [h a ha]; exact h4 a h0 ha e)
  | sema h2 => exact .sema fun a h0 ha => by rw [h a ha]; exact h2 a h0 ha
  | fin h1 h2 => exact .fin h1 fun a h0 ha => by rw [h a ha]; exact h2 a h0 ha

theorem Md.same {N x : Nat} {D : Nat → WD} {tag : CTag} {st sm : Int} (hm : Md N D tag st sm) (m' dd' : Nat) : Md N (upd D x ⟨(D x).stage, m', dd'⟩) tag st sm :=
  hm.congr fun a _ => by
    by_cases e : a = x
    · subst e; rw [upd_same]
    · rw [upd_ne D _ e]

theorem vc_upd {N x : Nat} (D : Nat → WD) (y : WD) (hx : x < N) : Vc N (upd D x y) + cnt (D x) = Vc N D + cnt y := sumTo_upd D y cnt hx

/-- One that is counted goes on to a stage at which it still is. -/
theorem Md.counted {N x : Nat} {D : Nat → WD} {tag : CTag} {st sm : Int} (hm : Md N D tag st sm) (hx0 : 0 < x) (hx : x < N) (h5 : 5 ≤ (D x).stage) {s' : Nat} (hs : 5 ≤ s') (m' dd' : Nat) : Md N (upd D x ⟨s', m', dd'⟩) tag st sm := by
  have hv : Vc N (upd D x ⟨s', m', dd'⟩) = Vc N D := by
    have := vc_upd D (⟨s', m', dd'⟩ : WD) hx
    have c1 : cnt (D x) = 1 := by simp [cnt, h5]
    have c2 : cnt (⟨s', m', dd'⟩ : WD) = 1 := by simp [cnt, hs]
    omega
  have ho : OpenS N D → OpenS N (upd D x ⟨s', m', dd'⟩) := fun h a h0 ha => by
    by_cases e : a = x
    · subst e; rw [upd_same]; exact .inr hs
    · rw [upd_ne D _ e]; exact h a h0 ha
  cases hm with
  | opn h1 h2 h3 => rw [← hv]; exact .opn h1 (ho h2) (fun vs e => by rw [hv]; exact h3 vs e)
  | reg h1 h2 h3 => rw [← hv]; exact .reg h1 (ho h2) (by rw [hv]; exact h3)
  | last L h1 h0 h2 h3 h4 =>
    by_cases e : x = L
    · subst e; omega
    · have := h4 x hx0 hx e; omega
  | sema h2 => have := h2 x hx0 hx; omega
  | fin h1 h2 => have := h2 x hx0 hx; omega

theorem Md.isLast {N x : Nat} {D : Nat → WD} {tag : CTag} {st sm : Int} (hm : Md N D tag st sm) (hx0 : 0 < x) (hx : x < N) (h : (D x).stage = 4 ∨ (D x).stage = 3 ∨ (D x).stage = 2) :
    isW3 tag ∧ (∀ a, 0 < a → a < N → a ≠ x → (D a).stage = 1) ∧ st = (if (D x).stage = 2 then 0 else 1) ∧ sm = 0 := by
  cases hm with
  | opn _ h2 _ => have := h2 x hx0 hx; omega
  | reg _ h2 _ => have := h2 x hx0 hx; omega
  | last L h1 h0 h2 h3 h4 =>
    by_cases e : x = L
    · subst e; exact ⟨h1, h4, rfl, rfl⟩
    · have := h4 x hx0 hx e; omega
  | sema h2 => have := h2 x hx0 hx; omega
  | fin _ h2 => have := h2 x hx0 hx; omega

section
variable (p : Plan) (Nx Anch : Goroutine → World → Prop)

structure Cm (j : Nat) (gs : Array Goroutine) (w : World) (t : Trace) (D : Nat → WD) (d0 : Nat) : Prop where
  size : gs.size = p.J0 + 1 + j
  le : j ≤ p.n
  wk : ∀ x, 0 < x → x < gs.size → ∃ g, gs[x]? = some g ∧ WK p x (D x).stage (D x).fuel (D x).deaf g w
  old : ∀ x, 0 < x → x ≤ p.J0 → (D x).stage = 1
  out : ∀ x, (x = 0 ∨ gs.size ≤ x) → D x = ⟨0, 0, 0⟩
  ti : TI p.Sh (OwL p) (RdL p.Keep) p.B p.J0 (stA p.Wg) j t D d0

def Iv (μ : Nat × Nat) (m : Machine) (t : Trace) : Prop :=
  ∃ (gs : Array Goroutine) (w : World) (sl : Option (Nat × Nat)) (j : Nat) (D : Nat → WD) (tag : CTag) (f0 d0 : Nat) (a : Goroutine) (st sm : Int),
    m = crowd gs w sl ∧ gs[0]? = some a ∧ MS p Nx Anch tag j f0 d0 a w ∧ Cm p j gs w t D d0 ∧ WgAt p.ty p.Wg w st sm ∧ Md gs.size D tag st sm ∧
    μ = (phi p.n (Vc gs.size D) tag + Ssum gs.size D, f0 + 2 * Fsum gs.size D)
end

section
variable {p : Plan} {Nx Anch : Goroutine → World → Prop} {gs : Array Goroutine} {w w' : World} {sl : Option (Nat × Nat)} {j : Nat} {D : Nat → WD} {tag : CTag} {f0 d0 : Nat} {a : Goroutine} {t : Trace}

theorem MS.bound {f d : Nat} (h : MS p Nx Anch tag j f d a w) : j + pend tag ≤ p.n := by
  cases h <;> simp only [pend] <;> (try simp) <;> omega

theorem Cm.range (h : Cm p j gs w t D d0) {x : Nat} (hx0 : 0 < x) (hx : x < gs.size) (h1 : (D x).stage ≠ 1) : p.J0 < x ∧ x ≤ p.J0 + p.n := by
  have := h.size; have := h.le
  refine ⟨?_, by omega⟩
  rcases Nat.lt_or_ge p.J0 x with h' | h'
  · exact h'
  · exact absurd (h.old x hx0 h') h1

theorem Cm.at (O : p.Ok) (h : Cm p j gs w t D d0) (d : Nat) : Cm p j gs (w.at d) t D d0 :=
  ⟨h.size, h.le, fun x hx0 hx => let ⟨g, hg, hs⟩ := h.wk x hx0 hx; ⟨g, hg, hs.rely O (h.range hx0 hx) fun _ _ => RK.at x w d⟩, h.old, h.out, h.ti⟩

theorem vc_le (h : Cm p j gs w t D d0) : Vc gs.size D ≤ j := by
  have key : ∀ N, N ≤ gs.size → Vc N D ≤ N - (p.J0 + 1) := by
    intro N
    induction N with
    | zero => intro _; simp [Vc, sumTo]
    | succ N ih =>
      intro hN
      have := ih (by omega)
      simp only [Vc, sumTo] at this ⊢
      have hc : cnt (D N) ≤ 1 := by simp only [cnt]; split <;> omega
      rcases Nat.lt_or_ge p.J0 N with h' | h'
      · omega
      · have h0 : cnt (D N) = 0 := by
          rcases Nat.eq_zero_or_pos N with rfl | hpos
          · rw [h.out 0 (.inl rfl)]; rfl
          · simp [cnt, h.old N hpos h']
        omega
  have := key gs.size (Nat.le_refl _)
  have := h.size
  omega

theorem upd_out {N x : Nat} {y : WD} (h : ∀ z, (z = 0 ∨ N ≤ z) → D z = ⟨0, 0, 0⟩) (hx0 : 0 < x) (hx : x < N) : ∀ z, (z = 0 ∨ N ≤ z) → upd D x y z = ⟨0, 0, 0⟩ := fun z hz => by
  rw [upd_ne D _ (by omega)]; exact h z hz

theorem get_ms (f : Goroutine → Goroutine) (b : Nat) (x : Goroutine) (c : Nat) (hb : b ≠ c) : ((gs.map f).setIfInBounds b x)[c]? = (gs[c]?).map f := by
  rw [Array.getElem?_setIfInBounds_ne hb, Array.getElem?_map]

/-- The measure falls. -/
theorem lt_work {N x : Nat} {y : WD} (hx : x < N) {tag' : CTag} {f' : Nat} (hf : f' ≤ f0 + 1) (htag : tag' = tag ∨ (tag = .blk ∧ tag' = .w3)) (hlt : (y.stage < (D x).stage ∧ cnt y ≤ cnt (D x)) ∨ (y.stage = (D x).stage ∧ y.fuel + 1 = (D x).fuel)) :
    Lt2 (phi p.n (Vc N (upd D x y)) tag' + Ssum N (upd D x y), f' + 2 * Fsum N (upd D x y)) (phi p.n (Vc N D) tag + Ssum N D, f0 + 2 * Fsum N D) := by
  have e1 := sumTo_upd D y cnt hx
  have e2 := sumTo_upd D y WD.stage hx
  have e3 := sumTo_upd D y WD.fuel hx
  rw [phi_retag p.n _ htag]
  simp only [Vc, Ssum, Fsum] at *
  rcases hlt with ⟨h1, h2⟩ | ⟨h1, h2⟩
  · refine Prod.Lex.left _ _ ?_
    have := phi_mono p.n (v' := sumTo N fun a => cnt (upd D x y a)) (v := sumTo N fun a => cnt (D a)) (by omega) tag
    omega
  · have ec : cnt y = cnt (D x) := by simp only [cnt, h1]
    have ev : (sumTo N fun a => cnt (upd D x y a)) = sumTo N fun a => cnt (D a) := by omega
    have es' : (sumTo N fun a => (upd D x y a).stage) = sumTo N fun a => (D a).stage := by omega
    rw [ev, es']
    refine Prod.Lex.right _ ?_
    omega

/-- Goroutine x, one of the others, takes a step of its own. -/
theorem workStep (O : p.Ok) (hAr : ∀ g w, Anch g w → g.status = .running) (h : Cm p j gs w t D d0) (ha : gs[0]? = some a) (hms : MS p Nx Anch tag j f0 d0 a w)
    {x : Nat} (hx0 : 0 < x) {g g' : Goroutine} {es : Array Event} {s' m' dd' : Nat} {st' sm' : Int} (hg : gs[x]? = some g) (hgo : stepG p.P false g w = .go g' w' es)
    (hM : RM p j w w') (hK : ∀ y, y ≠ x → p.J0 < y → y ≤ p.J0 + p.n → RK p y w w') (hs' : WK p x s' m' dd' g' w') (hold : x ≤ p.J0 → s' = 1)
    (hok : ∀ op ∈ MemOp.ofEvents x g.frame.fn g.frame.place es, KW (OwL p) (RdL p.Keep) p.B p.J0 (stA p.Wg) j x op) (hd : deafBehind (D x).deaf es = dd')
    (hh : ∀ i, (t ++ MemOp.ofEvents x g.frame.fn g.frame.place es).g? i = some x → (t ++ MemOp.ofEvents x g.frame.fn g.frame.place es).counts i → Knows (t ++ MemOp.ofEvents x g.frame.fn g.frame.place es) 0 i ∨ 7 ≤ s' ∨
      ∃ r, i ≤ r ∧ (t ++ MemOp.ofEvents x g.frame.fn g.frame.place es).act? r = some (.mark (.releaseMerge (stA p.Wg))) ∧ (t ++ MemOp.ofEvents x g.frame.fn g.frame.place es).g? r = some x ∧ (t ++ MemOp.ofEvents x g.frame.fn g.frame.place es).heard r ∧ ∀ k, r < k → (t ++ MemOp.ofEvents x g.frame.fn g.frame.place es).act? k ≠ some (.mark (.release (stA p.Wg))))
    (hwg : WgAt p.ty p.Wg w' st' sm')
    (hmode : ∀ tag', (tag' = tag ∨ (tag = .blk ∧ tag' = .w3)) → (mayWake p.P g = true → g'.status = .running → tag' ≠ .blk) → Md gs.size (upd D x ⟨s', m', dd'⟩) tag' st' sm')
    (hlt : (s' < (D x).stage ∧ cnt ⟨s', m', dd'⟩ ≤ cnt (D x)) ∨ (s' = (D x).stage ∧ m' + 1 = (D x).fuel)) :
    ∃ m₁ ops μ', runT p.P (crowd gs w sl) x = (.next m₁, ops) ∧ Lt2 μ' (phi p.n (Vc gs.size D) tag + Ssum gs.size D, f0 + 2 * Fsum gs.size D) ∧ Iv p Nx Anch μ' m₁ (t ++ ops) := by
  have hx : x < gs.size := (Array.getElem?_eq_some_iff.1 hg).1
  obtain ⟨tag', f', hms', hf', htag, hwk⟩ := hms.wokenBy hAr hM g g'
  have hrun := runT_crowd_go (P := p.P) (sl := sl) (i := x) hg (by rw [show (x == 0) = false by simp; omega]; exact hgo)
  have hsz : ((gs.map (woken p.P g g' w')).setIfInBounds x g').size = gs.size := by simp
  refine ⟨_, _, (phi p.n (Vc gs.size (upd D x ⟨s', m', dd'⟩)) tag' + Ssum gs.size (upd D x ⟨s', m', dd'⟩), f' + 2 * Fsum gs.size (upd D x ⟨s', m', dd'⟩)), hrun, lt_work hx hf' htag hlt,
    _, w', sl, j, upd D x ⟨s', m', dd'⟩, tag', f', d0, woken p.P g g' w' a, st', sm', rfl, by rw [get_ms _ _ _ _ (by omega), ha]; rfl, hms', ⟨by rw [hsz]; exact h.size, h.le, fun y hy0 hy => ?_, fun y hy0 hy => ?_, by rw [hsz]; exact upd_out h.out hx0 hx, ?_⟩, hwg, by rw [hsz]; exact hmode tag' htag hwk, by rw [hsz]⟩
  · rw [hsz] at hy
    by_cases e : y = x
    · subst e
      exact ⟨g', by simp [hx], by rw [upd_same]; exact hs'⟩
    · obtain ⟨z, hz, hzs⟩ := h.wk y hy0 hy
      refine ⟨z, by rw [get_ms _ _ _ _ (Ne.symm e), hz, Option.map_some, hzs.woken], ?_⟩
      rw [upd_ne D _ e]
      exact hzs.rely O (h.range hy0 hy) (hK y e)
  · by_cases e : y = x
    · subst e; rw [upd_same]; exact hold hy
    · rw [upd_ne D _ e]; exact h.old y hy0 hy
  · exact h.ti.work O.ap hx0 hok (x' := ⟨s', m', dd'⟩) (by rw [Deaf_own, h.ti.deafW x hx0]; exact hd) hh

/-- The starter takes a step of its own. -/
theorem mainStep (O : p.Ok) (h : Cm p j gs w t D d0) (ha : gs[0]? = some a)
    {a' : Goroutine} {es : Array Event} {tag' : CTag} {f' : Nat} {st' sm' : Int} (hgo : stepG p.P true a w = .go a' w' es)
    (hK : ∀ y, p.J0 < y → y ≤ p.J0 + j → RK p y w w') (hok : ∀ op ∈ MemOp.ofEvents 0 a.frame.fn a.frame.place es, K0 p.Sh (OwL p) (RdL p.Keep) p.B p.J0 (stA p.Wg) j op)
    (hms' : MS p Nx Anch tag' j f' (deafBehind d0 es) a' w') (hwg : WgAt p.ty p.Wg w' st' sm') (hmode : Md gs.size D tag' st' sm')
    (hlt : phi p.n (Vc gs.size D) tag' < phi p.n (Vc gs.size D) tag ∨ (phi p.n (Vc gs.size D) tag' = phi p.n (Vc gs.size D) tag ∧ f' < f0)) :
    ∃ m₁ ops μ', runT p.P (crowd gs w sl) 0 = (.next m₁, ops) ∧ Lt2 μ' (phi p.n (Vc gs.size D) tag + Ssum gs.size D, f0 + 2 * Fsum gs.size D) ∧ Iv p Nx Anch μ' m₁ (t ++ ops) := by
  have h0 : 0 < gs.size := (Array.getElem?_eq_some_iff.1 ha).1
  have hrun := runT_crowd_go (P := p.P) (sl := sl) (i := 0) ha (by simpa using hgo)
  have hsz : ((gs.map (woken p.P a a' w')).setIfInBounds 0 a').size = gs.size := by simp
  refine ⟨_, _, (phi p.n (Vc gs.size D) tag' + Ssum gs.size D, f' + 2 * Fsum gs.size D), hrun, ?_, _, w', sl, j, D, tag', f', deafBehind d0 es, a', st', sm', rfl, by simp [h0], hms', ⟨by rw [hsz]; exact h.size, h.le, fun y hy0 hy => ?_, h.old, by rw [hsz]; exact h.out, ?_⟩, hwg, by rw [hsz]; exact hmode, by rw [hsz]⟩
  · rcases hlt with h' | ⟨h1, h2⟩
    · exact Prod.Lex.left _ _ (by omega)
    · rw [h1]; exact Prod.Lex.right _ (by omega)
  · rw [hsz] at hy
    obtain ⟨z, hz, hzs⟩ := h.wk y hy0 hy
    have := h.size
    exact ⟨z, by rw [get_ms _ _ _ _ (by omega), hz, Option.map_some, hzs.woken], hzs.rely O (h.range hy0 hy) fun h1 h2 => hK y h1 (by omega)⟩
  · have := h.ti.main hok
    rwa [Deaf_own, h.ti.deaf0] at this
end
end Go.Proofs.Ytjofmchipkfnmaa
