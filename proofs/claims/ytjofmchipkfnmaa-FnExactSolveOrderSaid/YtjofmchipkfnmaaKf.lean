/- n goroutines with channels of their own and their starter: the starter's steps; the whole phase (own text). -/
import Derived.Test.YtjofmchipkfnmaaKe
import Derived.Conc.CrowdRun
namespace Go.Proofs.Ytjofmchipkfnmaa
open Go Go.Conc Go.ConcN
open Go.ConcR (KK wgBlock WgAt stA smA rd wr mk Payload DC0 Bk g_of_ofEvents bk_of_mute ofEvent_loc_mark ofEvent_cell ofEvent_mk)

theorem Md.open_inv {N : Nat} {D : Nat → WD} {tag : CTag} {st sm : Int} (hm : Md N D tag st sm) (h : isOpen tag) : OpenS N D ∧ st = ((Vc N D + pend tag : Nat) : Int) * KK ∧ sm = 0 ∧ ∀ vs, tag = .w2 vs → Vc N D ≤ vs ∧ 1 ≤ vs := by
  cases hm with
  | opn _ h2 h3 => exact ⟨h2, rfl, rfl, h3⟩
  | reg h1 _ _ => cases tag <;> first | exact h.elim | exact h1.elim
  | last L h1 _ _ _ _ => cases tag <;> first | exact h.elim | exact h1.elim
  | sema _ => exact h.elim
  | fin h1 _ => cases tag <;> first | exact h.elim | exact h1.elim
theorem Md.fin_inv {N : Nat} {D : Nat → WD} {tag : CTag} {st sm : Int} (hm : Md N D tag st sm) (h : isFin tag) : QuitS N D ∧ st = 0 ∧ sm = 0 := by
  cases hm with
  | opn h1 _ _ => cases tag <;> first | exact h.elim | exact h1.elim
  | reg h1 _ _ => cases tag <;> first | exact h.elim | exact h1.elim
  | last L h1 _ _ _ _ => cases tag <;> first | exact h.elim | exact h1.elim
  | sema _ => exact h.elim
  | fin _ h2 => exact ⟨h2, rfl, rfl⟩
theorem Md.reopen {N : Nat} {D : Nat → WD} {tag tag' : CTag} {st sm : Int} (hm : Md N D tag st sm) (h : isOpen tag) (h' : isOpen tag') (hp : pend tag' = pend tag) (hw : ∀ vs, tag' = .w2 vs → Vc N D ≤ vs ∧ 1 ≤ vs) : Md N D tag' st sm := by
  obtain ⟨h2, rfl, rfl, _⟩ := hm.open_inv h
  rw [← hp]; exact .opn h' h2 hw
theorem quitS_of {N : Nat} {D : Nat → WD} (h : OpenS N D) (h0 : Vc N D = 0) : QuitS N D := fun x hx0 hx => by
  have := le_sumTo (f := fun y => cnt (D y)) hx
  simp only [Vc] at h0
  have c0 : cnt (D x) = 0 := by omega
  have := h x hx0 hx
  simp only [cnt] at c0
  split at c0 <;> omega

/-- Goroutine 0 has said its 'acquire': all the others only leave, all that they did is known, each channel holds what it should. -/
def Acqd (p : Plan) (Nx : Goroutine → World → Prop) (m : Machine) (t : Trace) : Prop :=
  ∃ (gs : Array Goroutine) (a : Goroutine) (w : World) (sl : Option (Nat × Nat)) (q : Nat → Nat), m = crowd gs w sl ∧ gs.size = p.J0 + 1 + p.n ∧ gs[0]? = some a ∧ a.status = .running ∧ Nx a w ∧
    Leavers p.P t gs q ∧ Past (fun l => p.Sh l ∨ OwL p l) p.B t ∧ ∀ x, p.J0 < x → x ≤ p.J0 + p.n → Fin p x w

section
variable {p : Plan} {Nx Anch : Goroutine → World → Prop} {gs : Array Goroutine} {w w' : World} {sl : Option (Nat × Nat)} {j : Nat} {D : Nat → WD} {tag tag' : CTag} {f0 f' d0 : Nat} {a a' : Goroutine} {t : Trace} {st sm st' sm' : Int} {es : Array Event}

theorem k0_of_EvM {fn : FuncId} {pos : String} (h : ∀ e ∈ es, EvM p j e) : ∀ op ∈ MemOp.ofEvents 0 fn pos es, K0 p.Sh (OwL p) (RdL p.Keep) p.B p.J0 (stA p.Wg) j op := by
  intro op hop
  obtain ⟨e, he, rfl⟩ := Go.Conc.mem_ofEvents hop
  obtain ⟨_, _, h5, h6, h7⟩ := h e he
  exact ⟨rfl, h6, fun hm => h5 (Go.ConcR.loc_of_ofEvent hm), h7⟩
theorem k0_of_Bk (O : p.Ok) {fn : FuncId} {pos : String} (h : ∀ e ∈ es, Bk p.Wg e) : ∀ op ∈ MemOp.ofEvents 0 fn pos es, K0 p.Sh (OwL p) (RdL p.Keep) p.B p.J0 (stA p.Wg) j op := by
  intro op hop
  obtain ⟨e, he, rfl⟩ := Go.Conc.mem_ofEvents hop
  rcases h e he with h1 | h1 | ⟨b, wr', rfl, hb⟩
  · refine ⟨rfl, ?_, ?_, ?_⟩ <;> simp only [ofEvent_loc_mark h1]
    · trivial
    · simp
    · intro b hb; cases hb
  · refine ⟨rfl, ?_, ?_, ?_⟩ <;> simp only [ofEvent_loc_mark h1]
    · trivial
    · simp
    · intro b hb; cases hb
  · refine ⟨rfl, ?_, ?_, ?_⟩ <;> simp only [ofEvent_cell]
    · show b.block < p.B; have := O.low; omega
    · simp
    · intro y hy
      simp only [MemAct.touch?, Option.some.injEq] at hy
      subst hy
      refine ⟨fun _ => by simp, fun _ z _ _ ⟨c, hc, hk⟩ => ?_⟩
      cases hc
      exact O.wgKeep z (hb ▸ hk)

theorem idleM (O : p.Ok) (ha : gs[0]? = some a) (h : Cm p j gs w t D d0) (hwg : WgAt p.ty p.Wg w st sm) (hmode : Md gs.size D tag st sm)
    (hgo : stepG p.P true a w = .go a' w' es) (hD : DM p j w w' es) (hms' : MS p Nx Anch tag j f' d0 a' w') (hf : f' < f0) :
    ∃ m₁ ops μ', runT p.P (crowd gs w sl) 0 = (.next m₁, ops) ∧ Lt2 μ' (phi p.n (Vc gs.size D) tag + Ssum gs.size D, f0 + 2 * Fsum gs.size D) ∧ Iv p Nx Anch μ' m₁ (t ++ ops) := by
  have hdf : deafBehind d0 es = d0 := deafBehind_idle (fun e he => ⟨(hD.2 e he).1, (hD.2 e he).2.1⟩) d0
  exact mainStep O h ha hgo (fun y h1 h2 => RK.of_m h1 h2 hD) (k0_of_EvM hD.2) (by rw [hdf]; exact hms') (hwg.of_block hD.1.1) hmode (.inr ⟨rfl, hf⟩)

theorem bookM (O : p.Ok) (ha : gs[0]? = some a) (h : Cm p j gs w t D d0)
    (hgo : stepG p.P true a w = .go a' w' es) (hAs : Aside p.Wg w w') (hwg' : WgAt p.ty p.Wg w' st' sm') (hbk : ∀ e ∈ es, Bk p.Wg e) (hms' : MS p Nx Anch tag' j f' (deafBehind d0 es) a' w')
    (hmode' : Md gs.size D tag' st' sm') (hlt : phi p.n (Vc gs.size D) tag' < phi p.n (Vc gs.size D) tag ∨ (phi p.n (Vc gs.size D) tag' = phi p.n (Vc gs.size D) tag ∧ f' < f0)) :
    ∃ m₁ ops μ', runT p.P (crowd gs w sl) 0 = (.next m₁, ops) ∧ Lt2 μ' (phi p.n (Vc gs.size D) tag + Ssum gs.size D, f0 + 2 * Fsum gs.size D) ∧ Iv p Nx Anch μ' m₁ (t ++ ops) :=
  mainStep O h ha hgo (fun _ _ _ => RK.of_wg O hAs ⟨_, _, hwg'⟩) (k0_of_Bk O hbk) hms' hwg' hmode' hlt

theorem w1M (O : p.Ok) (ha : gs[0]? = some a) (h : Cm p p.n gs w t D 1) (hwg : WgAt p.ty p.Wg w st sm) (hmode : Md gs.size D .w1 st sm) (hG : Goes p.P true (RM p p.n) (DM p p.n) (MW1 p Nx Anch) f0 a w) :
    ∃ m₁ ops μ', runT p.P (crowd gs w sl) 0 = (.next m₁, ops) ∧ Lt2 μ' (phi p.n (Vc gs.size D) .w1 + Ssum gs.size D, f0 + 2 * Fsum gs.size D) ∧ Iv p Nx Anch μ' m₁ (t ++ ops) := by
  have hV := vc_le h
  have hn := O.small
  rcases Goes.cases hG with hstop | ⟨m', rfl, hstep⟩
  · obtain ⟨_, hall⟩ := hstop w (.refl w)
    obtain ⟨ho, rfl, rfl, _⟩ := hmode.open_inv trivial
    obtain ⟨a', hgo, h0, hne⟩ := hall (Vc gs.size D) (by omega) (by simpa [pend] using hwg)
    by_cases hv : Vc gs.size D = 0
    · obtain ⟨m₂, hk⟩ := h0 hv
      refine bookM O ha h hgo (.refl p.Wg w) hwg bk_rd (tag' := .ke) (.ke hk) ?_ (.inl (by simp only [phi]; omega))
      have e : ((Vc gs.size D + pend .w1 : Nat) : Int) * KK = 0 := by rw [hv]; simp [pend]
      rw [e]
      exact .fin trivial (quitS_of ho hv)
    · obtain ⟨m₂, hk⟩ := hne hv
      exact bookM O ha h hgo (.refl p.Wg w) hwg bk_rd (tag' := .w2 (Vc gs.size D)) (.w2 hk) (hmode.reopen trivial trivial rfl (fun vs e => by cases e; omega)) (.inl (by simp only [phi]; omega))
  · obtain ⟨a', w', es, hgo, hD, hg'⟩ := hstep w (.refl w)
    exact idleM O ha h hwg hmode hgo hD (.w1 hg') (by omega)

/-- A go statement. -/
theorem goM (O : p.Ok) (ha : gs[0]? = some a) {r : Nat} (hr : r < p.n) (h : Cm p (p.n - (r + 1)) gs w t D 0) (hwg : WgAt p.ty p.Wg w st sm) (hmode : Md gs.size D (.sp r 2) st sm)
    {child : Goroutine} (hsp : stepG p.P true a w = .spawn a' child w #[]) (hrd : Ready p (p.J0 + (p.n - (r + 1)) + 1) child w) (hnext : Starts p (Into p Anch) r a' w) :
    ∃ m₁ ops μ', runT p.P (crowd gs w sl) 0 = (.next m₁, ops) ∧ Lt2 μ' (phi p.n (Vc gs.size D) (.sp r 2) + Ssum gs.size D, f0 + 2 * Fsum gs.size D) ∧ Iv p Nx Anch μ' m₁ (t ++ ops) := by
  obtain ⟨s, m₂, hs7, hwk⟩ := hrd
  have hs8 : s ≤ 8 := by cases hwk <;> omega
  have hsize := h.size
  obtain ⟨ho, rfl, rfl, _⟩ := hmode.open_inv trivial
  have hrun' := runT_crowd_spawn (P := p.P) (sl := sl) (i := 0) ha (by simpa using hsp)
  have eJ : gs.size = p.J0 + (p.n - (r + 1)) + 1 := by omega
  have hti := h.ti.fork O.ap (x := { g := 0, fn := a.frame.fn, pos := a.frame.place, act := .go gs.size }) (y := { g := gs.size, fn := child.frame.fn, pos := a.frame.place, act := .start }) ⟨rfl, by rw [eJ]⟩ ⟨eJ, rfl⟩ (by rw [← eJ]; exact h.out _ (.inr (Nat.le_refl _))) hs7 (m := m₂)
  have eops : ((MemOp.ofEvents 0 a.frame.fn a.frame.place #[]).push { g := 0, fn := a.frame.fn, pos := a.frame.place, act := .go gs.size }).push { g := gs.size, fn := child.frame.fn, pos := a.frame.place, act := .start } =
      #[({ g := 0, fn := a.frame.fn, pos := a.frame.place, act := .go gs.size } : MemOp), { g := gs.size, fn := child.frame.fn, pos := a.frame.place, act := .start }] := by simp [MemOp.ofEvents]
  rw [eops] at hrun'
  rw [← eJ] at hti hwk
  have hsz : ((gs.setIfInBounds 0 a').push child).size = gs.size + 1 := by simp
  have hD0 : D gs.size = ⟨0, 0, 0⟩ := h.out _ (.inr (Nat.le_refl _))
  have eV : Vc (gs.size + 1) (upd D gs.size ⟨s, m₂, 0⟩) = Vc gs.size D + 1 := by
    simp only [Vc, sumTo, upd_same]
    rw [sumTo_upd_out D _ cnt (Nat.le_refl _)]
    simp only [cnt, if_pos (show 5 ≤ s by omega)]
  have eS : Ssum (gs.size + 1) (upd D gs.size ⟨s, m₂, 0⟩) = Ssum gs.size D + s := by
    simp only [Ssum, sumTo, upd_same]
    rw [sumTo_upd_out D _ WD.stage (Nat.le_refl _)]
  have ho' : OpenS (gs.size + 1) (upd D gs.size ⟨s, m₂, 0⟩) := fun x hx0 hx => by
    by_cases e : x = gs.size
    · subst e; rw [upd_same]; exact .inr (by simp only; omega)
    · rw [upd_ne D _ e]; exact ho x hx0 (by omega)
  have ha' : ((gs.setIfInBounds 0 a').push child)[0]? = some a' := by
    rw [Array.getElem?_push_lt (by simp; omega), ← Array.getElem?_eq_getElem, Array.getElem?_setIfInBounds_self_of_lt (by omega)]
  have hcm : Cm p (p.n - r) ((gs.setIfInBounds 0 a').push child) w (t ++ #[({ g := 0, fn := a.frame.fn, pos := a.frame.place, act := .go gs.size } : MemOp), { g := gs.size, fn := child.frame.fn, pos := a.frame.place, act := .start }]) (upd D gs.size ⟨s, m₂, 0⟩) 0 := by
    refine ⟨by rw [hsz]; omega, by omega, fun x hx0 hx => ?_, fun x hx0 hx => ?_, fun x hx => ?_, ?_⟩
    · rw [hsz] at hx
      by_cases e : x = gs.size
      · subst e
        refine ⟨child, ?_, by rw [upd_same]; exact hwk⟩
        have : gs.size = (gs.setIfInBounds 0 a').size := by simp
        rw [this, Array.getElem?_push_size]
      · obtain ⟨g, hg, hgs⟩ := h.wk x hx0 (by omega)
        refine ⟨g, ?_, by rw [upd_ne D _ e]; exact hgs⟩
        rw [Array.getElem?_push_lt (by simp; omega), ← Array.getElem?_eq_getElem, Array.getElem?_setIfInBounds_ne (by omega)]
        exact hg
    · rw [upd_ne D _ (by omega)]; exact h.old x hx0 hx
    · rw [upd_ne D _ (by omega)]; exact h.out x (by omega)
    · rw [show p.n - r = p.n - (r + 1) + 1 by omega]; exact hti
  have est : ∀ tag', pend tag' = 0 → ((Vc gs.size D + pend (.sp r 2) : Nat) : Int) * KK = ((Vc (gs.size + 1) (upd D gs.size ⟨s, m₂, 0⟩) + pend tag' : Nat) : Int) * KK := fun tag' hp => by rw [eV, hp]; simp [pend]
  have hV := vc_le h
  cases r with
  | zero =>
    obtain ⟨m₃, hk⟩ := hnext
    simp only [Nat.sub_zero] at hcm
    refine ⟨_, _, (phi p.n (Vc (gs.size + 1) (upd D gs.size ⟨s, m₂, 0⟩)) .kd + Ssum (gs.size + 1) (upd D gs.size ⟨s, m₂, 0⟩), m₃ + 2 * Fsum (gs.size + 1) (upd D gs.size ⟨s, m₂, 0⟩)), hrun', Prod.Lex.left _ _ (by simp only [phi]; omega),
      _, w, sl, p.n, _, .kd, m₃, 0, a', _, _, rfl, ha', .kd hk, hcm, hwg, ?_, by rw [hsz]⟩
    rw [est .kd rfl, hsz]
    exact .opn trivial ho' (by simp)
  | succ r' =>
    obtain ⟨m₃, hk⟩ := hnext
    refine ⟨_, _, (phi p.n (Vc (gs.size + 1) (upd D gs.size ⟨s, m₂, 0⟩)) (.sp r' 5) + Ssum (gs.size + 1) (upd D gs.size ⟨s, m₂, 0⟩), m₃ + 2 * Fsum (gs.size + 1) (upd D gs.size ⟨s, m₂, 0⟩)), hrun', Prod.Lex.left _ _ (by simp only [phi]; omega),
      _, w, sl, p.n - (r' + 1), _, .sp r' 5, m₃, 0, a', _, _, rfl, ha', .skd (by omega) hk, hcm, hwg, ?_, by rw [hsz]⟩
    rw [est (.sp r' 5) rfl, hsz]
    exact .opn trivial ho' (by simp)

set_option maxHeartbeats 1600000 in
theorem stepM (O : p.Ok) (hAn : ∀ g w, Anch g w → ∃ m, Goes p.P true (RM p p.n) (DM p p.n) (MW1 p Nx Anch) m g w)
    (ha : gs[0]? = some a) (hms : MS p Nx Anch tag j f0 d0 a w) (h : Cm p j gs w t D d0) (hwg : WgAt p.ty p.Wg w st sm) (hmode : Md gs.size D tag st sm) (hrun : a.status = .running) :
    (∃ m₁ ops, runT p.P (crowd gs w sl) 0 = (.next m₁, ops) ∧ Acqd p Nx m₁ (t ++ ops)) ∨
    (∃ m₁ ops μ', runT p.P (crowd gs w sl) 0 = (.next m₁, ops) ∧ Lt2 μ' (phi p.n (Vc gs.size D) tag + Ssum gs.size D, f0 + 2 * Fsum gs.size D) ∧ Iv p Nx Anch μ' m₁ (t ++ ops)) := by
  have hVj := vc_le h
  have hn := O.small
  have hjn := h.le
  cases hms with
  | skd hr hG =>
    rcases Goes.cases hG with hstop | ⟨m', rfl, hstep⟩
    · obtain ⟨_, a', hgo, m₂, hk⟩ := hstop w (.refl w)
      exact .inr (bookM O ha h hgo (.refl p.Wg w) hwg bk_dis (.sa1 hr hk) (hmode.reopen trivial trivial rfl (by simp)) (.inl (by simp only [phi]; omega)))
    · obtain ⟨a', w', es, hgo, hD, hg'⟩ := hstep w (.refl w)
      exact .inr (idleM O ha h hwg hmode hgo hD (.skd hr hg') (by omega))
  | sa1 hr hG =>
    rename_i r
    rcases Goes.cases hG with hstop | ⟨m', rfl, hstep⟩
    · obtain ⟨_, hall⟩ := hstop w (.refl w)
      obtain ⟨ho, rfl, rfl, _⟩ := hmode.open_inv trivial
      obtain ⟨a', hgo, m₂, hk⟩ := hall (Vc gs.size D) (by omega) (by simpa [pend] using hwg)
      refine .inr (bookM O ha h hgo (aside_setCell w (stA p.Wg) _) (hwg.setSt _) bk_rw (.ske hr hk) ?_ (.inl (by simp only [phi]; omega)))
      have e : (((Vc gs.size D : Nat) : Int) + 1) * KK = ((Vc gs.size D + pend (.sp r 3) : Nat) : Int) * KK := by simp [pend]
      rw [e]
      exact .opn trivial ho (by simp)
    · obtain ⟨a', w', es, hgo, hD, hg'⟩ := hstep w (.refl w)
      exact .inr (idleM O ha h hwg hmode hgo hD (.sa1 hr hg') (by omega))
  | ske hr hG =>
    rcases Goes.cases hG with hstop | ⟨m', rfl, hstep⟩
    · obtain ⟨_, a', hgo, m₂, hk⟩ := hstop w (.refl w)
      exact .inr (bookM O ha h hgo (.refl p.Wg w) hwg bk_en (.sgo hr hk) (hmode.reopen trivial trivial rfl (by simp)) (.inl (by simp only [phi]; omega)))
    · obtain ⟨a', w', es, hgo, hD, hg'⟩ := hstep w (.refl w)
      exact .inr (idleM O ha h hwg hmode hgo hD (.ske hr hg') (by omega))
  | sgo hr hG =>
    rcases Goes.cases hG with hstop | ⟨m', rfl, hstep⟩
    · obtain ⟨_, a', child, hsp, hrd, hnext⟩ := hstop w (.refl w)
      exact .inr (goM O ha hr h hwg hmode hsp hrd hnext)
    · obtain ⟨a', w', es, hgo, hD, hg'⟩ := hstep w (.refl w)
      exact .inr (idleM O ha h hwg hmode hgo hD (.sgo hr hg') (by omega))
  | kd hG =>
    rcases Goes.cases hG with hstop | ⟨m', rfl, hstep⟩
    · obtain ⟨_, a', hgo, m₂, hk⟩ := hstop w (.refl w)
      exact .inr (bookM O ha h hgo (.refl p.Wg w) hwg bk_dis (.anch hk) (hmode.reopen trivial trivial rfl (by simp)) (.inl (by simp only [phi]; omega)))
    · obtain ⟨a', w', es, hgo, hD, hg'⟩ := hstep w (.refl w)
      exact .inr (idleM O ha h hwg hmode hgo hD (.kd hg') (by omega))
  | anch hG =>
    rcases Goes.cases hG with hstop | ⟨m', rfl, hstep⟩
    · obtain ⟨m₂, hk⟩ := hAn a w (hstop w (.refl w))
      obtain ⟨m₁, ops, μ', h1, h2, h3⟩ := w1M (sl := sl) O ha h hwg (hmode.reopen trivial trivial rfl (by simp)) hk
      exact .inr ⟨m₁, ops, μ', h1, lt2_trans h2 (Prod.Lex.left _ _ (by simp only [phi]; omega)), h3⟩
    · obtain ⟨a', w', es, hgo, hD, hg'⟩ := hstep w (.refl w)
      exact .inr (idleM O ha h hwg hmode hgo hD (.anch hg') (by omega))
  | w1 hG => exact .inr (w1M O ha h hwg hmode hG)
  | w2 hG =>
    rename_i vs
    rcases Goes.cases hG with hstop | ⟨m', rfl, hstep⟩
    · obtain ⟨_, hall⟩ := hstop w (.refl w)
      obtain ⟨ho, rfl, rfl, hw2⟩ := hmode.open_inv trivial
      obtain ⟨hle, h1⟩ := hw2 vs rfl
      obtain ⟨hhit, hmiss⟩ := hall (Vc gs.size D) (by omega) (by simpa [pend] using hwg)
      by_cases e : Vc gs.size D = vs
      · obtain ⟨a', hgo, m₂, hk⟩ := hhit e
        exact .inr (bookM O ha h hgo (aside_setCell w (stA p.Wg) _) (hwg.setSt _) bk_rw (.w3 hk) (.reg trivial ho (by omega)) (.inl (by simp only [phi]; omega)))
      · obtain ⟨a', hgo, m₂, hk⟩ := hmiss e
        exact .inr (bookM O ha h hgo (.refl p.Wg w) hwg bk_rd (.anch hk) (hmode.reopen trivial trivial rfl (by simp)) (.inl (by simp only [phi]; omega)))
    · obtain ⟨a', w', es, hgo, hD, hg'⟩ := hstep w (.refl w)
      exact .inr (idleM O ha h hwg hmode hgo hD (.w2 hg') (by omega))
  | w3 hG =>
    rcases Goes.cases hG with hstop | ⟨m', rfl, hstep⟩
    · obtain ⟨_, hoff, hblk, htake⟩ := hstop w (.refl w)
      cases hmode with
      | opn h1 _ _ => exact h1.elim
      | reg h1 h2 h3 => exact .inr (bookM O ha h (hblk ⟨_, hwg⟩) (.refl p.Wg w) hwg (by simp) (.blk hstop) (.reg trivial h2 h3) (.inr ⟨rfl, by omega⟩))
      | last L h1 h0 h2 h3 h4 => exact .inr (bookM O ha h (hblk ⟨_, hwg⟩) (.refl p.Wg w) hwg (by simp) (.blk hstop) (.last L trivial h0 h2 h3 h4) (.inr ⟨rfl, by omega⟩))
      | sema h2 =>
        obtain ⟨a', hgo, m₂, hk⟩ := htake hwg
        exact .inr (bookM O ha h hgo (aside_setCell w (smA p.Wg) _) (hwg.setSm 0) bk_sem (.w4 hk) (.fin trivial h2) (.inl (by simp only [phi]; omega)))
      | fin h1 _ => exact h1.elim
    · obtain ⟨a', w', es, hgo, hD, hg'⟩ := hstep w (.refl w)
      exact .inr (idleM O ha h hwg hmode hgo hD (.w3 hg') (by omega))
  | blk hG => simp at hrun
  | w4 hG =>
    rcases Goes.cases hG with hstop | ⟨m', rfl, hstep⟩
    · obtain ⟨_, hx⟩ := hstop w (.refl w)
      obtain ⟨hq, rfl, rfl⟩ := hmode.fin_inv trivial
      obtain ⟨a', hgo, m₂, hk⟩ := hx hwg
      exact .inr (bookM O ha h hgo (.refl p.Wg w) hwg bk_rd (.ke hk) (.fin trivial hq) (.inl (by simp only [phi]; omega)))
    · obtain ⟨a', w', es, hgo, hD, hg'⟩ := hstep w (.refl w)
      exact .inr (idleM O ha h hwg hmode hgo hD (.w4 hg') (by omega))
  | ke hG =>
    rcases Goes.cases hG with hstop | ⟨m', rfl, hstep⟩
    · obtain ⟨_, a', hgo, m₂, hk⟩ := hstop w (.refl w)
      obtain ⟨hq, rfl, rfl⟩ := hmode.fin_inv trivial
      exact .inr (bookM O ha h hgo (.refl p.Wg w) hwg bk_en (.acq hk) (.fin trivial hq) (.inl (by simp only [phi]; omega)))
    · obtain ⟨a', w', es, hgo, hD, hg'⟩ := hstep w (.refl w)
      exact .inr (idleM O ha h hwg hmode hgo hD (.ke hg') (by omega))
  | acq hG =>
    rcases Goes.cases hG with hstop | ⟨m', rfl, hstep⟩
    · obtain ⟨_, a', hgo, hra, hk⟩ := hstop w (.refl w)
      obtain ⟨hq, rfl, rfl⟩ := hmode.fin_inv trivial
      have e1 : MemOp.ofEvents 0 a.frame.fn a.frame.place #[mk (.acquire (stA p.Wg))] = #[{ g := 0, fn := a.frame.fn, pos := a.frame.place, act := .mark (.acquire (stA p.Wg)) }] := by rw [ofEvents_eq]; simp [ofEvent_mk]
      have hrunT := runT_crowd_go (P := p.P) (sl := sl) (i := 0) ha (by simpa using hgo)
      have hsz : ((gs.map (woken p.P a a' w)).setIfInBounds 0 a').size = gs.size := by simp
      have h0 : 0 < gs.size := (Array.getElem?_eq_some_iff.1 ha).1
      have hall : ∀ y, 0 < y → (D y).stage < 7 := fun y hy0 => by
        rcases Nat.lt_or_ge y gs.size with hy | hy
        · rw [hq y hy0 hy]; omega
        · rw [h.out y (.inr hy)]; simp
      have hdo : ∀ y, 0 < y → Deaf (t ++ MemOp.ofEvents 0 a.frame.fn a.frame.place #[mk (.acquire (stA p.Wg))]) y = (D y).deaf := fun y hy0 => by
        rw [Deaf_other t (g := y) (g' := 0) (by omega) _ g_of_ofEvents]; exact h.ti.deafW y hy0
      refine .inl ⟨_, _, hrunT, _, a', w, sl, fun y => (D y).fuel, rfl, by rw [hsz]; exact h.size, by simp [h0], hra, hk, ⟨fun y g hy0 hg => ?_, fun y hy => ?_⟩, by rw [e1]; exact h.ti.acquire hall ⟨rfl, rfl⟩ O.low, fun x h1 h2 => ?_⟩
      · have hy : y < gs.size := by have := (Array.getElem?_eq_some_iff.1 hg).1; omega
        obtain ⟨z, hz, hzs⟩ := h.wk y hy0 hy
        rw [get_ms _ _ _ _ (by omega), hz, Option.map_some, hzs.woken] at hg
        obtain rfl := Option.some.inj hg
        rw [hdo y hy0]
        have h1 := hq y hy0 hy
        rw [h1] at hzs
        cases hzs with
        | late _ h2 _ _ => omega
        | quit hqq _ => exact hqq
      · rw [hsz] at hy
        rw [hdo y (by omega), h.out y (.inr hy)]
      · have hx : x < gs.size := by have := h.size; omega
        obtain ⟨z, hz, hzs⟩ := h.wk x (by omega) hx
        exact hzs.fin (by rw [hq x (by omega) hx]; omega) h1 h2
    · obtain ⟨a', w', es, hgo, hD, hg'⟩ := hstep w (.refl w)
      exact .inr (idleM O ha h hwg hmode hgo hD (.acq hg') (by omega))

/-- Nobody waits for ever. -/
theorem someRuns (hAr : ∀ g w, Anch g w → g.status = .running) (ha : gs[0]? = some a) (hms : MS p Nx Anch tag j f0 d0 a w) (h : Cm p j gs w t D d0) (hmode : Md gs.size D tag st sm) :
    ∃ (i : Nat) (g : Goroutine), gs[i]? = some g ∧ g.status = .running := by
  rcases hms.status hAr with ⟨hs, _⟩ | ⟨_, rfl, _⟩
  · exact ⟨0, a, ha, hs⟩
  · cases hmode with
    | opn h1 _ _ => exact h1.elim
    | reg _ _ h3 =>
      obtain ⟨x, hx, h5⟩ := exists_counted h3
      have hx0 : 0 < x := by
        rcases Nat.eq_zero_or_pos x with rfl | h'
        · rw [h.out 0 (.inl rfl)] at h5; simp at h5
        · exact h'
      obtain ⟨g, hg, hs⟩ := h.wk x hx0 hx
      exact ⟨x, g, hg, hs.running_of (by omega)⟩
    | last L _ h0 h2 h3 _ =>
      obtain ⟨g, hg, hs⟩ := h.wk L h0 h2
      exact ⟨L, g, hg, hs.running_of (by omega)⟩
    | fin h1 _ => exact h1.elim

theorem allAwake (hAr : ∀ g w, Anch g w → g.status = .running) (ha : gs[0]? = some a) (hms : MS p Nx Anch tag j f0 d0 a w) (h : Cm p j gs w t D d0) : ∀ g ∈ gs, awake g := by
  intro g hg tm
  obtain ⟨i, hi⟩ := Array.mem_iff_getElem?.1 hg
  rcases Nat.eq_zero_or_pos i with rfl | hi0
  · rw [ha] at hi; cases hi
    rcases hms.status hAr with ⟨hs, _⟩ | ⟨hs, _⟩ <;> rw [hs] <;> simp
  · have hlt := (Array.getElem?_eq_some_iff.1 hi).1
    obtain ⟨g', hg', hs⟩ := h.wk i hi0 hlt
    rw [hi] at hg'; cases hg'
    rcases hs.status with h' | h' <;> rw [h'] <;> simp

/-- On whatever tape the machine comes to where goroutine 0 has said its 'acquire'. -/
theorem phase_runs (O : p.Ok) (hAr : ∀ g w, Anch g w → g.status = .running) (hAn : ∀ g w, Anch g w → ∃ m, Goes p.P true (RM p p.n) (DM p p.n) (MW1 p Nx Anch) m g w) :
    ∀ (μ : Nat × Nat) (m : Machine) (t : Trace), Iv p Nx Anch μ m t → ∃ N m' t', runNT p.P N m t = (.next m', t') ∧ Acqd p Nx m' t' := by
  intro μ
  induction μ using (Prod.lex Nat.lt_wfRel Nat.lt_wfRel).wf.induction with
  | _ μ ih =>
    rintro m t ⟨gs, w, sl, j, D, tag, f0, d0, a, st, sm, rfl, ha, hms, hcm, hwg, hmode, rfl⟩
    obtain ⟨i, g, d, sl', hg, hrun, hstep⟩ := crowd_pick (P := p.P) (w := w) (sl := sl) (allAwake hAr ha hms hcm) (someRuns hAr ha hms hcm hmode)
    have hms' := hms.rely (RM.at w d)
    have hcm' := hcm.at O d
    have hwg' : WgAt p.ty p.Wg (w.at d) st sm := hwg
    have key : (∃ m₁ ops, stepT p.P (crowd gs w sl) = (.next m₁, ops) ∧ Acqd p Nx m₁ (t ++ ops)) ∨
        (∃ m₁ ops μ', stepT p.P (crowd gs w sl) = (.next m₁, ops) ∧ Lt2 μ' (phi p.n (Vc gs.size D) tag + Ssum gs.size D, f0 + 2 * Fsum gs.size D) ∧ Iv p Nx Anch μ' m₁ (t ++ ops)) := by
      rw [hstep]
      rcases Nat.eq_zero_or_pos i with rfl | hi0
      · rw [ha] at hg; cases hg
        exact stepM O hAn ha hms' hcm' hwg' hmode hrun
      · exact .inr (stepX O hAr hcm' ha hms' hwg' hmode hi0 hg hrun)
    rcases key with ⟨m₁, ops, h1, h2⟩ | ⟨m₁, ops, μ', h1, h2, h3⟩
    · exact ⟨1, m₁, t ++ ops, by simp only [runNT, h1], h2⟩
    · obtain ⟨N, m', t', h4, h5⟩ := ih μ' h2 m₁ _ h3
      exact ⟨N + 1, m', t', by simp only [runNT, h1]; exact h4, h5⟩

/-- THE PHASE: from a frame in which goroutine 0 stands at the first start, to a frame behind the join. -/
theorem phase (O : p.Ok) (hAr : ∀ g w, Anch g w → g.status = .running) (hAn : ∀ g w, Anch g w → ∃ m, Goes p.P true (RM p p.n) (DM p p.n) (MW1 p Nx Anch) m g w)
    {B0 : Nat} {q : Nat → Nat} (hB : B0 ≤ p.B) (hsize : gs.size = p.J0 + 1) (ha : gs[0]? = some a) (hL : Leavers p.P t gs q) (hP : Past p.Sh B0 t) (hwg : WgAt p.ty p.Wg w 0 0)
    (hS : Starts p (Into p Anch) p.n a w) : ∃ N m' t', runNT p.P N (crowd gs w sl) t = (.next m', t') ∧ Acqd p Nx m' t' := by
  let D : Nat → WD := fun x => if x = 0 ∨ gs.size ≤ x then ⟨0, 0, 0⟩ else ⟨1, q x, Deaf t x⟩
  have hD : ∀ x, 0 < x → x < gs.size → D x = ⟨1, q x, Deaf t x⟩ := fun x h1 h2 => by simp only [D]; rw [if_neg (by omega)]
  have hV : Vc gs.size D = 0 := by
    have key : ∀ N, N ≤ gs.size → Vc N D = 0 := by
      intro N
      induction N with
      | zero => intro _; rfl
      | succ N ih =>
        intro hN
        have := ih (by omega)
        simp only [Vc, sumTo] at this ⊢
        rw [this]
        rcases Nat.eq_zero_or_pos N with rfl | h'
        · simp [D, cnt]
        · rw [hD N h' (by omega)]; rfl
    exact key _ (Nat.le_refl _)
  have hcm : Cm p 0 gs w t D 0 := by
    refine ⟨by omega, by omega, fun x hx0 hx => ?_, fun x hx0 hx => by rw [hD x hx0 (by omega)], fun x hx => by simp only [D]; rw [if_pos hx], ?_⟩
    · refine ⟨gs[x], Array.getElem?_eq_getElem hx, ?_⟩
      rw [hD x hx0 hx]
      exact .quit (hL.old x _ hx0 (Array.getElem?_eq_getElem hx)) fun h1 _ => by omega
    · refine TI.start hP hB (fun l ho => ?_) fun y hy0 => ?_
      · rcases ho with ⟨b, rfl, _⟩ | ⟨x, _, _, rfl⟩ <;> rfl
      rcases Nat.lt_or_ge y gs.size with hy | hy
      · rw [hD y hy0 hy]
      · simp only [D]; rw [if_pos (.inr hy)]; exact hL.above y hy
  have hmode : ∀ tag, isOpen tag → pend tag = 0 → (∀ vs, tag ≠ .w2 vs) → Md gs.size D tag 0 0 := fun tag h1 h2 h3 => by
    have := Md.opn (N := gs.size) (D := D) h1 (fun x h0 hx => by rw [hD x h0 hx]; exact .inl rfl) (fun vs e => absurd e (h3 vs))
    simpa [hV, h2] using this
  cases hn : p.n with
  | zero =>
    rw [hn] at hS
    obtain ⟨m, hk⟩ := hS
    exact phase_runs O hAr hAn _ _ _ ⟨gs, w, sl, 0, D, .kd, m, 0, a, 0, 0, rfl, ha, by have := MS.kd (Nx := Nx) hk; rwa [hn] at this, hcm, hwg, hmode .kd trivial rfl (by simp), rfl⟩
  | succ r =>
    rw [hn] at hS
    obtain ⟨m, hk⟩ := hS
    have hc := MS.skd (Nx := Nx) (p := p) (r := r) (by omega) hk
    rw [hn, Nat.sub_self] at hc
    exact phase_runs O hAr hAn _ _ _ ⟨gs, w, sl, 0, D, .sp r 5, m, 0, a, 0, 0, rfl, ha, hc, hcm, hwg, hmode (.sp r 5) trivial rfl (by simp), rfl⟩
end
end Go.Proofs.Ytjofmchipkfnmaa
