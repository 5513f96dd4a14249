/- n goroutines with channels of their own and their starter: a step of one of the goroutines (own text). -/
import Derived.Test.YtjofmchipkfnmaaKc
import Derived.Conc.CrowdStepW
namespace Go.Proofs.Ytjofmchipkfnmaa
open Go Go.Conc Go.ConcN
open Go.ConcR (KK wgBlock WgAt stA smA rd wr mk Payload DC0 Bk g_of_ofEvents bk_of_mute ofEvent_loc_mark ofEvent_cell)

section
variable {p : Plan} {Nx Anch : Goroutine → World → Prop} {gs : Array Goroutine} {w w' : World} {sl : Option (Nat × Nat)} {j : Nat} {D : Nat → WD} {tag : CTag} {f0 d0 : Nat} {a : Goroutine} {t : Trace}

theorem kw_of_EvK {x : Nat} {fn : FuncId} {pos : String} {es : Array Event} (h : ∀ e ∈ es, EvK p x e) (h1 : p.J0 < x) (h2 : x ≤ p.J0 + j) :
    ∀ op ∈ MemOp.ofEvents x fn pos es, KW (OwL p) (RdL p.Keep) p.B p.J0 (stA p.Wg) j x op := by
  intro op hop
  obtain ⟨e, he, rfl⟩ := Go.Conc.mem_ofEvents hop
  obtain ⟨_, _, h5, h6, h7⟩ := h e he
  refine ⟨rfl, h6, fun hm => ?_, fun b hb => ?_⟩
  · exact h5 (Go.ConcR.loc_of_ofEvent hm)
  · rcases h7 b hb with h' | ⟨h', h'', h'''⟩
    · exact .inl ⟨h'.1, h'.2, h1, h2⟩
    · exact .inr ⟨h', h'', h''', h1, h2⟩

theorem kw_of_Bk (O : p.Ok) {x : Nat} {fn : FuncId} {pos : String} {es : Array Event} (h : ∀ e ∈ es, Bk p.Wg e) (hr : (p.J0 < x ∧ x ≤ p.J0 + j) ∨ ∀ e ∈ es, (MemAct.ofEvent e).touch? = none) :
    ∀ op ∈ MemOp.ofEvents x fn pos es, KW (OwL p) (RdL p.Keep) p.B p.J0 (stA p.Wg) j x op := by
  intro op hop
  obtain ⟨e, he, rfl⟩ := Go.Conc.mem_ofEvents hop
  rcases h e he with h1 | h1 | ⟨b, wr', rfl, hb⟩
  · refine ⟨rfl, ?_, ?_, ?_⟩ <;> simp only [ofEvent_loc_mark h1]
    · trivial
    · simp
    · intro b hb; cases hb
  · refine ⟨rfl, ?_, ?_, ?_⟩ <;> simp only [ofEvent_loc_mark h1]
    · trivial
    · simp
    · intro b hb; cases hb
  · refine ⟨rfl, ?_, ?_, ?_⟩ <;> simp only [ofEvent_cell]
    · show b.block < p.B; have := O.low; omega
    · simp
    · intro y hy
      rcases hr with hr | hr
      · simp only [MemAct.touch?, Option.some.injEq] at hy
        subst hy
        exact .inl ⟨.inl ⟨b, rfl, hb⟩, by simp, hr.1, hr.2⟩
      · have := hr _ he
        rw [ofEvent_cell] at this
        rw [this] at hy
        cases hy

theorem not_counting {y : Nat} {fn : FuncId} {pos : String} {es : Array Event} {d : Nat} (hdk : Deaf t y = d) (hes : ∀ e ∈ es, Bk p.Wg e)
    (hd : ∀ k e, es[k]? = some e → (MemAct.ofEvent e).touch? = none ∨ 0 < deafBehind d (es.extract 0 k)) :
    ∀ i, t.size ≤ i → (t ++ MemOp.ofEvents y fn pos es).g? i = some y → ¬ (t ++ MemOp.ofEvents y fn pos es).counts i := by
  intro i hi _ hc
  obtain ⟨b, hb, _, hk⟩ := hc
  obtain ⟨act, hact, hxt⟩ := Option.bind_eq_some_iff.1 hb
  obtain ⟨op, ho, rfl⟩ := Option.map_eq_some_iff.1 hact
  have hj : (MemOp.ofEvents y fn pos es)[i - t.size]? = some op := by
    rw [Array.getElem?_append] at ho
    simpa [Nat.not_lt.2 hi] using ho
  rw [ofEvents_eq, Array.getElem?_map] at hj
  obtain ⟨e, he, rfl⟩ := Option.map_eq_some_iff.1 hj
  have hjs : i - t.size ≤ es.size := by
    rcases Nat.lt_or_ge (i - t.size) es.size with h' | h'
    · omega
    · rw [Array.getElem?_eq_none h'] at he; cases he
  rcases hd _ e he with h0 | h0
  · simp only at hxt; rw [h0] at hxt; cases hxt
  · rcases hes e (Array.mem_of_getElem? he) with h1 | h1 | ⟨ad, wr', rfl, _⟩
    · simp only [ofEvent_loc_mark h1] at hxt; cases hxt
    · simp only [ofEvent_loc_mark h1] at hxt; cases hxt
    · have hxk : b.kind = .atomic := by
        simp only [ofEvent_cell, MemAct.touch?, Option.some.injEq] at hxt
        subst hxt; rfl
      rcases hk with hk | ⟨g, hg, hdf⟩
      · exact hk hxk
      · have hg1 : g = y := by simp [Trace.g?, ho] at hg; exact hg.symm
        subst hg1
        have := deaf_inside t g fn pos es (i - t.size) hjs
        rw [show t.size + (i - t.size) = i by omega, hdf, hdk] at this
        omega

theorem others_zero {N x : Nat} (hx : x < N) (h1 : Vc N D = 1) (hc : cnt (D x) = 1) : ∀ a, a < N → a ≠ x → cnt (D a) = 0 := others_uncounted hx h1 hc

/-- It stands at a send: the machine's step. -/
theorem sendStep (O : p.Ok) (hAr : ∀ g w, Anch g w → g.status = .running) (h : Cm p j gs w t D d0) (ha : gs[0]? = some a) (hms : MS p Nx Anch tag j f0 d0 a w) {st sm : Int} (hwg : WgAt p.ty p.Wg w st sm) (hmode : Md gs.size D tag st sm)
    {x : Nat} (hx0 : 0 < x) {g : Goroutine} (hg : gs[x]? = some g) (hst : (D x).stage = 8) (hde : (D x).deaf = 0) (hS : Snd p x g w) :
    ∃ m₁ ops μ', runT p.P (crowd gs w sl) x = (.next m₁, ops) ∧ Lt2 μ' (phi p.n (Vc gs.size D) tag + Ssum gs.size D, f0 + 2 * Fsum gs.size D) ∧ Iv p Nx Anch μ' m₁ (t ++ ops) := by
  have hx : x < gs.size := (Array.getElem?_eq_some_iff.1 hg).1
  have hsize := h.size
  obtain ⟨hx1, hx2⟩ := h.range hx0 hx (by omega)
  obtain ⟨hrun, hot, hlow, g₂, v, z, cap, s, r, buf, tm, hgo, hc, hroom, hsr, hfn, m', hG⟩ := hS
  have hp : partners (gs.setIfInBounds x ph) (p.Ch x) false = [] := by
    refine partners_nil fun y q hq => ?_
    rcases getElem?_stand gs x y q hq with ⟨_, rfl⟩ | ⟨hne, hq'⟩
    · rfl
    · have hy : y < gs.size := (Array.getElem?_eq_some_iff.1 hq').1
      rcases Nat.eq_zero_or_pos y with rfl | hy0
      · rw [ha] at hq'
        obtain rfl := Option.some.inj hq'
        rcases hms.status hAr with ⟨h', _⟩ | ⟨_, _, h'⟩
        · exact offersAt_of_not_blocked (by rw [h']; simp) _ _
        · unfold offersAt; rw [h']; cases a.status <;> rfl
      · obtain ⟨q', hq1, hqs⟩ := h.wk y hy0 hy
        rw [hq'] at hq1
        obtain rfl := Option.some.inj hq1
        exact offersAt_of_not_blocked (by rcases hqs.status with h' | h' <;> rw [h'] <;> simp) _ _
  have hrunT := crowd_send_room (P := p.P) (sl := sl) hg (by rw [show (x == 0) = false by simp; omega]; exact hgo) hc hroom hp
  rw [finishComm_send] at hrunT
  have hsz : (gs.setIfInBounds x (Go.Conc.served g₂ undef)).size = gs.size := by simp
  have hAs : AsideX p x w (w.setChan (p.Ch x) cap (buf.push v) false (s + 1) r tm) :=
    ⟨rfl, rfl, rfl, by simp [World.setChan], fun b hb => by
      have : p.Ch x ≠ b := fun e => hb (e ▸ hot)
      simp [World.setChan, this]⟩
  have hM := RM.of_x (j := j) O hx1 (by omega) hAs
  refine ⟨_, _, (phi p.n (Vc gs.size (upd D x ⟨7, m', 0⟩)) tag + Ssum gs.size (upd D x ⟨7, m', 0⟩), f0 + 2 * Fsum gs.size (upd D x ⟨7, m', 0⟩)), hrunT, lt_work hx (by omega) (.inl rfl) (.inl ⟨by simp [hst], by simp [cnt, hst]⟩),
    _, _, sl, j, upd D x ⟨7, m', 0⟩, tag, f0, d0, a, st, sm, rfl, by rw [Array.getElem?_setIfInBounds_ne (by omega)]; exact ha, hms.rely hM,
    ⟨by rw [hsz]; exact h.size, h.le, fun y hy0 hy => ?_, fun y hy0 hy => ?_, by rw [hsz]; exact upd_out h.out hx0 hx, ?_⟩, hwg.of_block (hAs.block _ (O.wgHot x)), by rw [hsz]; exact hmode.counted hx0 hx (by omega) (by omega) _ _, by rw [hsz]⟩
  · rw [hsz] at hy
    by_cases e : y = x
    · subst e
      exact ⟨Go.Conc.served g₂ undef, by simp [hx], by rw [upd_same]; exact .r0 hG⟩
    · obtain ⟨q, hq, hqs⟩ := h.wk y hy0 hy
      refine ⟨q, by rw [Array.getElem?_setIfInBounds_ne (Ne.symm e)]; exact hq, ?_⟩
      rw [upd_ne D _ e]
      exact hqs.rely O (h.range hy0 hy) fun _ _ => RK.of_x O (Ne.symm e) hAs
  · by_cases e : y = x
    · subst e; omega
    · rw [upd_ne D _ e]; exact h.old y hy0 hy
  · refine h.ti.work O.ap hx0 (x' := ⟨7, m', 0⟩) (fun op hop => ?_) ?_ (fun _ _ _ => .inr (.inl (Nat.le_refl _)))
    · have hop' : op.g = x ∧ (op.act = .send (p.Ch x) s ∨ op.act = .sendDone (p.Ch x) s) := by
        simp [MemOp.ofEvents] at hop
        rcases hop with rfl | rfl
        · exact ⟨rfl, .inl rfl⟩
        · exact ⟨rfl, .inr rfl⟩
      refine ⟨hop'.1, ?_, ?_, ?_⟩
      · rcases hop'.2 with e | e <;> rw [e] <;> exact hlow
      · rcases hop'.2 with e | e <;> rw [e] <;> simp
      · intro b hb
        rcases hop'.2 with e | e <;> rw [e] at hb <;> cases hb
    · rw [Deaf_still t x _ fun op hop => ?_, h.ti.deafW x hx0, hde]
      simp [MemOp.ofEvents] at hop
      rcases hop with rfl | rfl <;> simp
end
end Go.Proofs.Ytjofmchipkfnmaa
