/- n goroutines with channels of their own and their starter: every step of a goroutine keeps the invariant (own text). -/
import Derived.Test.YtjofmchipkfnmaaKd
namespace Go.Proofs.Ytjofmchipkfnmaa
open Go Go.Conc Go.ConcN
open Go.ConcR (KK wgBlock WgAt stA smA rd wr mk Payload DC0 Bk g_of_ofEvents bk_of_mute ofEvent_loc_mark ofEvent_cell ofEvent_mk)

section
variable {p : Plan} {Nx Anch : Goroutine → World → Prop} {gs : Array Goroutine} {w w' : World} {sl : Option (Nat × Nat)} {j : Nat} {D : Nat → WD} {tag : CTag} {f0 d0 : Nat} {a : Goroutine} {t : Trace} {st sm : Int}

set_option maxHeartbeats 1600000 in
theorem stepX (O : p.Ok) (hAr : ∀ g w, Anch g w → g.status = .running) (h : Cm p j gs w t D d0) (ha : gs[0]? = some a) (hms : MS p Nx Anch tag j f0 d0 a w) (hwg : WgAt p.ty p.Wg w st sm) (hmode : Md gs.size D tag st sm)
    {x : Nat} (hx0 : 0 < x) {g : Goroutine} (hg : gs[x]? = some g) (hrun : g.status = .running) :
    ∃ m₁ ops μ', runT p.P (crowd gs w sl) x = (.next m₁, ops) ∧ Lt2 μ' (phi p.n (Vc gs.size D) tag + Ssum gs.size D, f0 + 2 * Fsum gs.size D) ∧ Iv p Nx Anch μ' m₁ (t ++ ops) := by
  have hx : x < gs.size := (Array.getElem?_eq_some_iff.1 hg).1
  have hsize := h.size
  obtain ⟨g₁, hg₁, hs⟩ := h.wk x hx0 hx
  obtain rfl : g = g₁ := by rw [hg] at hg₁; exact Option.some.inj hg₁
  have hran := h.range hx0 hx
  have hb := hms.bound
  have hVj := vc_le h
  have hdx := h.ti.deafW x hx0
  generalize hst : (D x).stage = s at hs
  generalize hfu : (D x).fuel = m at hs
  generalize hde : (D x).deaf = dd at hs
  rw [hst] at hran
  have hdk : Deaf t x = dd := by rw [hdx, hde]
  have hRy : s ≠ 1 → ∀ {w₁ : World}, AsideX p x w w₁ → ∀ y, y ≠ x → p.J0 < y → y ≤ p.J0 + p.n → RK p y w w₁ := fun _ _ hA y e _ _ => RK.of_x O (Ne.symm e) hA
  -- a step of the library's bookkeeping: at most the group's block turns
  have bookG : ∀ {g' : Goroutine} {w' : World} {es : Array Event} {s' m' dd' : Nat} {st' sm' : Int}, stepG p.P false g w = .go g' w' es → Aside p.Wg w w' → WgAt p.ty p.Wg w' st' sm' → (∀ e ∈ es, Bk p.Wg e) →
      (∀ k e, es[k]? = some e → (MemAct.ofEvent e).touch? = none ∨ 0 < deafBehind dd (es.extract 0 k)) → WK p x s' m' dd' g' w' → deafBehind dd es = dd' → s ≤ 6 → (x ≤ p.J0 → s' = 1 ∧ ∀ e ∈ es, (MemAct.ofEvent e).touch? = none) →
      (∀ tag', (tag' = tag ∨ (tag = .blk ∧ tag' = .w3)) → (mayWake p.P g = true → g'.status = .running → tag' ≠ .blk) → Md gs.size (upd D x ⟨s', m', dd'⟩) tag' st' sm') → ((s' < s ∧ cnt ⟨s', m', dd'⟩ ≤ cnt (D x)) ∨ (s' = s ∧ m' + 1 = m)) →
      ∃ m₁ ops μ', runT p.P (crowd gs w sl) x = (.next m₁, ops) ∧ Lt2 μ' (phi p.n (Vc gs.size D) tag + Ssum gs.size D, f0 + 2 * Fsum gs.size D) ∧ Iv p Nx Anch μ' m₁ (t ++ ops) := by
    intro g' w' es s' m' dd' st' sm' hgo hAs hwg' hbk hd hs' hdd h6 hold hmode' hlt
    have hrt : (p.J0 < x ∧ x ≤ p.J0 + j) ∨ ∀ e ∈ es, (MemAct.ofEvent e).touch? = none := by
      rcases Nat.lt_or_ge p.J0 x with h' | h'
      · exact .inl ⟨h', by omega⟩
      · exact .inr (hold h').2
    exact workStep O hAr h ha hms hx0 hg hgo (RM.of_wg hAs ⟨_, _, hwg'⟩) (fun y _ _ _ => RK.of_wg O hAs ⟨_, _, hwg'⟩) hs' (fun e => (hold e).1) (kw_of_Bk O hbk hrt) (by rw [hde]; exact hdd)
      (ho_still h.ti hx0 (by omega) (not_counting hdk hbk hd) (fun op hop => (kw_of_Bk O hbk hrt op hop).2.2.1)) hwg' hmode' (by rw [hst, hfu]; exact hlt)
  have book : ∀ {g' : Goroutine} {w' : World} {es : Array Event} {s' m' dd' : Nat} {st' sm' : Int}, stepG p.P false g w = .go g' w' es → Aside p.Wg w w' → WgAt p.ty p.Wg w' st' sm' → (∀ e ∈ es, Bk p.Wg e) →
      (∀ k e, es[k]? = some e → (MemAct.ofEvent e).touch? = none ∨ 0 < deafBehind dd (es.extract 0 k)) → WK p x s' m' dd' g' w' → deafBehind dd es = dd' → s ≤ 6 → (x ≤ p.J0 → s' = 1 ∧ ∀ e ∈ es, (MemAct.ofEvent e).touch? = none) →
      Md gs.size (upd D x ⟨s', m', dd'⟩) tag st' sm' → ((s' < s ∧ cnt ⟨s', m', dd'⟩ ≤ cnt (D x)) ∨ (s' = s ∧ m' + 1 = m)) →
      ∃ m₁ ops μ', runT p.P (crowd gs w sl) x = (.next m₁, ops) ∧ Lt2 μ' (phi p.n (Vc gs.size D) tag + Ssum gs.size D, f0 + 2 * Fsum gs.size D) ∧ Iv p Nx Anch μ' m₁ (t ++ ops) :=
    fun hgo hAs hwg' hbk hd hs' hdd h6 hold hmode' hlt => bookG hgo hAs hwg' hbk hd hs' hdd h6 hold (fun _ ht _ => hmode'.retag ht) hlt
  have idle : ∀ {g' : Goroutine} {m' : Nat}, stepG p.P false g w = .go g' w #[] → WK p x s m' dd g' w → m' + 1 = m → s ≤ 6 → s ≠ 1 →
      ∃ m₁ ops μ', runT p.P (crowd gs w sl) x = (.next m₁, ops) ∧ Lt2 μ' (phi p.n (Vc gs.size D) tag + Ssum gs.size D, f0 + 2 * Fsum gs.size D) ∧ Iv p Nx Anch μ' m₁ (t ++ ops) := by
    intro g' m' hgo hs' hm h6 h1
    exact book hgo (.refl p.Wg w) hwg (by simp) (by simp) hs' rfl h6 (fun e => absurd e (by have := hran h1; omega)) (by have := hmode.same (x := x) m' dd; rwa [hst] at this) (.inr ⟨rfl, hm⟩)
  have oneCell : ∀ (e : Event), Bk p.Wg e → 0 < dd → ∀ k z, (#[e] : Array Event)[k]? = some z → (MemAct.ofEvent z).touch? = none ∨ 0 < deafBehind dd ((#[e] : Array Event).extract 0 k) := fun e _ h0 k z hz => by
    match k, hz with
    | 0, _ => exact .inr (by simpa [deafBehind] using h0)
    | k + 1, hz => simp at hz
  cases hs with
  | snd hG =>
    obtain ⟨hx1, hx2⟩ := hran (by omega)
    rcases Goes.cases hG with hstop | ⟨m', rfl, hstep⟩
    · exact sendStep O hAr h ha hms hwg hmode hx0 hg hst hde (hstop w (RK.refl x w))
    · obtain ⟨g', w', es, hgo, ⟨hac, hev⟩, hg'⟩ := hstep w (RK.refl x w)
      exact workStep O hAr h ha hms hx0 hg hgo (RM.of_x O hx1 (by omega) hac) (hRy (by omega) hac) (.snd hg') (fun e => by omega) (kw_of_EvK hev hx1 (by omega)) (by rw [hde]; exact deafBehind_idle (fun e he => ⟨(hev e he).1, (hev e he).2.1⟩) 0)
        (fun _ _ _ => .inr (.inl (by omega))) (hwg.of_block (hac.block _ (O.wgHot x))) (fun _ ht _ => Md.retag (by have := hmode.same (x := x) m' 0; rwa [hst] at this) ht) (.inr ⟨hst.symm, by omega⟩)
  | r0 hG =>
    obtain ⟨hx1, hx2⟩ := hran (by omega)
    rcases Goes.cases hG with hstop | ⟨m', rfl, hstep⟩
    · obtain ⟨⟨_, _, g', hgo, m₂, hk⟩, hf⟩ := hstop w (RK.refl x w)
      have e1 : MemOp.ofEvents x g.frame.fn g.frame.place #[mk (.releaseMerge (stA p.Wg))] = #[{ g := x, fn := g.frame.fn, pos := g.frame.place, act := .mark (.releaseMerge (stA p.Wg)) }] := by rw [ofEvents_eq]; simp [ofEvent_mk]
      refine workStep O hAr h ha hms hx0 hg hgo (.refl w) (fun y _ _ _ => RK.refl y w) (.late (by omega) (by omega) (.k1 hk) hf) (fun e => by omega) (by
        intro op hop
        rw [e1] at hop
        simp at hop
        subst hop
        exact ⟨rfl, O.low, by simp, fun b hb => by cases hb⟩) (by rw [hde]; rfl) (by rw [e1]; exact ho_release hdk ⟨rfl, rfl⟩) hwg
        (fun _ ht _ => (hmode.counted hx0 hx (by omega) (by omega) _ _).retag ht) (.inl ⟨by omega, by simp [cnt, hst]⟩)
    · obtain ⟨g', w', es, hgo, ⟨hac, hev⟩, hg'⟩ := hstep w (RK.refl x w)
      exact workStep O hAr h ha hms hx0 hg hgo (RM.of_x O hx1 (by omega) hac) (hRy (by omega) hac) (.r0 hg') (fun e => by omega) (kw_of_EvK hev hx1 (by omega)) (by rw [hde]; exact deafBehind_idle (fun e he => ⟨(hev e he).1, (hev e he).2.1⟩) 0)
        (fun _ _ _ => .inr (.inl (by omega))) (hwg.of_block (hac.block _ (O.wgHot x))) (fun _ ht _ => Md.retag (by have := hmode.same (x := x) m' 0; rwa [hst] at this) ht) (.inr ⟨hst.symm, by omega⟩)
  | late h6 h2 hW hf =>
    obtain ⟨hx1, hx2⟩ := hran (by omega)
    have hno1 : ∀ {s' : Nat} {es : Array Event}, x ≤ p.J0 → s' = 1 ∧ ∀ e ∈ es, (MemAct.ofEvent e).touch? = none := fun e => absurd e (by omega)
    have hfW : ∀ {w' : World}, Aside p.Wg w w' → Fin p x w' := fun hA => (hA.block _ fun e => O.wgKeep x (e ▸ O.chKeep x hx1 hx2)).trans hf
    cases hW with
    | r0 _ => omega
    | k1 hG =>
      rcases Goes.cases hG with hstop | ⟨m', rfl, hstep⟩
      · obtain ⟨_, g', hgo, m₂, hk⟩ := hstop w (RW.refl w)
        exact book hgo (.refl p.Wg w) hwg (by intro e he; simp at he; subst he; exact .inl rfl) (by intro k e he; exact .inl (by have := Array.mem_of_getElem? he; simp at this; subst this; rfl)) (.late (by omega) (by omega) (.d1 hk) hf) rfl (by omega) hno1
          (hmode.counted hx0 hx (by omega) (by omega) _ _) (.inl ⟨by omega, by simp [cnt, hst]⟩)
      · obtain ⟨g', w', es, hgo, ⟨rfl, rfl⟩, hg'⟩ := hstep w (RW.refl w)
        exact idle hgo (.late h6 h2 (.k1 hg') hf) rfl (by omega) (by omega)
    | d1 hG =>
      rcases Goes.cases hG with hstop | ⟨m', rfl, hstep⟩
      · obtain ⟨_, hall⟩ := hstop w (RW.refl w)
        have hc1 : cnt (D x) = 1 := by simp [cnt, hst]
        have hV1 : 1 ≤ Vc gs.size D := by have := le_sumTo (f := fun y => cnt (D y)) hx; simp only [Vc]; omega
        have bk2 : ∀ e ∈ #[rd (stA p.Wg), wr (stA p.Wg)], Bk p.Wg e := by intro e he; simp at he; rcases he with rfl | rfl <;> exact bk_cell _ _ rfl
        have df2 : ∀ k e, (#[rd (stA p.Wg), wr (stA p.Wg)] : Array Event)[k]? = some e → (MemAct.ofEvent e).touch? = none ∨ 0 < deafBehind 1 ((#[rd (stA p.Wg), wr (stA p.Wg)] : Array Event).extract 0 k) := by
          intro k e he
          match k, he with
          | 0, _ => exact .inr (by simp [deafBehind])
          | 1, _ => exact .inr (by simp [deafBehind, rd])
          | k + 2, he => simp at he
        have hq0 : ∀ q, cnt (⟨1, q, 1⟩ : WD) = 0 := fun _ => rfl
        have hAw : ∀ v : Int, Aside p.Wg w (w.setCell (stA p.Wg) (.int .u64 v)) := fun v => aside_setCell w (stA p.Wg) _
        have opq : ∀ q, OpenS gs.size D → OpenS gs.size (upd D x ⟨1, q, 1⟩) := fun q ho b h0 hb => by
          by_cases e : b = x
          · subst e; rw [upd_same]; exact .inl rfl
          · rw [upd_ne D _ e]; exact ho b h0 hb
        have hn := O.small
        cases hmode with
        | opn h1 h2' h3 =>
          obtain ⟨v, hv⟩ : ∃ v, Vc gs.size D + pend tag = v + 1 := ⟨Vc gs.size D + pend tag - 1, by omega⟩
          rw [hv] at hwg
          have hw1 : WgAt p.ty p.Wg w (((v : Nat) + 1) * KK + ((0 : Nat) : Int)) 0 := by simpa using hwg
          obtain ⟨g', hgo, _, hq⟩ := hall v 0 (by omega) (by omega) hw1
          obtain ⟨q, hq⟩ := hq (by omega)
          have hv' : Vc gs.size (upd D x ⟨1, q, 1⟩) + pend tag = v := by have := vc_upd D (⟨1, q, 1⟩ : WD) hx; have := hq0 q; omega
          refine book hgo (hAw _) (hwg.setSt _) bk2 df2 (.quit hq fun _ _ => hfW (hAw _)) rfl (by omega) hno1 ?_ (.inl ⟨by omega, by simp [cnt]⟩)
          have e : ((v : Nat) : Int) * KK + ((0 : Nat) : Int) = ((Vc gs.size (upd D x ⟨1, q, 1⟩) + pend tag : Nat) : Int) * KK := by rw [hv']; simp
          rw [e]
          exact .opn h1 (opq q h2') (fun vs ev => by have := h3 vs ev; omega)
        | reg h1 h2' h3 =>
          obtain ⟨v, hv⟩ : ∃ v, Vc gs.size D = v + 1 := ⟨Vc gs.size D - 1, by omega⟩
          rw [hv] at hwg
          have hw1 : WgAt p.ty p.Wg w (((v : Nat) + 1) * KK + ((1 : Nat) : Int)) 0 := by simpa using hwg
          obtain ⟨g', hgo, hl, hq⟩ := hall v 1 (by omega) (by omega) hw1
          by_cases hv0 : v = 0
          · subst hv0
            obtain ⟨m₂, hk⟩ := hl ⟨rfl, rfl⟩
            refine book hgo (hAw _) (hwg.setSt _) bk2 df2 (.late (by omega) (by omega) (.d2 hk) (hfW (hAw _))) rfl (by omega) hno1 ?_ (.inl ⟨by omega, by simp [cnt]⟩)
            have hoth : ∀ b, 0 < b → b < gs.size → b ≠ x → (D b).stage = 1 := fun b h0 hb e => by
              have c0 := others_zero hx hv hc1 b hb e
              have := h2' b h0 hb
              simp only [cnt] at c0
              split at c0 <;> omega
            have := Md.last (N := gs.size) (D := upd D x ⟨4, m₂, 1⟩) (tag := tag) x h1 hx0 hx (by rw [upd_same]; simp) (fun b h0 hb e => by rw [upd_ne D _ e]; exact hoth b h0 hb e)
            rw [upd_same] at this
            simpa using this
          · obtain ⟨q, hq⟩ := hq (by omega)
            have hv' : Vc gs.size (upd D x ⟨1, q, 1⟩) = v := by have := vc_upd D (⟨1, q, 1⟩ : WD) hx; have := hq0 q; omega
            refine book hgo (hAw _) (hwg.setSt _) bk2 df2 (.quit hq fun _ _ => hfW (hAw _)) rfl (by omega) hno1 ?_ (.inl ⟨by omega, by simp [cnt]⟩)
            have e : ((v : Nat) : Int) * KK + ((1 : Nat) : Int) = ((Vc gs.size (upd D x ⟨1, q, 1⟩) : Nat) : Int) * KK + 1 := by rw [hv']; simp
            rw [e]
            exact .reg h1 (opq q h2') (by omega)
        | last L _ _ h2' h3 h4 =>
          by_cases e : x = L
          · subst e; omega
          · have := h4 x hx0 hx e; omega
        | sema h2' => have := h2' x hx0 hx; omega
        | fin _ h2' => have := h2' x hx0 hx; omega
      · obtain ⟨g', w', es, hgo, ⟨rfl, rfl⟩, hg'⟩ := hstep w (RW.refl w)
        exact idle hgo (.late h6 h2 (.d1 hg') hf) rfl (by omega) (by omega)
    | d2 hG =>
      rcases Goes.cases hG with hstop | ⟨m', rfl, hstep⟩
      · obtain ⟨_, hxx⟩ := hstop w (RW.refl w)
        obtain ⟨hW3, hoth, rfl, rfl⟩ := hmode.isLast hx0 hx (by omega)
        simp only [hst] at hwg
        obtain ⟨g', hgo, m₂, hk⟩ := hxx (by simpa using hwg)
        refine book hgo (.refl p.Wg w) hwg (by intro e he; simp at he; subst he; exact bk_cell _ _ rfl) (oneCell _ (bk_cell _ _ rfl) (by omega)) (.late (by omega) (by omega) (.d3 hk) hf) rfl (by omega) hno1 ?_ (.inl ⟨by omega, by simp [cnt]⟩)
        have := Md.last (N := gs.size) (D := upd D x ⟨3, m₂, 1⟩) (tag := tag) x hW3 hx0 hx (by rw [upd_same]; simp) (fun b h0 hb e => by rw [upd_ne D _ e]; exact hoth b h0 hb e)
        rw [upd_same] at this
        simpa using this
      · obtain ⟨g', w', es, hgo, ⟨rfl, rfl⟩, hg'⟩ := hstep w (RW.refl w)
        exact idle hgo (.late h6 h2 (.d2 hg') hf) rfl (by omega) (by omega)
    | d3 hG =>
      rcases Goes.cases hG with hstop | ⟨m', rfl, hstep⟩
      · obtain ⟨_, hxx⟩ := hstop w (RW.refl w)
        obtain ⟨hW3, hoth, rfl, rfl⟩ := hmode.isLast hx0 hx (by omega)
        simp only [hst] at hwg
        obtain ⟨g', hgo, m₂, hk⟩ := hxx (by simpa using hwg)
        have hAw : Aside p.Wg w (w.setCell (stA p.Wg) (.int .u64 0)) := aside_setCell w (stA p.Wg) _
        refine book hgo hAw (hwg.setSt 0) (by intro e he; simp at he; subst he; exact bk_cell _ _ rfl) (oneCell _ (bk_cell _ _ rfl) (by omega)) (.late (by omega) (by omega) (.d4 hk) (hfW hAw)) rfl (by omega) hno1 ?_ (.inl ⟨by omega, by simp [cnt]⟩)
        have := Md.last (N := gs.size) (D := upd D x ⟨2, m₂, 1⟩) (tag := tag) x hW3 hx0 hx (by rw [upd_same]; simp) (fun b h0 hb e => by rw [upd_ne D _ e]; exact hoth b h0 hb e)
        rw [upd_same] at this
        simpa using this
      · obtain ⟨g', w', es, hgo, ⟨rfl, rfl⟩, hg'⟩ := hstep w (RW.refl w)
        exact idle hgo (.late h6 h2 (.d3 hg') hf) rfl (by omega) (by omega)
    | d4 hG =>
      rcases Goes.cases hG with hstop | ⟨m', rfl, hstep⟩
      · obtain ⟨_, hmw, hxx⟩ := hstop w (RW.refl w)
        obtain ⟨hW3, hoth, rfl, rfl⟩ := hmode.isLast hx0 hx (by omega)
        simp only [hst] at hwg
        obtain ⟨g', hgo, q, hq⟩ := hxx (by simpa using hwg)
        have hrun' : g'.status = .running := by
          cases q with
          | zero => exact absurd hq.2 (by decide)
          | succ q => exact hq.elim (fun y => absurd y.2 (by decide)) (fun y => y.1)
        have hAw : Aside p.Wg w (w.setCell (smA p.Wg) (.int .u32 1)) := aside_setCell w (smA p.Wg) _
        refine bookG hgo hAw (hwg.setSm 1) (es := semEvents (smA p.Wg)) ?_ ?_ (.quit hq fun _ _ => hfW hAw) (by simp [deafBehind, semEvents]) (by omega) hno1 ?_ (.inl ⟨by omega, by simp [cnt]⟩)
        · intro e he
          simp [semEvents] at he
          rcases he with rfl | rfl | rfl | rfl
          · exact .inl rfl
          · exact bk_cell _ _ rfl
          · exact bk_cell _ _ rfl
          · exact .inr (.inl rfl)
        · intro k e he
          match k, he with
          | 0, he => simp [semEvents] at he; subst he; exact .inl rfl
          | 1, _ => exact .inr (by simp [deafBehind, semEvents])
          | 2, _ => exact .inr (by simp [deafBehind, semEvents])
          | 3, he => simp [semEvents] at he; subst he; exact .inl rfl
          | k + 4, he => simp [semEvents] at he
        · intro tag' ht hw
          have hnb := hw hmw hrun'
          have e3 : tag' = .w3 := by
            rcases ht with rfl | ⟨_, rfl⟩
            · cases tag' <;> first | rfl | exact hW3.elim | exact absurd rfl hnb
            · rfl
          subst e3
          simp only [if_true]
          exact .sema fun b h0 hb => by
            by_cases e : b = x
            · subst e; rw [upd_same]
            · rw [upd_ne D _ e]; exact hoth b h0 hb e
      · obtain ⟨g', w', es, hgo, ⟨rfl, rfl⟩, hg'⟩ := hstep w (RW.refl w)
        exact idle hgo (.late h6 h2 (.d4 hg') hf) rfl (by omega) (by omega)
    | quit _ => omega
  | quit hq hf =>
    cases m with
    | zero => rw [hq.1] at hrun; cases hrun
    | succ q =>
      rcases hq with ⟨hfi, _⟩ | ⟨_, g', es, hmute, hstep, hq⟩
      · rw [hfi] at hrun; cases hrun
      · have hbk : ∀ e ∈ es, Bk p.Wg e := fun e he => bk_of_mute (hmute e he)
        have hno : ∀ k e, es[k]? = some e → (MemAct.ofEvent e).touch? = none ∨ 0 < deafBehind dd (es.extract 0 k) := fun k e he => .inl (touch_mute (hmute e (Array.mem_of_getElem? he)))
        exact book (hstep w) (.refl p.Wg w) hwg hbk hno (.quit hq hf) rfl (by omega) (fun _ => ⟨rfl, fun e he => touch_mute (hmute e he)⟩) (by have := hmode.same (x := x) q (deafBehind dd es); rwa [hst] at this) (.inr ⟨rfl, rfl⟩)
end
end Go.Proofs.Ytjofmchipkfnmaa
