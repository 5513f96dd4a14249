/- Done up to its release says nothing (own text). -/
import Derived.Test.YtfgipjgjehjijaaKg
namespace Go.Proofs.Ytfgipjgjehjijaa
open Go Go.Conc Go.ConcN Go.RowKit Go.Conc.Lib Go.ConcR.Gen Go.ConcN.Gen
open Go.ConcR (KK wgBlock WgAt stA smA rd wr mk Payload DC0)

section
variable {P : Program} {R : World → World → Prop} {D : World → World → Array Event → Prop} {S T : Goroutine → World → Prop}

/-- A walk goes along a silent one. -/
theorem follow (hS : ∀ g w g', stepG P false g w = .go g' w #[] → ¬ S g w) (hr : ∀ w, R w w) : ∀ {k n : Nat} {g : Goroutine} {w : World}, Goes P false R D S n g w → (∀ a b c, R a b → R b c → R a c) → Goes P false R DC0 T k g w →
    Goes P false R DC0 (fun g w => T g w ∧ ∃ n', Goes P false R D S n' g w) k g w
  | 0, n, g, w, K, tr, W => fun w₁ h₁ => ⟨W w₁ h₁, n, K.rely tr h₁⟩
  | k + 1, n, g, w, K, tr, W => by
    rcases W with W | ⟨hs, W⟩
    · exact .inl fun w₁ h₁ => ⟨W w₁ h₁, n, K.rely tr h₁⟩
    · refine .inr ⟨hs, fun w₁ h₁ => ?_⟩
      obtain ⟨g', w', es, e, ⟨rfl, rfl⟩, hn⟩ := goes_elim (W w₁ h₁)
      rw [e]
      refine ⟨⟨rfl, rfl⟩, ?_⟩
      cases n with
      | zero => exact absurd (K _ h₁) (hS _ _ _ e)
      | succ n =>
        rcases K with K | ⟨_, K⟩
        · exact absurd (K _ h₁) (hS _ _ _ e)
        · have := K _ h₁
          rw [e] at this
          exact follow hS hr this.2 tr hn
theorem goes_false (hr : ∀ w, R w w) (hS : ∀ g w, S g w → False) : ∀ {n : Nat} {g : Goroutine} {w : World}, Goes P false R DC0 S n g w → False
  | 0, g, w, h => hS g w (h w (hr w))
  | n + 1, g, w, h => by
    rcases h with h | ⟨_, h⟩
    · exact hS g w (h w (hr w))
    · obtain ⟨g', w', es, _, _, hn⟩ := goes_elim (h w (hr w))
      exact goes_false hr hS hn
/-- It cannot go on to where 'disable' is said. -/
theorem killer (hS : ∀ g w g' es, stepG P false g w = .go g' w es → es = #[] ∨ es = #[mk .disable] → ¬ S g w) (hD : ∀ w w', ¬ D w w' #[mk .disable]) (hr : ∀ w, R w w) (tr : ∀ a b c, R a b → R b c → R a c) {k n : Nat} {g : Goroutine} {w : World}
    (K : Goes P false R D S n g w) (W : Goes P false R DC0 (fun g w => ∃ g', stepG P false g w = .go g' w #[mk .disable]) k g w) : False := by
  refine goes_false hr (fun g w h => ?_) (follow (fun g w g' e => hS g w g' _ e (.inl rfl)) hr K tr W)
  obtain ⟨⟨g', e⟩, n', K'⟩ := h
  cases n' with
  | zero => exact hS _ _ _ _ e (.inr rfl) (K' w (hr w))
  | succ n' =>
    rcases K' with K' | ⟨_, K'⟩
    · exact hS _ _ _ _ e (.inr rfl) (K' w (hr w))
    · have := K' w (hr w)
      rw [e] at this
      exact hD _ _ this.1
end

section
variable {P : Program} {L : WgLink} {Wg C n k : Nat} {val : Value} {c : Frame} {cs : List Frame} {qt : Nat}
set_option maxRecDepth 100000 in
set_option maxHeartbeats 4000000 in
theorem doneK (H : WgLib P L) (hcm : c.mode = .returning) (hT : QuitsD P qt 0 (G c cs)) (w : World) (hK : WgLive L.tWg Wg w ∧ Has C (k - 1) val w) :
    Goes P false (RW L.tWg Wg C n 0 (k - 1)) DC0 (AtR0 P L.tWg Wg C n 0 k val) 40 (G ((baseD L.done).at ⟨#[.pointer (some ⟨Wg, 0, none⟩), undef, undef, undef], []⟩ [.code (body_done L)]) (c :: cs)) w := by
  have K := doneN H (Own := fun _ _ => False) (Rd := fun _ _ => False) (Wg := Wg) (C := C) (n := n) (Low := 0) (k := k) (val := val) hcm hT w hK
  have tr : ∀ a b c, RW L.tWg Wg C n 0 (k - 1) a b → RW L.tWg Wg C n 0 (k - 1) b c → RW L.tWg Wg C n 0 (k - 1) a c := fun _ _ _ h1 h2 => h1.trans h2
  have hS : ∀ g w g', stepG P false g w = .go g' w #[] → ¬ AtR0 P L.tWg Wg C n 0 k val g w := fun g w g' e ⟨_, _, g2, e2, _⟩ => by rw [e] at e2; injection e2 with _ _ e3; cases e3
  have W : Goes P false (RW L.tWg Wg C n 0 (k - 1)) DC0 (fun g w => ∀ n', Goes P false (RW L.tWg Wg C n 0 (k - 1)) (DWs Wg (fun _ _ => False) (fun _ _ => False) C n k) (AtR0 P L.tWg Wg C n 0 k val) n' g w → AtR0 P L.tWg Wg C n 0 k val g w) 40
      (G ((baseD L.done).at ⟨#[.pointer (some ⟨Wg, 0, none⟩), undef, undef, undef], []⟩ [.code (body_done L)]) (c :: cs)) w := by
    clear K
    lib_facts
    simp only [body_done, doneFn, Option.getD_some]
    u_reg kn_rely hK
    u_op kn_rely hK
    u_call H.f_add (nm_add L) addFn kn_rely hK
    u_c stepG_seq kn_rely hK
    u_cond true kn_rely hK
    u_c stepG_seq kn_rely hK
    u_c stepG_seq kn_rely hK
    u_reg kn_rely hK
    u_op kn_rely hK
    u_op kn_rely hK
    u_c stepG_region_end kn_rely hK
    u_cond true kn_rely hK
    u_reg kn_rely hK
    u_op kn_rely hK
    u_conv H.underlying_tWgP H.room_tWg (WgLive.cell0 hK.1).choose_spec kn_rely hK
    refine Goes.stop (fun w₁ h₁ => ?_)
    replace hK := kn_rely hK h₁
    clear h₁
    intro n' K
    have hS3 : ∀ g w g' es, stepG P false g w = .go g' w es → es = #[] ∨ es = #[mk .disable] → ¬ AtR0 P L.tWg Wg C n 0 k val g w := fun g w g' es e he ⟨_, _, g2, e2, _⟩ => by
      rw [e] at e2
      injection e2 with _ _ e3
      rcases he with rfl | rfl
      · cases e3
      · simp [mk] at e3
    have hD3 : ∀ w w', ¬ DWs Wg (fun _ _ => False) (fun _ _ => False) C n k w w' #[mk .disable] := fun w w' h => (h.2 (mk .disable) (by simp)).2.1 rfl
    cases n' with
    | zero => exact K _ (RW.refl w₁)
    | succ n' =>
      rcases K with K | ⟨_, K⟩
      · exact K _ (RW.refl w₁)
      · exfalso
        have h2 := K w₁ (RW.refl w₁)
        rw [stepG_markAt .releaseMerge (by simp) rfl rfl (by k_ne) rfl H.f_relMerge (x_relMerge_n L) (x_relMerge_b L) (x_relMerge_x L) (x_relMerge_f L) (ad := ⟨Wg, 0, none⟩) (by simp [Act.eval])] at h2
        simp only [goes_go] at h2
        refine killer (k := 4) hS3 hD3 (fun w => RW.refl w) tr h2.2 ?_
        clear h2 K hS3 hD3
        walk_nrm
        u_c stepG_region_end kn_rely hK
        u_c stepG_seq kn_rely hK
        u_reg kn_rely hK
        refine Goes.stop (fun w₂ _ => ⟨_, stepG_mark0 .disable (by simp) rfl rfl (by k_ne) rfl H.f_disable (x_disable_n L) (x_disable_b L) (x_disable_x L) (x_disable_f L)⟩)
  have F := follow hS (fun w => RW.refl w) K tr W
  exact goes_turn (I := fun _ => True) (fun _ _ _ h => ⟨h, trivial⟩) (fun _ _ _ _ h => ⟨h, trivial⟩) (fun g w _ h => by obtain ⟨h1, n', h2⟩ := h; exact h1 n' h2) trivial F
end
end Go.Proofs.Ytfgipjgjehjijaa
