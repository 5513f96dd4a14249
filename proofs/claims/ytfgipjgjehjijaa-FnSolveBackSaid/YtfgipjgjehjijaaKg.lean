/- The walks of sync.WaitGroup's Add and Wait beside goroutines of one's own (own text; printed by gen_kg.py). -/
import Derived.Test.YtfgipjgjehjijaaKf
import Derived.Conc.WgGenN3
namespace Go.Proofs.Ytfgipjgjehjijaa
open Go Go.Conc Go.ConcN Go.RowKit Go.Conc.Lib Go.ConcR.Gen Go.ConcN.Gen
open Go.ConcR (KK wgBlock WgAt stA smA rd wr mk Payload DC0)

section
variable {p : Plan} {j : Nat}

theorem dc0_dm {w w' : World} {es : Array Event} (h : DC0 w w' es) : DM p j w w' es := by
  obtain ⟨rfl, rfl⟩ := h
  exact ⟨⟨rfl, fun _ _ _ _ _ => rfl⟩, fun e he => by simp at he⟩

theorem goes_more {P : Program} {main : Bool} {R : World → World → Prop} {D : World → World → Array Event → Prop} {S : Goroutine → World → Prop} {m : Nat} : ∀ (k : Nat) {g : Goroutine} {w : World}, Goes P main R D S m g w → Goes P main R D S (m + k) g w
  | 0, _, _, h => h
  | k + 1, _, _, h => (goes_more k h).more

/-- A silent stretch ahead of a walk. -/
theorem goes_seg {P : Program} {S : Goroutine → World → Prop} {m : Nat} : ∀ {n : Nat} {g : Goroutine} {w : World}, Goes P true (RM p j) DC0 (fun g w => Goes P true (RM p j) (DM p j) S m g w) n g w → Goes P true (RM p j) (DM p j) S (m + n) g w
  | 0, g, w, h => h w (.refl w)
  | n + 1, g, w, h => by
    rcases h with h | ⟨hs, h⟩
    · exact goes_more _ (h w (.refl w))
    · refine .inr ⟨hs, fun w₁ h₁ => ?_⟩
      obtain ⟨g', w', es, e, hd, hn⟩ := goes_elim (h w₁ h₁)
      rw [e]
      exact ⟨dc0_dm hd, goes_seg hn⟩

theorem fl {F : World → Prop} (hF2 : ∀ w w', RM p j w w' → F w → F w') {w w₁ : World} (h : F w ∧ WgLive p.ty p.Wg w) (r : RM p j w w₁) : F w₁ ∧ WgLive p.ty p.Wg w₁ := ⟨hF2 _ _ r h.1, r.live h.2⟩
theorem fa {F : World → Prop} (hF2 : ∀ w w', RM p j w w' → F w → F w') {w w₁ : World} (h : F w ∧ WgLive p.ty p.Wg w) (r : AtRel w w₁) : F w₁ ∧ WgLive p.ty p.Wg w₁ := by
  obtain ⟨d, rfl⟩ := r
  exact ⟨hF2 _ _ (.at w d) h.1, h.2⟩
theorem fl_set {F : World → Prop} (hF2 : ∀ w w', RM p j w w' → F w → F w') {w : World} (h : F w ∧ WgLive p.ty p.Wg w) {a : Addr} {v : Value} {st sm : Int} (ha : a.block = p.Wg) (hw : WgAt p.ty p.Wg (w.setCell a v) st sm) :
    F (w.setCell a v) ∧ WgLive p.ty p.Wg (w.setCell a v) := ⟨hF2 _ _ (.of_wg (ha ▸ aside_setCell w a v) ⟨_, _, hw⟩) h.1, ⟨_, _, hw⟩⟩

theorem evM_said (O : p.Ok) (m : Addr → Mark) (hm : m = .read ∨ m = .write) {a : Addr} (h : a.block = p.Wg) : ∀ e ∈ (#[⟨.mark (m a), false, true⟩] : Array Event), EvM p j e := by
  intro e he
  rw [Array.mem_singleton] at he
  subst he
  have hb : a.block < p.B := by have := O.low; omega
  rcases hm with rfl | rfl
  all_goals
    refine ⟨by simp, by simp, by simp, hb, fun b hb' => ?_⟩
    simp only [MemAct.ofEvent, MemAct.touch?, Option.some.injEq] at hb'
    subst hb'
    refine ⟨fun _ => by simp, fun _ y _ _ ⟨c, hc, hk⟩ => ?_⟩
    cases hc
    exact O.wgKeep y (h ▸ hk)

variable {F : World → Prop} {b₀ : Frame} {a₀ : Act} {ops₀ : Array Oper} {i₀ : Nat} {rest₀ : List Nat} {k₀ : List Item} {cs : List Frame} {mT : Nat} {L : WgLink}

set_option maxRecDepth 100000 in
set_option maxHeartbeats 16000000 in
/-- Add(1). -/
theorem addM (O : p.Ok) (H : WgLib p.P L) (hF2 : ∀ w w', RM p j w w' → F w → F w') {Next : Goroutine → World → Prop}
    (hT : ∀ w, F w → WgLive p.ty p.Wg w → Goes p.P true (RM p j) (DM p j) (MGo p j Next) mT (G (b₀.at (a₀.put ((ops₀[i₀]?).bind (·.dst)) (.tuple #[])) (.inRegion ops₀ rest₀ :: k₀)) cs) w)
    (w : World) (hF : F w ∧ WgLive p.ty p.Wg w) :
    Goes p.P true (RM p j) (DM p j) (MKdS p j Next) 60
      (G ((base L.add).at ⟨#[.pointer (some ⟨p.Wg, 0, none⟩), .int .i64 1, undef, undef, undef, undef, undef, undef, undef, undef, undef, undef, undef, undef, undef, undef, undef, undef, undef, undef, undef, undef, undef, undef, undef, undef, undef, undef, undef, undef, undef, undef, undef, undef, undef, undef, undef, undef, undef, undef, undef, undef, undef, undef, undef, undef, undef, undef, undef, undef, undef, undef, undef, undef, undef, undef, undef, undef, undef, undef, undef, undef, undef, undef, undef, undef, undef, undef, undef, undef, undef, undef, undef, undef, undef, undef, undef, undef, undef, undef, undef, undef, undef, undef, undef, undef, undef, undef, undef, undef, undef, undef, undef, undef, undef, undef, undef, undef, undef, undef, undef, undef, undef, undef, undef, undef, undef, undef, undef, undef, undef, undef, undef, undef, undef, undef, undef], []⟩ [.code (body_add L)]) (b₀.at a₀ (.inRegion ops₀ (i₀ :: rest₀) :: k₀) :: cs)) w := by
  lib_facts
  simp only [body_add, addFn, Option.getD_some]
  refine goes_seg (m := 0) (n := 60) ?_
  u_c stepG_seq (fl hF2) hF
  u_cond true (fl hF2) hF
  u_c stepG_seq (fl hF2) hF
  u_c stepG_seq (fl hF2) hF
  u_reg (fl hF2) hF
  u_op (fl hF2) hF
  u_op (fl hF2) hF
  u_c stepG_region_end (fl hF2) hF
  u_cond false (fl hF2) hF
  u_c stepG_skip (fl hF2) hF
  u_c stepG_seq (fl hF2) hF
  u_reg (fl hF2) hF
  refine Goes.stop (fun w₉ h₉ => ?_)
  replace hF := fl hF2 hF h₉
  clear h₉
  refine Goes.stop (fun w₉ h₉ => ?_)
  replace hF := fl hF2 hF h₉
  clear h₉
  refine ⟨rfl, _, stepG_mark0 .disable (by simp) rfl rfl (by k_ne) rfl H.f_disable (x_disable_n L) (x_disable_b L) (x_disable_x L) (x_disable_f L), _, goes_seg (m := 0) (n := 60) ?_⟩
  walk_nrm
  u_c stepG_region_end (fl hF2) hF
  u_reg (fl hF2) hF
  u_defer (fl hF2) hF
  u_c stepG_region_end (fl hF2) hF
  u_c stepG_seq (fl hF2) hF
  u_reg (fl hF2) hF
  u_op (fl hF2) hF
  u_c stepG_region_end (fl hF2) hF
  u_c stepG_seq (fl hF2) hF
  u_c stepG_seq (fl hF2) hF
  u_reg (fl hF2) hF
  u_bub (fl hF2) hF
  u_c stepG_region_end (fl hF2) hF
  u_cond false (fl hF2) hF
  u_c stepG_skip (fl hF2) hF
  u_c stepG_seq (fl hF2) hF
  u_reg (fl hF2) hF
  u_op (fl hF2) hF
  u_op (fl hF2) hF
  u_op (fl hF2) hF
  u_op (fl hF2) hF
  u_op (fl hF2) hF
  u_op (fl hF2) hF
  u_call H.f_uAdd (nm_uAdd L) uAddFn (fl hF2) hF
  u_c stepG_seq (fl hF2) hF
  u_reg (fl hF2) hF
  u_op (fl hF2) hF
  u_c stepG_region_end (fl hF2) hF
  u_c stepG_seq (fl hF2) hF
  u_reg (fl hF2) hF
  u_op (fl hF2) hF
  u_op (fl hF2) hF
  u_op (fl hF2) hF
  u_op (fl hF2) hF
  refine Goes.stop (fun w₉ h₉ => ?_)
  replace hF := fl hF2 hF h₉
  clear h₉
  refine Goes.stop (fun w₉ h₉ => ?_)
  replace hF := fl hF2 hF h₉
  clear h₉
  refine ⟨rfl, fun v hv hw => ?_⟩
  rcases Nat.eq_zero_or_pos v with rfl | hvp
  · replace hw : WgAt p.ty p.Wg w₉ 0 0 := by simpa using hw
    have z : (((0 : Nat) : Int) + 1) * KK = KK := by simp
    rw [z]
    have e0 : IntKind.u64.wrap (0 + 4294967296) = KK := by decide
    refine ⟨_, (stepG_add_atomic rfl rfl (by k_ne) rfl H.f_addU64 (x_addU64_n L) (x_addU64_b L) (x_addU64_x L) .u64 (x_addU64_f L) rfl rfl hw.cellSt (hw.thaw 0)).trans (by rw [e0]; rfl), _, goes_seg (m := 60) (n := 60) ?_⟩
    replace hF := fl_set hF2 hF (a := stA p.Wg) (v := .int .u64 KK) rfl (hw.setSt _)
    clear hw
    simp only [KK] at hF ⊢
    walk_nrm
    u_op (fl hF2) hF
    u_c stepG_region_end (fl hF2) hF
    u_c stepG_ret' (fl hF2) hF
    u_leave1 H.f_uAdd (fl hF2) hF
    u_op (fl hF2) hF
    u_c stepG_region_end (fl hF2) hF
    u_c stepG_seq (fl hF2) hF
    u_c stepG_seq (fl hF2) hF
    u_reg (fl hF2) hF
    u_op (fl hF2) hF
    u_op (fl hF2) hF
    u_op (fl hF2) hF
    u_op (fl hF2) hF
    u_skip (fl hF2) hF
    u_skip (fl hF2) hF
    u_op (fl hF2) hF
    u_c stepG_region_end (fl hF2) hF
    u_cond false (fl hF2) hF
    u_c stepG_skip (fl hF2) hF
    u_c stepG_seq (fl hF2) hF
    u_reg (fl hF2) hF
    u_op (fl hF2) hF
    u_op (fl hF2) hF
    u_op (fl hF2) hF
    u_op (fl hF2) hF
    u_c stepG_region_end (fl hF2) hF
    u_c stepG_seq (fl hF2) hF
    u_reg (fl hF2) hF
    u_op (fl hF2) hF
    u_op (fl hF2) hF
    u_op (fl hF2) hF
    u_op (fl hF2) hF
    u_c stepG_region_end (fl hF2) hF
    u_c stepG_seq (fl hF2) hF
    u_c stepG_seq (fl hF2) hF
    u_reg (fl hF2) hF
    u_op (fl hF2) hF
    u_op (fl hF2) hF
    u_op (fl hF2) hF
    u_op (fl hF2) hF
    u_op (fl hF2) hF
    u_op (fl hF2) hF
    u_op (fl hF2) hF
    u_op (fl hF2) hF
    u_op (fl hF2) hF
    u_op (fl hF2) hF
    u_c stepG_region_end (fl hF2) hF
    u_cond true (fl hF2) hF
    u_reg (fl hF2) hF
    u_op (fl hF2) hF
    u_op (fl hF2) hF
    u_op (fl hF2) hF
    u_in (fl hF2) hF
    refine goes_oper_k rfl rfl (by k_ne) (fun Kx hKx => ?_)
    have hcv := run_convert_to_unsafe (P := p.P) H.underlying_tPU32 H.underlying_tUP H.room_tU32 (WgLive.cell1 hF.2).choose_spec
    have hce := fun es => events_convert_to_unsafe (P := p.P) H.underlying_tPU32 H.underlying_tUP H.room_tU32 (WgLive.cell1 hF.2).choose_spec es
    go_simp
    refine hKx _ _ ⟨?_, ?_⟩
    · u_none
      intro ex hex
      have hmx := mem_listed hex
      simp [go_sem, hce] at hmx
    clear hKx Kx hcv hce
    refine Goes.stop (fun w₉ h₉ => ?_)
    replace hF := fl hF2 hF h₉
    clear h₉
    refine Goes.step rfl (fun w₉ h₉ => ?_)
    replace hF := fl hF2 hF h₉
    clear h₉
    rw [stepG_markAt .read (by simp) rfl rfl (by k_ne) rfl H.f_raceRead (x_raceRead_n L) (x_raceRead_b L) (x_raceRead_x L) (x_raceRead_f L) (ad := ⟨p.Wg, 1, none⟩) (by simp [Act.eval] <;> rfl)]
    simp only [goes_go]
    refine ⟨⟨⟨rfl, fun _ _ _ _ _ => rfl⟩, evM_said O .read (by simp) rfl⟩, ?_⟩
    refine goes_seg (m := 0) (n := 59) ?_
    walk_nrm
    u_c stepG_region_end (fl hF2) hF
    u_c stepG_seq (fl hF2) hF
    u_c stepG_seq (fl hF2) hF
    u_reg (fl hF2) hF
    u_op (fl hF2) hF
    u_op (fl hF2) hF
    u_c stepG_region_end (fl hF2) hF
    u_cond false (fl hF2) hF
    u_c stepG_skip (fl hF2) hF
    u_c stepG_seq (fl hF2) hF
    u_c stepG_seq (fl hF2) hF
    u_reg (fl hF2) hF
    u_op (fl hF2) hF
    u_op (fl hF2) hF
    u_op (fl hF2) hF
    u_skip (fl hF2) hF
    u_skip (fl hF2) hF
    u_op (fl hF2) hF
    u_op (fl hF2) hF
    u_skip (fl hF2) hF
    u_skip (fl hF2) hF
    u_skip (fl hF2) hF
    u_skip (fl hF2) hF
    u_op (fl hF2) hF
    u_c stepG_region_end (fl hF2) hF
    u_cond false (fl hF2) hF
    u_c stepG_skip (fl hF2) hF
    u_c stepG_seq (fl hF2) hF
    u_c stepG_seq (fl hF2) hF
    u_reg (fl hF2) hF
    u_op (fl hF2) hF
    u_op (fl hF2) hF
    u_op (fl hF2) hF
    u_skip (fl hF2) hF
    u_skip (fl hF2) hF
    u_op (fl hF2) hF
    u_c stepG_region_end (fl hF2) hF
    u_cond true (fl hF2) hF
    u_c stepG_ret' (fl hF2) hF
    refine Goes.stop (fun w₉ h₉ => ?_)
    replace hF := fl hF2 hF h₉
    clear h₉
    refine Goes.stop (fun w₉ h₉ => ?_)
    replace hF := fl hF2 hF h₉
    clear h₉
    refine ⟨rfl, _, stepG_unwind_entry (v := .tuple #[]) (evs := #[mk .enable]) rfl H.f_enable (x_enable_n L) (x_enable_b L) (x_enable_x L) (x_enable_f L) (by simp [Extern.Race.none_]) (by simp [mk]) (by simp [mk]), _, goes_seg (m := mT) (n := 1) ?_⟩
    u_leave0 H.f_add (fl hF2) hF
    exact Goes.stop fun w₉ h₉ => have := fl hF2 hF h₉; hT _ this.1 this.2
  · obtain ⟨V, hV⟩ : ∃ V : Int, V = (v : Int) + 1 := ⟨_, rfl⟩
    obtain ⟨S, hS⟩ : ∃ S : Int, S = V * KK := ⟨_, rfl⟩
    have eS : IntKind.u64.wrap ((v : Int) * KK + 4294967296) = S := by rw [IntKind.wrap_u64, hS, hV]; simp only [KK]; omega
    rw [← hV, ← hS]
    have a1 : S / 4294967296 = V := by rw [hS]; simp only [KK]; omega
    have b1 : bits .and .u64 S 2147483648 = 0 := by rw [hS, hV]; have := st_flag (v + 1) 0 (by omega) (by omega); simpa [KK] using this
    have b2 : bits .and .u64 S 2147483647 = 0 := by rw [hS, hV]; have := st_waiters (v + 1) 0 (by omega) (by omega); simpa [KK] using this
    have c1 : IntKind.i32.wrap V = V := by rw [IntKind.wrap_i32]; omega
    have hV1 : 1 < V := by omega
    have hV2 : V < 2147483648 := by omega
    have q1 : (V == 1) = false := by simp; omega
    have q2 : decide (V = 1) = false := decide_eq_false (by omega)
    have q3 : decide (V < 0) = false := decide_eq_false (by omega)
    have q4 : decide (0 < V) = true := decide_eq_true (by omega)
    have q5 : (V == 0) = false := by simp; omega
    have q6 : decide (V = 0) = false := decide_eq_false (by omega)
    refine ⟨_, (stepG_add_atomic rfl rfl (by k_ne) rfl H.f_addU64 (x_addU64_n L) (x_addU64_b L) (x_addU64_x L) .u64 (x_addU64_f L) rfl rfl hw.cellSt (hw.thaw 0)).trans (by rw [eS]; rfl), _, goes_seg (m := 0) (n := 110) ?_⟩
    replace hF := fl_set hF2 hF (a := stA p.Wg) (v := .int .u64 S) rfl (hw.setSt _)
    clear hw hS hV eS
    walk_nrm
    u_op (fl hF2) hF
    u_c stepG_region_end (fl hF2) hF
    u_c stepG_ret' (fl hF2) hF
    u_leave1 H.f_uAdd (fl hF2) hF
    u_op (fl hF2) hF
    u_c stepG_region_end (fl hF2) hF
    u_c stepG_seq (fl hF2) hF
    u_c stepG_seq (fl hF2) hF
    u_reg (fl hF2) hF
    u_op (fl hF2) hF
    u_op (fl hF2) hF
    u_op (fl hF2) hF
    u_op (fl hF2) hF
    u_skip (fl hF2) hF
    u_skip (fl hF2) hF
    u_op (fl hF2) hF
    u_c stepG_region_end (fl hF2) hF
    u_cnd false (fl hF2) hF
    u_c stepG_skip (fl hF2) hF
    u_c stepG_seq (fl hF2) hF
    u_reg (fl hF2) hF
    u_op (fl hF2) hF
    u_op (fl hF2) hF
    u_op (fl hF2) hF
    u_op (fl hF2) hF
    u_c stepG_region_end (fl hF2) hF
    u_c stepG_seq (fl hF2) hF
    u_reg (fl hF2) hF
    u_op (fl hF2) hF
    u_op (fl hF2) hF
    u_op (fl hF2) hF
    u_op (fl hF2) hF
    u_c stepG_region_end (fl hF2) hF
    u_c stepG_seq (fl hF2) hF
    u_c stepG_seq (fl hF2) hF
    u_reg (fl hF2) hF
    u_op (fl hF2) hF
    u_op (fl hF2) hF
    u_op (fl hF2) hF
    u_op (fl hF2) hF
    u_op (fl hF2) hF
    u_op (fl hF2) hF
    u_op (fl hF2) hF
    u_op (fl hF2) hF
    u_op (fl hF2) hF
    u_op (fl hF2) hF
    u_c stepG_region_end (fl hF2) hF
    u_cnd false (fl hF2) hF
    u_c stepG_skip (fl hF2) hF
    u_c stepG_seq (fl hF2) hF
    u_c stepG_seq (fl hF2) hF
    u_reg (fl hF2) hF
    u_op (fl hF2) hF
    u_op (fl hF2) hF
    u_c stepG_region_end (fl hF2) hF
    u_cnd false (fl hF2) hF
    u_c stepG_skip (fl hF2) hF
    u_c stepG_seq (fl hF2) hF
    u_c stepG_seq (fl hF2) hF
    u_reg (fl hF2) hF
    u_op (fl hF2) hF
    u_op (fl hF2) hF
    u_op (fl hF2) hF
    u_skip (fl hF2) hF
    u_skip (fl hF2) hF
    u_op (fl hF2) hF
    u_op (fl hF2) hF
    u_skip (fl hF2) hF
    u_skip (fl hF2) hF
    u_skip (fl hF2) hF
    u_skip (fl hF2) hF
    u_op (fl hF2) hF
    u_c stepG_region_end (fl hF2) hF
    u_cnd false (fl hF2) hF
    u_c stepG_skip (fl hF2) hF
    u_c stepG_seq (fl hF2) hF
    u_c stepG_seq (fl hF2) hF
    u_reg (fl hF2) hF
    u_op (fl hF2) hF
    u_op (fl hF2) hF
    u_op (fl hF2) hF
    u_skip (fl hF2) hF
    u_skip (fl hF2) hF
    u_op (fl hF2) hF
    u_c stepG_region_end (fl hF2) hF
    u_cnd true (fl hF2) hF
    u_c stepG_ret' (fl hF2) hF
    refine Goes.stop (fun w₉ h₉ => ?_)
    replace hF := fl hF2 hF h₉
    clear h₉
    refine Goes.stop (fun w₉ h₉ => ?_)
    replace hF := fl hF2 hF h₉
    clear h₉
    refine ⟨rfl, _, stepG_unwind_entry (v := .tuple #[]) (evs := #[mk .enable]) rfl H.f_enable (x_enable_n L) (x_enable_b L) (x_enable_x L) (x_enable_f L) (by simp [Extern.Race.none_]) (by simp [mk]) (by simp [mk]), _, goes_seg (m := mT) (n := 1) ?_⟩
    u_leave0 H.f_add (fl hF2) hF
    exact Goes.stop fun w₉ h₉ => have := fl hF2 hF h₉; hT _ this.1 this.2

/-- Behind Wait. -/
def Left (P : Program) (F : World → Prop) (ρ : Goroutine) (g : Goroutine) (w : World) : Prop := ∃ m, Goes P true AtRel DC0 (fun g w => g = ρ ∧ F w) m g w
/-- At the head of Wait's loop. -/
def Head (p : Plan) (L : WgLink) (F : World → Prop) (c : Frame) (cs : List Frame) (g : Goroutine) (w : World) : Prop :=
  ∃ T : Array Value, g = G ((base L.wait).at ⟨T, []⟩ [.code (L7 L), .inLoop (L7 L), .inBlock 0]) (c :: cs) ∧ T.size = 84 ∧ T[0]? = some (.pointer (some ⟨p.Wg, 0, none⟩)) ∧ F w ∧ WgLive p.ty p.Wg w

set_option maxRecDepth 100000 in
set_option maxHeartbeats 16000000 in
theorem waitStart (H : WgLib p.P L) (hF2 : ∀ w w', RM p p.n w w' → F w → F w') (w : World) (hF : F w ∧ WgLive p.ty p.Wg w) :
    Goes p.P true (RM p p.n) (DM p p.n) (MKd p (Head p L F (b₀.at a₀ (.inRegion ops₀ (i₀ :: rest₀) :: k₀)) cs)) 10
      (G ((base L.wait).at ⟨#[.pointer (some ⟨p.Wg, 0, none⟩), undef, undef, undef, undef, undef, undef, undef, undef, undef, undef, undef, undef, undef, undef, undef, undef, undef, undef, undef, undef, undef, undef, undef, undef, undef, undef, undef, undef, undef, undef, undef, undef, undef, undef, undef, undef, undef, undef, undef, undef, undef, undef, undef, undef, undef, undef, undef, undef, undef, undef, undef, undef, undef, undef, undef, undef, undef, undef, undef, undef, undef, undef, undef, undef, undef, undef, undef, undef, undef, undef, undef, undef, undef, undef, undef, undef, undef, undef, undef, undef, undef, undef, undef], []⟩ [.code (body_wait L)]) (b₀.at a₀ (.inRegion ops₀ (i₀ :: rest₀) :: k₀) :: cs)) w := by
  lib_facts
  simp only [body_wait, waitFn, Option.getD_some]
  refine goes_seg (m := 0) (n := 10) ?_
  u_c stepG_seq (fl hF2) hF
  u_cond true (fl hF2) hF
  u_reg (fl hF2) hF
  refine Goes.stop (fun w₉ h₉ => ?_)
  replace hF := fl hF2 hF h₉
  clear h₉
  refine Goes.stop (fun w₉ h₉ => ?_)
  replace hF := fl hF2 hF h₉
  clear h₉
  refine ⟨rfl, _, stepG_mark0 .disable (by simp) rfl rfl (by k_ne) rfl H.f_disable (x_disable_n L) (x_disable_b L) (x_disable_x L) (x_disable_f L), _, goes_seg (m := 0) (n := 10) ?_⟩
  walk_nrm
  u_c stepG_region_end (fl hF2) hF
  u_c stepG_block (fl hF2) hF
  u_c stepG_loop (fl hF2) hF
  refine Goes.stop (fun w₉ h₉ => ?_)
  replace hF := fl hF2 hF h₉
  clear h₉
  refine Goes.stop (fun w₉ h₉ => ?_)
  replace hF := fl hF2 hF h₉
  clear h₉
  exact ⟨_, rfl, by simp, by simp, hF⟩

set_option maxRecDepth 100000 in
set_option maxHeartbeats 16000000 in
theorem waitRound (O : p.Ok) (H : WgLib p.P L) (hF2 : ∀ w w', RM p p.n w w' → F w → F w') (g : Goroutine) (w : World) (h : Head p L F (b₀.at a₀ (.inRegion ops₀ (i₀ :: rest₀) :: k₀)) cs g w) :
    ∃ m, Goes p.P true (RM p p.n) (DM p p.n) (MW1 p (Left p.P F (G (b₀.at (a₀.put ((ops₀[i₀]?).bind (·.dst)) (.tuple #[])) (.inRegion ops₀ rest₀ :: k₀)) cs)) (Head p L F (b₀.at a₀ (.inRegion ops₀ (i₀ :: rest₀) :: k₀)) cs)) m g w := by
  lib_facts
  obtain ⟨T, rfl, hT84, t0, hF⟩ := h
  obtain ⟨v0, v1, v2, v3, v4, v5, v6, v7, v8, v9, v10, v11, v12, v13, v14, v15, v16, v17, v18, v19, v20, v21, v22, v23, v24, v25, v26, v27, v28, v29, v30, v31, v32, v33, v34, v35, v36, v37, v38, v39, v40, v41, v42, v43, v44, v45, v46, v47, v48, v49, v50, v51, v52, v53, v54, v55, v56, v57, v58, v59, v60, v61, v62, v63, v64, v65, v66, v67, v68, v69, v70, v71, v72, v73, v74, v75, v76, v77, v78, v79, v80, v81, v82, v83, rfl⟩ := array84 T hT84
  simp only [List.getElem?_toArray, List.getElem?_cons_zero, Option.some.injEq] at t0
  subst t0
  simp only [L7, body_wait, waitFn, Option.getD_some]
  refine ⟨_, goes_seg (m := 0) (n := 40) ?_⟩
  u_c stepG_block (fl hF2) hF
  u_c stepG_seq (fl hF2) hF
  u_reg (fl hF2) hF
  u_op (fl hF2) hF
  u_op (fl hF2) hF
  u_op (fl hF2) hF
  u_call H.f_uLoad (nm_uLoad L) uLoadFn (fl hF2) hF
  u_c stepG_seq (fl hF2) hF
  u_reg (fl hF2) hF
  u_op (fl hF2) hF
  u_c stepG_region_end (fl hF2) hF
  u_c stepG_seq (fl hF2) hF
  u_reg (fl hF2) hF
  u_op (fl hF2) hF
  u_op (fl hF2) hF
  u_op (fl hF2) hF
  refine Goes.stop (fun w₉ h₉ => ?_)
  replace hF := fl hF2 hF h₉
  clear h₉
  refine Goes.stop (fun w₉ h₉ => ?_)
  replace hF := fl hF2 hF h₉
  clear h₉
  refine ⟨rfl, fun v hv hw => ?_⟩
  rcases Nat.eq_zero_or_pos v with rfl | hvp
  · replace hw : WgAt p.ty p.Wg w₉ 0 0 := by simpa using hw
    refine ⟨_, stepG_load_atomic (v := 0) rfl rfl (by k_ne) rfl H.f_loadU64 (x_loadU64_n L) (x_loadU64_b L) (x_loadU64_x L) .u64 (x_loadU64_f L) rfl hw.cellSt, fun _ => ⟨_, goes_seg (m := 0) (n := 50) ?_⟩, fun h => absurd rfl h⟩
    clear hw
    walk_nrm
    u_op (fl hF2) hF
    u_c stepG_region_end (fl hF2) hF
    u_c stepG_ret' (fl hF2) hF
    u_leave1 H.f_uLoad (fl hF2) hF
    u_op (fl hF2) hF
    u_c stepG_region_end (fl hF2) hF
    u_c stepG_seq (fl hF2) hF
    u_reg (fl hF2) hF
    u_op (fl hF2) hF
    u_op (fl hF2) hF
    u_op (fl hF2) hF
    u_op (fl hF2) hF
    u_c stepG_region_end (fl hF2) hF
    u_c stepG_seq (fl hF2) hF
    u_reg (fl hF2) hF
    u_op (fl hF2) hF
    u_op (fl hF2) hF
    u_op (fl hF2) hF
    u_op (fl hF2) hF
    u_c stepG_region_end (fl hF2) hF
    u_c stepG_seq (fl hF2) hF
    u_c stepG_seq (fl hF2) hF
    u_reg (fl hF2) hF
    u_op (fl hF2) hF
    u_op (fl hF2) hF
    u_c stepG_region_end (fl hF2) hF
    u_cond true (fl hF2) hF
    u_c stepG_seq (fl hF2) hF
    u_cond true (fl hF2) hF
    u_c stepG_seq (fl hF2) hF
    u_reg (fl hF2) hF
    refine Goes.stop (fun w₉ h₉ => ?_)
    replace hF := fl hF2 hF h₉
    clear h₉
    refine Goes.stop (fun w₉ h₉ => ?_)
    replace hF := fl hF2 hF h₉
    clear h₉
    refine ⟨rfl, _, stepG_mark0 .enable (by simp) rfl rfl (by k_ne) rfl H.f_enable (x_enable_n L) (x_enable_b L) (x_enable_x L) (x_enable_f L), _, goes_seg (m := 0) (n := 12) ?_⟩
    walk_nrm
    u_c stepG_region_end (fl hF2) hF
    u_reg (fl hF2) hF
    u_op (fl hF2) hF
    u_in (fl hF2) hF
    refine goes_oper_k rfl rfl (by k_ne) (fun Kx hKx => ?_)
    have hcv := run_convert_to_unsafe (P := p.P) H.underlying_tWgP H.underlying_tUP H.room_tWg (WgLive.cell0 hF.2).choose_spec
    have hce := fun es => events_convert_to_unsafe (P := p.P) H.underlying_tWgP H.underlying_tUP H.room_tWg (WgLive.cell0 hF.2).choose_spec es
    go_simp
    refine hKx _ _ ⟨?_, ?_⟩
    · u_none
      intro ex hex
      have hmx := mem_listed hex
      simp [go_sem, hce] at hmx
    clear hKx Kx hcv hce
    refine Goes.stop (fun w₉ h₉ => ?_)
    replace hF := fl hF2 hF h₉
    clear h₉
    refine Goes.stop (fun w₉ h₉ => ?_)
    replace hF := fl hF2 hF h₉
    clear h₉
    refine ⟨rfl, _, stepG_markAt .acquire (by simp) rfl rfl (by k_ne) rfl H.f_acquire (x_acquire_n L) (x_acquire_b L) (x_acquire_x L) (x_acquire_f L) (by simp [Act.eval, stA]), rfl, 40, ?_⟩
    walk_nrm
    u_c stepG_region_end (fa hF2) hF
    u_c stepG_seq (fa hF2) hF
    u_c stepG_seq (fa hF2) hF
    u_reg (fa hF2) hF
    u_op (fa hF2) hF
    u_op (fa hF2) hF
    u_op (fa hF2) hF
    u_op (fa hF2) hF
    u_op (fa hF2) hF
    u_op (fa hF2) hF
    u_op (fa hF2) hF
    u_op (fa hF2) hF
    u_skip (fa hF2) hF
    u_skip (fa hF2) hF
    u_op (fa hF2) hF
    u_c stepG_region_end (fa hF2) hF
    u_cond false (fa hF2) hF
    u_c stepG_skip (fa hF2) hF
    u_c stepG_ret' (fa hF2) hF
    u_leave0 H.f_wait (fa hF2) hF
    exact Goes.stop fun _ h₉ => ⟨rfl, (fa hF2 hF h₉).1⟩
  · obtain ⟨S, hS⟩ : ∃ S : Int, (v : Int) * KK = S := ⟨_, rfl⟩
    have a1 : S / 4294967296 = (v : Int) := by rw [← hS]; simp only [KK]; omega
    have b1 : bits .and .u64 S 2147483648 = 0 := by rw [← hS]; have := st_flag v 0 (by omega) (by omega); simpa [KK] using this
    have b2 : bits .and .u64 S 2147483647 = 0 := by rw [← hS]; have := st_waiters v 0 (by omega) (by omega); simpa [KK] using this
    have c1 : IntKind.i32.wrap (v : Int) = (v : Int) := by rw [IntKind.wrap_i32]; omega
    have w1 : IntKind.u64.wrap (S + 1) = S + 1 := by rw [IntKind.wrap_u64, ← hS]; simp only [KK]; omega
    have q3 : decide ((v : Int) < 0) = false := decide_eq_false (by omega)
    have q4 : decide (0 < (v : Int)) = true := decide_eq_true (by omega)
    have q5 : ((v : Int) == 0) = false := by simp; omega
    have q6 : decide ((v : Int) = 0) = false := decide_eq_false (by omega)
    rw [hS] at hw
    refine ⟨_, stepG_load_atomic (v := S) rfl rfl (by k_ne) rfl H.f_loadU64 (x_loadU64_n L) (x_loadU64_b L) (x_loadU64_x L) .u64 (x_loadU64_f L) rfl hw.cellSt, fun h0 => absurd h0 (by omega), fun _ => ⟨_, goes_seg (m := 0) (n := 60) ?_⟩⟩
    clear hw
    walk_nrm
    u_op (fl hF2) hF
    u_c stepG_region_end (fl hF2) hF
    u_c stepG_ret' (fl hF2) hF
    u_leave1 H.f_uLoad (fl hF2) hF
    u_op (fl hF2) hF
    u_c stepG_region_end (fl hF2) hF
    u_c stepG_seq (fl hF2) hF
    u_reg (fl hF2) hF
    u_op (fl hF2) hF
    u_op (fl hF2) hF
    u_op (fl hF2) hF
    u_op (fl hF2) hF
    u_c stepG_region_end (fl hF2) hF
    u_c stepG_seq (fl hF2) hF
    u_reg (fl hF2) hF
    u_op (fl hF2) hF
    u_op (fl hF2) hF
    u_op (fl hF2) hF
    u_op (fl hF2) hF
    u_c stepG_region_end (fl hF2) hF
    u_c stepG_seq (fl hF2) hF
    u_c stepG_seq (fl hF2) hF
    u_reg (fl hF2) hF
    u_op (fl hF2) hF
    u_op (fl hF2) hF
    u_c stepG_region_end (fl hF2) hF
    u_cnd false (fl hF2) hF
    u_c stepG_skip (fl hF2) hF
    u_c stepG_seq (fl hF2) hF
    u_reg (fl hF2) hF
    u_op (fl hF2) hF
    u_op (fl hF2) hF
    u_op (fl hF2) hF
    u_op (fl hF2) hF
    u_op (fl hF2) hF
    u_op (fl hF2) hF
    u_call H.f_uCas (nm_uCas L) uCasFn (fl hF2) hF
    u_c stepG_seq (fl hF2) hF
    u_reg (fl hF2) hF
    u_op (fl hF2) hF
    u_c stepG_region_end (fl hF2) hF
    u_c stepG_seq (fl hF2) hF
    u_reg (fl hF2) hF
    u_op (fl hF2) hF
    u_op (fl hF2) hF
    u_op (fl hF2) hF
    u_op (fl hF2) hF
    u_op (fl hF2) hF
    refine Goes.stop (fun w₉ h₉ => ?_)
    replace hF := fl hF2 hF h₉
    clear h₉
    refine Goes.stop (fun w₉ h₉ => ?_)
    replace hF := fl hF2 hF h₉
    clear h₉
    refine ⟨rfl, fun v' hv' hw => ⟨fun e => ?_, fun e => ?_⟩⟩
    · subst e
      rw [hS] at hw ⊢
      refine ⟨_, (stepG_cas_hit (v := S) (n := S + 1) rfl rfl (by k_ne) rfl H.f_casU64 (x_casU64_n L) (x_casU64_b L) (x_casU64_x L) .u64 (x_casU64_f L) rfl rfl rfl hw.cellSt (hw.thaw 0)).trans (by rfl), _, goes_seg (m := 60) (n := 40) ?_⟩
      replace hF := fl_set hF2 hF (a := stA p.Wg) (v := .int .u64 (S + 1)) rfl (hw.setSt _)
      clear hw
      walk_nrm
      u_op (fl hF2) hF
      u_c stepG_region_end (fl hF2) hF
      u_c stepG_ret' (fl hF2) hF
      u_leave1 H.f_uCas (fl hF2) hF
      u_c stepG_region_end (fl hF2) hF
      u_cond true (fl hF2) hF
      u_c stepG_seq (fl hF2) hF
      u_c stepG_seq (fl hF2) hF
      u_reg (fl hF2) hF
      u_op (fl hF2) hF
      u_op (fl hF2) hF
      u_op (fl hF2) hF
      u_op (fl hF2) hF
      u_c stepG_region_end (fl hF2) hF
      u_cond true (fl hF2) hF
      u_reg (fl hF2) hF
      u_op (fl hF2) hF
      u_op (fl hF2) hF
      u_op (fl hF2) hF
      u_in (fl hF2) hF
      refine goes_oper_k rfl rfl (by k_ne) (fun Kx hKx => ?_)
      have hcv := run_convert_to_unsafe (P := p.P) H.underlying_tPU32 H.underlying_tUP H.room_tU32 (WgLive.cell1 hF.2).choose_spec
      have hce := fun es => events_convert_to_unsafe (P := p.P) H.underlying_tPU32 H.underlying_tUP H.room_tU32 (WgLive.cell1 hF.2).choose_spec es
      go_simp
      refine hKx _ _ ⟨?_, ?_⟩
      · u_none
        intro ex hex
        have hmx := mem_listed hex
        simp [go_sem, hce] at hmx
      clear hKx Kx hcv hce
      refine Goes.stop (fun w₉ h₉ => ?_)
      replace hF := fl hF2 hF h₉
      clear h₉
      refine Goes.step rfl (fun w₉ h₉ => ?_)
      replace hF := fl hF2 hF h₉
      clear h₉
      rw [stepG_markAt .write (by simp) rfl rfl (by k_ne) rfl H.f_raceWrite (x_raceWrite_n L) (x_raceWrite_b L) (x_raceWrite_x L) (x_raceWrite_f L) (ad := ⟨p.Wg, 1, none⟩) (by simp [Act.eval] <;> rfl)]
      simp only [goes_go]
      refine ⟨⟨⟨rfl, fun _ _ _ _ _ => rfl⟩, evM_said O .write (by simp) rfl⟩, ?_⟩
      refine goes_seg (m := 0) (n := 59) ?_
      walk_nrm
      u_c stepG_region_end (fl hF2) hF
      u_c stepG_seq (fl hF2) hF
      u_reg (fl hF2) hF
      u_op (fl hF2) hF
      u_c stepG_region_end (fl hF2) hF
      u_c stepG_seq (fl hF2) hF
      u_c stepG_seq (fl hF2) hF
      u_reg (fl hF2) hF
      u_op (fl hF2) hF
      u_op (fl hF2) hF
      u_op (fl hF2) hF
      u_op (fl hF2) hF
      u_skip (fl hF2) hF
      u_op (fl hF2) hF
      u_c stepG_region_end (fl hF2) hF
      u_cond false (fl hF2) hF
      u_c stepG_skip (fl hF2) hF
      u_c stepG_seq (fl hF2) hF
      u_reg (fl hF2) hF
      u_op (fl hF2) hF
      u_op (fl hF2) hF
      u_op (fl hF2) hF
      u_op (fl hF2) hF
      refine Goes.stop (fun w₉ h₉ => ?_)
      replace hF := fl hF2 hF h₉
      clear h₉
      refine Goes.stop (fun w₉ h₉ => ?_)
      replace hF := fl hF2 hF h₉
      clear h₉
      refine ⟨rfl, rfl, fun ⟨st, hw⟩ => stepG_semacquire_wait rfl rfl rfl H.f_semacquire (x_semacquire_n L) (x_semacquire_b L) (x_semacquire_x L) (x_semacquire_f L) (by simp [Act.eval, smA]) hw.cellSm, fun hf => ?_⟩
      refine ⟨_, (stepG_semacquire (n := 1) rfl rfl (by k_ne) rfl H.f_semacquire (x_semacquire_n L) (x_semacquire_b L) (x_semacquire_x L) (x_semacquire_f L) (by simp [Act.eval, smA]) hf.cellSm (by k_ne) (hf.thaw 1)).trans (by rfl), _, goes_seg (m := 0) (n := 30) ?_⟩
      replace hF := fl_set hF2 hF (a := smA p.Wg) (v := .int .u32 0) rfl (hf.setSm 0)
      clear hf
      walk_nrm
      u_c stepG_region_end (fl hF2) hF
      u_c stepG_seq (fl hF2) hF
      u_reg (fl hF2) hF
      u_op (fl hF2) hF
      u_op (fl hF2) hF
      u_op (fl hF2) hF
      u_call H.f_uLoad (nm_uLoad L) uLoadFn (fl hF2) hF
      u_c stepG_seq (fl hF2) hF
      u_reg (fl hF2) hF
      u_op (fl hF2) hF
      u_c stepG_region_end (fl hF2) hF
      u_c stepG_seq (fl hF2) hF
      u_reg (fl hF2) hF
      u_op (fl hF2) hF
      u_op (fl hF2) hF
      u_op (fl hF2) hF
      refine Goes.stop (fun w₉ h₉ => ?_)
      replace hF := fl hF2 hF h₉
      clear h₉
      refine Goes.stop (fun w₉ h₉ => ?_)
      replace hF := fl hF2 hF h₉
      clear h₉
      refine ⟨rfl, fun hw => ⟨_, stepG_load_atomic (v := 0) rfl rfl (by k_ne) rfl H.f_loadU64 (x_loadU64_n L) (x_loadU64_b L) (x_loadU64_x L) .u64 (x_loadU64_f L) rfl hw.cellSt, _, goes_seg (m := 0) (n := 30) ?_⟩⟩
      clear hw
      walk_nrm
      u_op (fl hF2) hF
      u_c stepG_region_end (fl hF2) hF
      u_c stepG_ret' (fl hF2) hF
      u_leave1 H.f_uLoad (fl hF2) hF
      u_op (fl hF2) hF
      u_op (fl hF2) hF
      u_c stepG_region_end (fl hF2) hF
      u_c stepG_seq (fl hF2) hF
      u_cond true (fl hF2) hF
      u_c stepG_seq (fl hF2) hF
      u_reg (fl hF2) hF
      refine Goes.stop (fun w₉ h₉ => ?_)
      replace hF := fl hF2 hF h₉
      clear h₉
      refine Goes.stop (fun w₉ h₉ => ?_)
      replace hF := fl hF2 hF h₉
      clear h₉
      refine ⟨rfl, _, stepG_mark0 .enable (by simp) rfl rfl (by k_ne) rfl H.f_enable (x_enable_n L) (x_enable_b L) (x_enable_x L) (x_enable_f L), _, goes_seg (m := 0) (n := 12) ?_⟩
      walk_nrm
      u_c stepG_region_end (fl hF2) hF
      u_reg (fl hF2) hF
      u_op (fl hF2) hF
      u_in (fl hF2) hF
      refine goes_oper_k rfl rfl (by k_ne) (fun Kx hKx => ?_)
      have hcv := run_convert_to_unsafe (P := p.P) H.underlying_tWgP H.underlying_tUP H.room_tWg (WgLive.cell0 hF.2).choose_spec
      have hce := fun es => events_convert_to_unsafe (P := p.P) H.underlying_tWgP H.underlying_tUP H.room_tWg (WgLive.cell0 hF.2).choose_spec es
      go_simp
      refine hKx _ _ ⟨?_, ?_⟩
      · u_none
        intro ex hex
        have hmx := mem_listed hex
        simp [go_sem, hce] at hmx
      clear hKx Kx hcv hce
      refine Goes.stop (fun w₉ h₉ => ?_)
      replace hF := fl hF2 hF h₉
      clear h₉
      refine Goes.stop (fun w₉ h₉ => ?_)
      replace hF := fl hF2 hF h₉
      clear h₉
      refine ⟨rfl, _, stepG_markAt .acquire (by simp) rfl rfl (by k_ne) rfl H.f_acquire (x_acquire_n L) (x_acquire_b L) (x_acquire_x L) (x_acquire_f L) (by simp [Act.eval, stA]), rfl, 40, ?_⟩
      walk_nrm
      u_c stepG_region_end (fa hF2) hF
      u_c stepG_seq (fa hF2) hF
      u_c stepG_seq (fa hF2) hF
      u_reg (fa hF2) hF
      u_op (fa hF2) hF
      u_c stepG_region_end (fa hF2) hF
      u_cond false (fa hF2) hF
      u_c stepG_skip (fa hF2) hF
      u_c stepG_ret' (fa hF2) hF
      u_leave0 H.f_wait (fa hF2) hF
      exact Goes.stop fun _ h₉ => ⟨rfl, (fa hF2 hF h₉).1⟩
    · refine ⟨_, stepG_cas_miss (v := (v' : Int) * KK) (old := S) (n := S + 1) rfl rfl (by k_ne) rfl H.f_casU64 (x_casU64_n L) (x_casU64_b L) (x_casU64_x L) .u64 (x_casU64_f L) rfl rfl rfl hw.cellSt (hw.thaw 0) (by rw [← hS]; simp only [KK]; omega), _, goes_seg (m := 0) (n := 20) ?_⟩
      clear hw
      walk_nrm
      u_op (fl hF2) hF
      u_c stepG_region_end (fl hF2) hF
      u_c stepG_ret' (fl hF2) hF
      u_leave1 H.f_uCas (fl hF2) hF
      u_c stepG_region_end (fl hF2) hF
      u_cond false (fl hF2) hF
      u_c stepG_skip (fl hF2) hF
      u_c stepG_inBlock (fl hF2) hF
      u_c stepG_inLoop (fl hF2) hF
      refine Goes.stop (fun w₉ h₉ => ?_)
      replace hF := fl hF2 hF h₉
      clear h₉
      refine Goes.stop (fun w₉ h₉ => ?_)
      replace hF := fl hF2 hF h₉
      clear h₉
      exact ⟨_, rfl, by simp, by simp, hF⟩
end
end Go.Proofs.Ytfgipjgjehjijaa
