/- The goroutine that sends an order: from its birth to its release (own text). -/
import Derived.Test.YtjofmchipkfnmaaKl
import Derived.Test.YtjofmchipkfnmaaKn
namespace Go.Proofs.Ytjofmchipkfnmaa
open Go Go.Conc Go.ConcN Go.RowKit Go.Conc.Lib Go.ConcR.Gen Go.ConcN.Gen
open Go.ConcR (KK wgBlock WgAt stA smA rd wr mk Payload DC0)

/-- A silent stretch ahead of a walk. -/
theorem goes_seg2 {P : Program} {main : Bool} {R : World → World → Prop} {D : World → World → Array Event → Prop} {S : Goroutine → World → Prop} {m : Nat} (hr : ∀ w, R w w) (hd : ∀ w, D w w #[]) :
    ∀ {n : Nat} {g : Goroutine} {w : World}, Goes P main R DC0 (fun g w => Goes P main R D S m g w) n g w → Goes P main R D S (m + n) g w
  | 0, g, w, h => h w (hr w)
  | n + 1, g, w, h => by
    rcases h with h | ⟨hs, h⟩
    · exact goes_more _ (h w (hr w))
    · refine .inr ⟨hs, fun w₁ h₁ => ?_⟩
      obtain ⟨g', w', es, e, hx, hn⟩ := goes_elim (h w₁ h₁)
      rw [e]
      obtain ⟨rfl, rfl⟩ := hx
      exact ⟨hd _, goes_seg2 hr hd hn⟩

/-- The blocks of a call of ordersOf that begins at a heap of N blocks. -/
noncomputable def opl (Sh : Loc → Prop) (B J0 n N : Nat) (m : Int) (xs : Nat → Int) : Plan where
  P := Try.prog
  ty := Try.link.tWg
  Wg := N + 2
  J0 := J0
  n := n
  Keep := fun x b => b = N ∨ (J0 < x ∧ x ≤ J0 + n ∧ (b = N + 3 + 4 * (x - J0 - 1) ∨ b = N + 4 + 4 * (x - J0 - 1) ∨ b = N + 5 + 4 * (x - J0 - 1)))
  Hot := fun x b => J0 < x ∧ x ≤ J0 + n ∧ (b = N + 4 + 4 * (x - J0 - 1) ∨ b = N + 5 + 4 * (x - J0 - 1))
  Ch := fun x => N + 4 + 4 * (x - J0 - 1)
  Res := fun x => if ordX (xs (x - J0 - 1)) m ≠ 0 then .chan 1 #[.int .i64 (ordX (xs (x - J0 - 1)) m)] true 1 0 false else .chan 1 #[] true 0 0 false
  Bx := fun x => N + 5 + 4 * (x - J0 - 1)
  vx := fun x => .chan (some (N + 4 + 4 * (x - J0 - 1)))
  Sh := Sh
  B := B

theorem opl_ok {Sh : Loc → Prop} {B J0 n N : Nat} {m : Int} {xs : Nat → Int} (hSh : ∀ a : Addr, Sh (.cell a) → a.block < N) (hn : n < 2147483648) (hB : N + 2 < B) : (opl Sh B J0 n N m xs).Ok where
  wgKeep := fun x h => by
    have h : N + 2 = N ∨ (J0 < x ∧ x ≤ J0 + n ∧ (N + 2 = N + 3 + 4 * (x - J0 - 1) ∨ N + 2 = N + 4 + 4 * (x - J0 - 1) ∨ N + 2 = N + 5 + 4 * (x - J0 - 1))) := h
    omega
  wgHot := fun x h => by
    have h : J0 < x ∧ x ≤ J0 + n ∧ (N + 2 = N + 4 + 4 * (x - J0 - 1) ∨ N + 2 = N + 5 + 4 * (x - J0 - 1)) := h
    omega
  apart := fun x y b hxy h k => by
    have h : J0 < x ∧ x ≤ J0 + n ∧ (b = N + 4 + 4 * (x - J0 - 1) ∨ b = N + 5 + 4 * (x - J0 - 1)) := h
    have k : b = N ∨ (J0 < y ∧ y ≤ J0 + n ∧ (b = N + 3 + 4 * (y - J0 - 1) ∨ b = N + 4 + 4 * (y - J0 - 1) ∨ b = N + 5 + 4 * (y - J0 - 1))) := k
    omega
  chKeep := fun x h1 h2 => .inr ⟨h1, h2, .inr (.inl rfl)⟩
  bxKeep := fun x h1 h2 => .inr ⟨h1, h2, .inr (.inr rfl)⟩
  shKeep := fun x a h hs => by
    have := hSh a hs
    have h : a.block = N ∨ (J0 < x ∧ x ≤ J0 + n ∧ (a.block = N + 3 + 4 * (x - J0 - 1) ∨ a.block = N + 4 + 4 * (x - J0 - 1) ∨ a.block = N + 5 + 4 * (x - J0 - 1))) := h
    omega
  small := hn
  low := hB

/-- What the goroutine that is number i knows. -/
structure WF (N i : Nat) (m a : Int) (buf : Array Value) (s : Nat) (w : World) : Prop where
  mb : w.cell? ⟨N, 0, none⟩ = some (.int .i64 m)
  ab : w.cell? ⟨N + 3 + 4 * i, 0, none⟩ = some (.int .i64 a)
  ob : w.cell? ⟨N + 5 + 4 * i, 0, none⟩ = some (.chan (some (N + 4 + 4 * i)))
  ch : w.heap[N + 4 + 4 * i]? = some (.chan 1 buf false s 0 false)
  live : WgLive Try.link.tWg (N + 2) w

section
variable {Sh : Loc → Prop} {B J0 n N i : Nat} {m a : Int} {xs : Nat → Int} {buf : Array Value} {s : Nat} {w w₁ : World}
theorem WF.rely (hi : i < n) (h : WF N i m a buf s w) (r : RK (opl Sh B J0 n N m xs) (J0 + 1 + i) w w₁) : WF N i m a buf s w₁ := by
  have e1 : w₁.heap[N]? = w.heap[N]? := r.keep N (.inl rfl)
  have k : ∀ b, (b = N + 3 + 4 * i ∨ b = N + 4 + 4 * i ∨ b = N + 5 + 4 * i) → w₁.heap[b]? = w.heap[b]? := fun b hb => by
    have hk : J0 < J0 + 1 + i ∧ J0 + 1 + i ≤ J0 + n ∧ (b = N + 3 + 4 * (J0 + 1 + i - J0 - 1) ∨ b = N + 4 + 4 * (J0 + 1 + i - J0 - 1) ∨ b = N + 5 + 4 * (J0 + 1 + i - J0 - 1)) := by omega
    exact r.keep b (.inr hk)
  exact ⟨(World.cell?_of_block e1).trans h.mb, (World.cell?_of_block (k _ (.inl rfl))).trans h.ab, (World.cell?_of_block (k _ (.inr (.inr rfl)))).trans h.ob, (k _ (.inr (.inl rfl))).trans h.ch, r.live h.live⟩
theorem WF.since (hi : i < n) (h : WF N i m a buf s w) (r : Since (RK (opl Sh B J0 n N m xs) (J0 + 1 + i)) w w₁) : WF N i m a buf s w₁ := r.elim (fun e => e ▸ h) (WF.rely hi h)
theorem terms_x (x : Nat) : Terms (RK (opl Sh B J0 n N m xs) x) (DK (opl Sh B J0 n N m xs) x) := ⟨fun _ _ _ h k => h.trans k, fun w => ⟨AsideX.refl _ _, by simp⟩⟩
theorem dk_idle (x : Nat) (w : World) : DK (opl Sh B J0 n N m xs) x w w #[] := ⟨AsideX.refl _ _, by simp⟩

theorem evK_read {x : Nat} (c : Addr) (hk : ((opl Sh B J0 n N m xs)).Keep x c.block) (hB : c.block < B) : EvK (opl Sh B J0 n N m xs) x ⟨.cell c, false, false⟩ := by
  refine ⟨by simp, by simp, by simp, hB, fun b hb => .inr ?_⟩
  simp only [ofEvent_cell0, MemAct.touch?, Option.some.injEq] at hb
  subst hb
  exact ⟨⟨c, rfl, hk⟩, rfl, rfl⟩

noncomputable def bot : Frame := { (default : Frame) with fn := Try.prog.funcs.size, defers := [], mode := .panicking [goexitEntry] }
def call (N i : Nat) : Deferred := { target := .fn (.func 25) #[.pointer (some ⟨N + 2, 0, none⟩), .pointer (some ⟨N + 3 + 4 * i, 0, none⟩), .pointer (some ⟨N, 0, none⟩), .pointer (some ⟨N + 5 + 4 * i, 0, none⟩)], args := #[] }
noncomputable def bodyW : Code := Try.f25.body.getD .skip

theorem born_step (N i : Nat) (w : World) : stepG Try.prog false (born Try.prog (call N i)) w =
    .go (G ((baseD 25).at ⟨#[.pointer (some ⟨N + 2, 0, none⟩), .pointer (some ⟨N + 3 + 4 * i, 0, none⟩), .pointer (some ⟨N, 0, none⟩), .pointer (some ⟨N + 5 + 4 * i, 0, none⟩), undef, undef, undef, undef], []⟩ [.code bodyW]) [bot]) w #[] := by
  simp [born, call, stepG, unwind, callDeferred, invoke, callFunc, Try.func25, Try.f25, seen, GStep.after, G, Frame.enter, Frame.at, baseD, bot, bodyW]

/-- Once Done has left it only leaves. -/
theorem quitsTail (T : Array Value) : QuitsD Try.prog 2 0 (G { (baseD 25).at ⟨T, []⟩ [] with mode := .returning } [bot]) := by
  refine QuitsD.ctl (g' := G bot []) rfl (fun w => ?_) ?_
  · simp [G, stepG, unwind, doReturn, results, Frame.at, baseD, bot, Try.func25, Try.f25, seen, GStep.after, goexitEntry]
  refine QuitsD.ctl (g' := { G bot [] with status := .finished }) rfl (fun w => ?_) ⟨rfl, rfl⟩
  simp [G, stepG, unwind, bot, goexitEntry, Frame.catches]
  rfl

/-- What it knows once the channel is closed. -/
structure WG (N i : Nat) (o : Obj) (w : World) : Prop where
  ob : w.cell? ⟨N + 5 + 4 * i, 0, none⟩ = some (.chan (some (N + 4 + 4 * i)))
  ch : w.heap[N + 4 + 4 * i]? = some o
  live : WgLive Try.link.tWg (N + 2) w
theorem WG.rely {o : Obj} (hi : i < n) (h : WG N i o w) (r : RK (opl Sh B J0 n N m xs) (J0 + 1 + i) w w₁) : WG N i o w₁ := by
  have k : ∀ b, (b = N + 3 + 4 * i ∨ b = N + 4 + 4 * i ∨ b = N + 5 + 4 * i) → w₁.heap[b]? = w.heap[b]? := fun b hb => by
    have hk : J0 < J0 + 1 + i ∧ J0 + 1 + i ≤ J0 + n ∧ (b = N + 3 + 4 * (J0 + 1 + i - J0 - 1) ∨ b = N + 4 + 4 * (J0 + 1 + i - J0 - 1) ∨ b = N + 5 + 4 * (J0 + 1 + i - J0 - 1)) := by omega
    exact r.keep b (.inr hk)
  exact ⟨(World.cell?_of_block (k _ (.inr (.inr rfl)))).trans h.ob, (k _ (.inr (.inl rfl))).trans h.ch, r.live h.live⟩

theorem setChan_ne {c b cap s r : Nat} {buf : Array Value} {cl tm : Bool} (h : c ≠ b) : (w.setChan c cap buf cl s r tm).heap[b]? = w.heap[b]? := by simp [World.setChan, h]
theorem WF.sent {buf' : Array Value} {s' : Nat} (h : WF N i m a buf s w) : WF N i m a buf' s' (w.setChan (N + 4 + 4 * i) 1 buf' false s' 0 false) := by
  have hlt : N + 4 + 4 * i < w.heap.size := by
    rcases Nat.lt_or_ge (N + 4 + 4 * i) w.heap.size with h' | h'
    · exact h'
    · have := h.ch; rw [Array.getElem?_eq_none h'] at this; cases this
  exact ⟨(World.cell?_of_block (setChan_ne (by dsimp only; omega))).trans h.mb, (World.cell?_of_block (setChan_ne (by dsimp only; omega))).trans h.ab, (World.cell?_of_block (setChan_ne (by dsimp only; omega))).trans h.ob, by simp [World.setChan, hlt], WgLive.of_block h.live (setChan_ne (by omega))⟩
theorem WF.closed (h : WF N i m a buf s w) : WG N i (.chan 1 buf true s 0 false) (w.setChan (N + 4 + 4 * i) 1 buf true s 0 false) := by
  have hlt : N + 4 + 4 * i < w.heap.size := by
    rcases Nat.lt_or_ge (N + 4 + 4 * i) w.heap.size with h' | h'
    · exact h'
    · have := h.ch; rw [Array.getElem?_eq_none h'] at this; cases this
  exact ⟨(World.cell?_of_block (setChan_ne (by dsimp only; omega))).trans h.ob, by simp [World.setChan, hlt], WgLive.of_block h.live (setChan_ne (by omega))⟩
theorem asideX_chan {cap s r : Nat} {buf : Array Value} {cl tm : Bool} (hi : i < n) : AsideX (opl Sh B J0 n N m xs) (J0 + 1 + i) w (w.setChan (N + 4 + 4 * i) cap buf cl s r tm) :=
  ⟨rfl, rfl, rfl, by simp [World.setChan], fun b hb => by
    refine setChan_ne fun e => ?_
    have hk : J0 < J0 + 1 + i ∧ J0 + 1 + i ≤ J0 + n ∧ (b = N + 4 + 4 * (J0 + 1 + i - J0 - 1) ∨ b = N + 5 + 4 * (J0 + 1 + i - J0 - 1)) := by omega
    exact hb hk⟩
theorem evK_close (hi : i < n) (hB : N + 3 + 4 * n ≤ B) : ∀ e ∈ closeEvents (N + 4 + 4 * i), EvK (opl Sh B J0 n N m xs) (J0 + 1 + i) e := by
  intro e he
  simp only [closeEvents, List.mem_toArray, List.mem_cons, List.not_mem_nil, or_false] at he
  rcases he with rfl | rfl
  · refine ⟨by simp, by simp, by simp, (by show N + 4 + 4 * i < B; omega), fun b hb => .inl ?_⟩
    simp only [MemAct.ofEvent, MemAct.touch?, Option.some.injEq] at hb
    subst hb
    exact ⟨.inr ⟨J0 + 1 + i, (by show J0 < J0 + 1 + i; omega), (by show J0 + 1 + i ≤ J0 + n; omega), (by show Loc.obj (N + 4 + 4 * i) = Loc.obj (N + 4 + 4 * (J0 + 1 + i - J0 - 1)); rw [show J0 + 1 + i - J0 - 1 = i by omega])⟩, rfl⟩
  · exact ⟨by simp, by simp, by simp, (by show N + 4 + 4 * i < B; omega), fun b hb => by cases hb⟩

theorem loudS : (Try.prog.funcs[(base 27).fn]?).any (·.norace) = false := by kernel_rfl

/-- Done, in this company. -/
theorem doneX {o : Obj} (hSh : ∀ a : Addr, Sh (.cell a) → a.block < N) (hn : n < 2147483648) (hB : N + 3 + 4 * n ≤ B) (hi : i < n) (ho : ((opl Sh B J0 n N m xs)).Res (J0 + 1 + i) = o) (T : Array Value) (w : World) (hF : WG N i o w) :
    Goes Try.prog false (RK (opl Sh B J0 n N m xs) (J0 + 1 + i)) (DK (opl Sh B J0 n N m xs) (J0 + 1 + i)) (R0 (opl Sh B J0 n N m xs) (J0 + 1 + i)) 40
      (G ((baseD Try.link.done).at ⟨#[.pointer (some ⟨N + 2, 0, none⟩), undef, undef, undef], []⟩ [.code (body_done Try.link)]) ({ (baseD 25).at ⟨T, []⟩ [] with mode := .returning } :: [bot])) w := by
  have eJ : J0 + 1 + i - J0 - 1 = i := by omega
  have O := opl_ok (B := B) (J0 := J0) (n := n) (m := m) (xs := xs) hSh hn (by omega)
  have eB : ((opl Sh B J0 n N m xs)).Bx (J0 + 1 + i) = N + 5 + 4 * i := by show N + 5 + 4 * (J0 + 1 + i - J0 - 1) = _; rw [eJ]
  have eC : ((opl Sh B J0 n N m xs)).Ch (J0 + 1 + i) = N + 4 + 4 * i := by show N + 4 + 4 * (J0 + 1 + i - J0 - 1) = _; rw [eJ]
  have eV : ((opl Sh B J0 n N m xs)).vx (J0 + 1 + i) = .chan (some (N + 4 + 4 * i)) := by show Value.chan (some (N + 4 + 4 * (J0 + 1 + i - J0 - 1))) = _; rw [eJ]
  have K := doneK (Wg := N + 2) (C := N + 5 + 4 * i) (n := 1) (k := 1) (val := .chan (some (N + 4 + 4 * i))) (c := { (baseD 25).at ⟨T, []⟩ [] with mode := .returning }) (cs := [bot]) Try.wgLib rfl (quitsTail T) w ⟨hF.live, hF.ob⟩
  refine goes_turn (I := fun w => Fin (opl Sh B J0 n N m xs) (J0 + 1 + i) w) (fun w w₁ hI h => ⟨?_, ?_⟩) (fun w w' es hI h => ?_) (fun g w hI h => ?_) ?_ K
  · have := rw0_of O (x := J0 + 1 + i) (by show J0 < _; omega) (by show _ ≤ J0 + n; omega) h
    rw [eB] at this
    exact this
  · exact (h.keep _ (O.chKeep _ (by show J0 < _; omega) (by show _ ≤ J0 + n; omega))).trans hI
  · obtain ⟨rfl, rfl⟩ := h
    exact ⟨dk_idle _ _, hI⟩
  · refine ⟨?_, hI⟩
    rw [eB, eV]
    exact h
  · show w.heap[((opl Sh B J0 n N m xs)).Ch (J0 + 1 + i)]? = some (((opl Sh B J0 n N m xs)).Res (J0 + 1 + i))
    rw [eC, ho]
    exact hF.ch

set_option maxRecDepth 100000 in
set_option maxHeartbeats 4000000 in
theorem worker (hSh : ∀ a : Addr, Sh (.cell a) → a.block < N) (hn : n < 2147483648) (hi : i < n) (hB : N + 3 + 4 * n ≤ B) (hm : 1 ≤ m) (hm2 : m ≤ 1000) (hx : xs i = a) (w : World) (hF : WF N i m a #[] 0 w) : Ready (opl Sh B J0 n N m xs) (J0 + 1 + i) (born Try.prog (call N i)) w := by
  have eJ : J0 + 1 + i - J0 - 1 = i := by omega
  have kN : ((opl Sh B J0 n N m xs)).Keep (J0 + 1 + i) N := .inl rfl
  have kA : ((opl Sh B J0 n N m xs)).Keep (J0 + 1 + i) (N + 3 + 4 * i) := .inr ⟨by omega, by omega, by rw [eJ]; exact .inl rfl⟩
  have kO : ((opl Sh B J0 n N m xs)).Keep (J0 + 1 + i) (N + 5 + 4 * i) := .inr ⟨by omega, by omega, by rw [eJ]; exact .inr (.inr rfl)⟩
  by_cases h0 : ordX a m = 0
  · refine ⟨7, 300300, by omega, .r0 ?_⟩
    show Goes Try.prog false (RK (opl Sh B J0 n N m xs) (J0 + 1 + i)) (DK (opl Sh B J0 n N m xs) (J0 + 1 + i)) (R0 (opl Sh B J0 n N m xs) (J0 + 1 + i)) 300300 _ w
    refine Goes.step rfl fun w₁ r₁ => ?_
    rw [born_step]
    refine ⟨dk_idle _ _, ?_⟩
    replace hF := hF.rely hi r₁
    clear r₁
    simp only [bodyW, Try.f25, Option.getD_some]
    refine goes_seg2 (m := 300259) (n := 40) (fun w => RK.refl _ w) (dk_idle _) ?_
    u_c stepG_seq (WF.rely hi) hF
    u_reg (WF.rely hi) hF
    u_defer (WF.rely hi) hF
    u_c stepG_region_end (WF.rely hi) hF
    u_reg (WF.rely hi) hF
    refine Goes.stop (fun w₉ h₉ => ?_)
    replace hF := hF.rely hi h₉
    clear h₉
    u_opw (WF.rely hi) hF [hF.ab, hF.mb, hF.ob] (AsideX.refl _ _) (evK_read _ kA (by simp; omega))
    u_opw (WF.rely hi) hF [hF.ab, hF.mb, hF.ob] (AsideX.refl _ _) (evK_read _ kN (by simp; omega))
    u_opw (WF.rely hi) hF [hF.ab, hF.mb, hF.ob] (AsideX.refl _ _) (evK_read _ kO (by simp; omega))
    refine Goes.step rfl fun w₁ r₁ => ?_
    replace hF := hF.rely hi r₁
    clear r₁
    refine goes_call rfl rfl (by k_ne) rfl Try.func27 (by rfl) rfl ⟨dk_idle _ _, ?_⟩
    walk_nrmf Try.f27
    refine goes_seg2 (m := 300240) (n := 15) (fun w => RK.refl _ w) (dk_idle _) ?_
    repeat (first | u_c stepG_seq (WF.rely hi) hF | u_c stepG_region_end (WF.rely hi) hF | u_c stepG_skip (WF.rely hi) hF | u_c stepG_block (WF.rely hi) hF | u_c stepG_inBlock (WF.rely hi) hF | u_reg (WF.rely hi) hF | u_op (WF.rely hi) hF)
    refine Goes.stop (fun w₉ h₉ => ?_)
    replace hF := hF.rely hi h₉
    clear h₉
    refine Goes.call (m := 237) (nf := 300000) (Post := fun v w' => v = .tuple #[.int .i64 (ordX a m), .bool (decide (ordX a m ≠ 0))] ∧ Since (RK (opl Sh B J0 n N m xs) (J0 + 1 + i)) w₉ w') (terms_x _) rfl (by rfl) (by k_ne) rfl ?_ (fun v w₁ hp => ?_)
    · walk_nrm
      exact k_orderOf (terms_x _) a m hm hm2 _
    obtain ⟨rfl, hs⟩ := hp
    replace hF := hF.since hi hs
    clear hs
    walk_nrm
    have hd : decide (ordX a m ≠ 0) = false := by simp [h0]
    rw [hd]
    refine goes_seg2 (m := 200) (n := 37) (fun w => RK.refl _ w) (dk_idle _) ?_
    repeat (first | u_c stepG_seq (WF.rely hi) hF | u_c stepG_region_end (WF.rely hi) hF | u_c stepG_skip (WF.rely hi) hF | u_c stepG_block (WF.rely hi) hF | u_c stepG_inBlock (WF.rely hi) hF | u_reg (WF.rely hi) hF | u_op (WF.rely hi) hF)
    u_cond false (WF.rely hi) hF
    refine Goes.stop (fun w₉ h₉ => ?_)
    replace hF := hF.rely hi h₉
    clear h₉
    show Goes Try.prog false (RK (opl Sh B J0 n N m xs) (J0 + 1 + i)) (DK (opl Sh B J0 n N m xs) (J0 + 1 + i)) (R0 (opl Sh B J0 n N m xs) (J0 + 1 + i)) 200 _ _
    refine goes_seg2 (m := 100) (n := 100) (fun w => RK.refl _ w) (dk_idle _) ?_
    repeat (first | u_c stepG_seq (WF.rely hi) hF | u_c stepG_region_end (WF.rely hi) hF | u_c stepG_skip (WF.rely hi) hF | u_reg (WF.rely hi) hF | u_op (WF.rely hi) hF)
    refine Goes.stop (fun w₉ h₉ => ?_)
    replace hF := hF.rely hi h₉
    clear h₉
    refine Goes.step rfl fun w₁ r₁ => ?_
    replace hF := hF.rely hi r₁
    clear r₁
    rw [stepG_close rfl (by rfl) (by k_ne) rfl (by simp [Act.eval] <;> rfl) hF.ch loudS]
    simp only [goes_go]
    refine ⟨⟨asideX_chan hi, evK_close hi hB⟩, ?_⟩
    have hG := hF.closed
    clear hF
    walk_nrm
    refine goes_seg2 (m := 40) (n := 59) (fun w => RK.refl _ w) (dk_idle _) ?_
    u_c stepG_region_end (WG.rely hi) hG
    u_c stepG_end (WG.rely hi) hG
    u_leave0 Try.func27 (WG.rely hi) hG
    u_c stepG_region_end (WG.rely hi) hG
    u_c stepG_end (WG.rely hi) hG
    u_unwB (WG.rely hi) hG Try.func26 (nm_done Try.link) Try.f26
    refine Goes.stop (fun w₉ h₉ => ?_)
    replace hG := hG.rely hi h₉
    clear h₉
    exact doneX hSh hn hB hi (by show (if ordX (xs (J0 + 1 + i - J0 - 1)) m ≠ 0 then _ else _) = _; rw [eJ, hx, if_neg (by simp [h0])]) _ w₉ hG
  · refine ⟨8, 300100, by omega, .snd ?_⟩
    show Goes Try.prog false (RK (opl Sh B J0 n N m xs) (J0 + 1 + i)) (DK (opl Sh B J0 n N m xs) (J0 + 1 + i)) (Snd (opl Sh B J0 n N m xs) (J0 + 1 + i)) 300100 _ w
    refine Goes.step rfl fun w₁ r₁ => ?_
    rw [born_step]
    refine ⟨dk_idle _ _, ?_⟩
    replace hF := hF.rely hi r₁
    clear r₁
    simp only [bodyW, Try.f25, Option.getD_some]
    refine goes_seg2 (m := 300059) (n := 40) (fun w => RK.refl _ w) (dk_idle _) ?_
    u_c stepG_seq (WF.rely hi) hF
    u_reg (WF.rely hi) hF
    u_defer (WF.rely hi) hF
    u_c stepG_region_end (WF.rely hi) hF
    u_reg (WF.rely hi) hF
    refine Goes.stop (fun w₉ h₉ => ?_)
    replace hF := hF.rely hi h₉
    clear h₉
    u_opw (WF.rely hi) hF [hF.ab, hF.mb, hF.ob] (AsideX.refl _ _) (evK_read _ kA (by simp; omega))
    u_opw (WF.rely hi) hF [hF.ab, hF.mb, hF.ob] (AsideX.refl _ _) (evK_read _ kN (by simp; omega))
    u_opw (WF.rely hi) hF [hF.ab, hF.mb, hF.ob] (AsideX.refl _ _) (evK_read _ kO (by simp; omega))
    refine Goes.step rfl fun w₁ r₁ => ?_
    replace hF := hF.rely hi r₁
    clear r₁
    refine goes_call rfl rfl (by k_ne) rfl Try.func27 (by rfl) rfl ⟨dk_idle _ _, ?_⟩
    walk_nrmf Try.f27
    refine goes_seg2 (m := 300040) (n := 15) (fun w => RK.refl _ w) (dk_idle _) ?_
    repeat (first | u_c stepG_seq (WF.rely hi) hF | u_c stepG_region_end (WF.rely hi) hF | u_c stepG_skip (WF.rely hi) hF | u_c stepG_block (WF.rely hi) hF | u_c stepG_inBlock (WF.rely hi) hF | u_reg (WF.rely hi) hF | u_op (WF.rely hi) hF)
    refine Goes.stop (fun w₉ h₉ => ?_)
    replace hF := hF.rely hi h₉
    clear h₉
    refine Goes.call (m := 37) (nf := 300000) (Post := fun v w' => v = .tuple #[.int .i64 (ordX a m), .bool (decide (ordX a m ≠ 0))] ∧ Since (RK (opl Sh B J0 n N m xs) (J0 + 1 + i)) w₉ w') (terms_x _) rfl (by rfl) (by k_ne) rfl ?_ (fun v w₁ hp => ?_)
    · walk_nrm
      exact k_orderOf (terms_x _) a m hm hm2 _
    obtain ⟨rfl, hs⟩ := hp
    replace hF := hF.since hi hs
    clear hs
    walk_nrm
    have hd : decide (ordX a m ≠ 0) = true := by simp [h0]
    rw [hd]
    refine goes_seg2 (m := 12) (n := 25) (fun w => RK.refl _ w) (dk_idle _) ?_
    repeat (first | u_c stepG_seq (WF.rely hi) hF | u_c stepG_region_end (WF.rely hi) hF | u_c stepG_skip (WF.rely hi) hF | u_c stepG_block (WF.rely hi) hF | u_c stepG_inBlock (WF.rely hi) hF | u_reg (WF.rely hi) hF | u_op (WF.rely hi) hF)
    u_cond true (WF.rely hi) hF
    u_reg (WF.rely hi) hF
    u_op (WF.rely hi) hF
    u_op (WF.rely hi) hF
    refine Goes.stop (fun w₉ h₉ => ?_)
    replace hF := hF.rely hi h₉
    clear h₉
    refine Goes.stop (fun w₉ h₉ => ?_)
    replace hF := hF.rely hi h₉
    clear h₉
    have eC : ((opl Sh B J0 n N m xs)).Ch (J0 + 1 + i) = N + 4 + 4 * i := by show N + 4 + 4 * (J0 + 1 + i - J0 - 1) = _; rw [eJ]
    have hHot : ((opl Sh B J0 n N m xs)).Hot (J0 + 1 + i) (((opl Sh B J0 n N m xs)).Ch (J0 + 1 + i)) := ⟨by omega, by omega, .inl rfl⟩
    have hLow : ((opl Sh B J0 n N m xs)).Ch (J0 + 1 + i) < B := by rw [eC]; omega
    unfold Snd
    rw [eC] at hHot hLow ⊢
    refine ⟨rfl, hHot, hLow, _, .int .i64 (ordX a m), .tuple #[], 1, 0, 0, #[], false,
        (stepG_comm (P := Try.prog) (cases := #[scase (N + 4 + 4 * i) (.int .i64 (ordX a m)) (.tuple #[])]) (blocking := true) (shape := .send) (w' := w₉) rfl rfl (by decide) (by simp [execOp, Act.eval, scase])).trans (by rw [listed_none (by rfl)]), hF.ch, by simp, rfl, rfl, 200, ?_⟩
    rw [served_G]
    replace hF := hF.sent (buf' := #[.int .i64 (ordX a m)]) (s' := 1)
    show Goes Try.prog false (RK (opl Sh B J0 n N m xs) (J0 + 1 + i)) (DK (opl Sh B J0 n N m xs) (J0 + 1 + i)) (R0 (opl Sh B J0 n N m xs) (J0 + 1 + i)) 200 _ _
    walk_nrm
    refine goes_seg2 (m := 100) (n := 100) (fun w => RK.refl _ w) (dk_idle _) ?_
    repeat (first | u_c stepG_seq (WF.rely hi) hF | u_c stepG_region_end (WF.rely hi) hF | u_c stepG_skip (WF.rely hi) hF | u_reg (WF.rely hi) hF | u_op (WF.rely hi) hF)
    refine Goes.stop (fun w₉ h₉ => ?_)
    replace hF := hF.rely hi h₉
    clear h₉
    refine Goes.step rfl fun w₁ r₁ => ?_
    replace hF := hF.rely hi r₁
    clear r₁
    rw [stepG_close rfl (by rfl) (by k_ne) rfl (by simp [Act.eval] <;> rfl) hF.ch loudS]
    simp only [goes_go]
    refine ⟨⟨asideX_chan hi, evK_close hi hB⟩, ?_⟩
    have hG := hF.closed
    clear hF
    walk_nrm
    refine goes_seg2 (m := 40) (n := 59) (fun w => RK.refl _ w) (dk_idle _) ?_
    u_c stepG_region_end (WG.rely hi) hG
    u_c stepG_end (WG.rely hi) hG
    u_leave0 Try.func27 (WG.rely hi) hG
    u_c stepG_region_end (WG.rely hi) hG
    u_c stepG_end (WG.rely hi) hG
    u_unwB (WG.rely hi) hG Try.func26 (nm_done Try.link) Try.f26
    refine Goes.stop (fun w₉ h₉ => ?_)
    replace hG := hG.rely hi h₉
    clear h₉
    exact doneX hSh hn hB hi (by show (if ordX (xs (J0 + 1 + i - J0 - 1)) m ≠ 0 then _ else _) = _; rw [eJ, hx, if_pos h0]) _ w₉ hG
end
end Go.Proofs.Ytjofmchipkfnmaa
