/- n goroutines, each with a channel of its own, and their starter: what is asked of each, and where each stands (own text). -/
import Derived.Test.YtfgipjgjehjijaaKa
import Derived.Conc.CrowdComm
namespace Go.Proofs.Ytfgipjgjehjijaa
open Go Go.Conc Go.ConcN
open Go.ConcR (KK wgBlock WgAt stA smA rd wr mk Payload DC0 g_of_ofEvents)

instance pay0 : Payload := ⟨0⟩

/-- A walk under a narrower rely, with what is known besides. -/
theorem goes_turn {P : Program} {main : Bool} {R R' : World → World → Prop} {D D' : World → World → Array Event → Prop} {S S' : Goroutine → World → Prop} {I : World → Prop}
    (hR : ∀ w w₁, I w → R' w w₁ → R w w₁ ∧ I w₁) (hD : ∀ w w' es, I w → D w w' es → D' w w' es ∧ I w') (hS : ∀ g w, I w → S g w → S' g w) :
    ∀ {n : Nat} {g : Goroutine} {w : World}, I w → Goes P main R D S n g w → Goes P main R' D' S' n g w
  | 0, g, w, hi, h => fun w₁ h₁ => let ⟨a, b⟩ := hR _ _ hi h₁; hS g w₁ b (h w₁ a)
  | n + 1, g, w, hi, h => by
    rcases h with h | ⟨hs, h⟩
    · exact .inl fun w₁ h₁ => let ⟨a, b⟩ := hR _ _ hi h₁; hS g w₁ b (h w₁ a)
    · refine .inr ⟨hs, fun w₁ h₁ => ?_⟩
      obtain ⟨a, b⟩ := hR _ _ hi h₁
      obtain ⟨g', w', es, e, hd, hn⟩ := goes_elim (h w₁ a)
      rw [e]
      obtain ⟨c, d⟩ := hD _ _ _ b hd
      exact ⟨c, goes_turn hR hD hS d hn⟩

/-- The blocks of a phase: the group's; goroutine x (J0 < x ≤ J0 + n) relies on Keep x, may turn Hot x, and leaves the channel Ch x as Res x. -/
structure Plan where
  P : Program
  ty : TypeId
  Wg : Nat
  J0 : Nat
  n : Nat
  Keep : Nat → Nat → Prop
  Hot : Nat → Nat → Prop
  Ch : Nat → Nat
  Res : Nat → Obj
  Bx : Nat → Nat
  vx : Nat → Value
  Sh : Loc → Prop
  B : Nat

structure Plan.Ok (p : Plan) : Prop where
  wgKeep : ∀ x, ¬ p.Keep x p.Wg
  wgHot : ∀ x, ¬ p.Hot x p.Wg
  apart : ∀ x y b, x ≠ y → p.Hot x b → ¬ p.Keep y b
  chKeep : ∀ x, p.J0 < x → x ≤ p.J0 + p.n → p.Keep x (p.Ch x)
  bxKeep : ∀ x, p.J0 < x → x ≤ p.J0 + p.n → p.Keep x (p.Bx x)
  shKeep : ∀ x a, p.Keep x a.block → ¬ p.Sh (.cell a)
  small : p.n < 2147483648
  low : p.Wg < p.B

/-- The group's cells, the channels. -/
def OwL (p : Plan) : Loc → Prop := fun l => (∃ a, l = .cell a ∧ a.block = p.Wg) ∨ ∃ x, p.J0 < x ∧ x ≤ p.J0 + p.n ∧ l = .obj (p.Ch x)
def RdL (Keep : Nat → Nat → Prop) (y : Nat) : Loc → Prop := fun l => ∃ a, l = .cell a ∧ Keep y a.block

theorem Plan.Ok.ap {p : Plan} (h : p.Ok) : AP p.Sh (OwL p) (RdL p.Keep) where
  rdSh := fun y l ⟨a, e, hk⟩ => by subst e; exact h.shKeep y a hk
  rdOw := fun y l ⟨a, e, hk⟩ ho => by
    subst e
    rcases ho with ⟨b, e', hb⟩ | ⟨x, _, _, e'⟩
    · cases e'; exact h.wgKeep y (hb ▸ hk)
    · cases e'
  rdMem := fun y l ⟨a, e, _⟩ => by subst e; rfl

section
variable (p : Plan)

/-- What goroutine x suffers. -/
structure RK (x : Nat) (w w₁ : World) : Prop where
  keep : ∀ b, p.Keep x b → w₁.heap[b]? = w.heap[b]?
  live : WgLive p.ty p.Wg w → WgLive p.ty p.Wg w₁
/-- What the starter suffers while j are started. -/
structure RM (j : Nat) (w w₁ : World) : Prop where
  tape : w₁.tape = w.tape
  os : w₁.os = w.os
  output : w₁.output = w.output
  size : w₁.heap.size = w.heap.size
  block : ∀ b, b ≠ p.Wg → (∀ x, p.J0 < x → x ≤ p.J0 + j → ¬ p.Hot x b) → w₁.heap[b]? = w.heap[b]?
  live : WgLive p.ty p.Wg w → WgLive p.ty p.Wg w₁

/-- What goroutine x may do to the world while it works. -/
structure AsideX (x : Nat) (w w' : World) : Prop where
  tape : w'.tape = w.tape
  os : w'.os = w.os
  output : w'.output = w.output
  size : w'.heap.size = w.heap.size
  block : ∀ b, ¬ p.Hot x b → w'.heap[b]? = w.heap[b]?

def EvK (x : Nat) (e : Event) : Prop :=
  e.loc ≠ .mark .disable ∧ e.loc ≠ .mark .enable ∧ e.loc ≠ .mark (.release (stA p.Wg)) ∧ (MemAct.ofEvent e).low p.B ∧
    ∀ b, (MemAct.ofEvent e).touch? = some b → (OwL p b.loc ∧ b.kind = .atomic) ∨ (RdL p.Keep x b.loc ∧ b.write = false ∧ b.kind = .plain)
def DK (x : Nat) (w w' : World) (es : Array Event) : Prop := AsideX p x w w' ∧ ∀ e ∈ es, EvK p x e

/-- What the starter may list while j are started. -/
def EvM (j : Nat) (e : Event) : Prop :=
  e.loc ≠ .mark .disable ∧ e.loc ≠ .mark .enable ∧ e.loc ≠ .mark (.release (stA p.Wg)) ∧ (MemAct.ofEvent e).low p.B ∧
    ∀ b, (MemAct.ofEvent e).touch? = some b → ((p.Sh b.loc ∨ OwL p b.loc) → b.kind ≠ .plain) ∧ (b.write = true → ∀ y, p.J0 < y → y ≤ p.J0 + j → ¬ RdL p.Keep y b.loc)
/-- .. and what it may do. -/
def DM (j : Nat) (w w' : World) (es : Array Event) : Prop :=
  (w'.heap[p.Wg]? = w.heap[p.Wg]? ∧ ∀ x, p.J0 < x → x ≤ p.J0 + j → ∀ b, p.Keep x b → w'.heap[b]? = w.heap[b]?) ∧ ∀ e ∈ es, EvM p j e

def Fin (x : Nat) (w : World) : Prop := w.heap[p.Ch x]? = some (p.Res x)

/-! ### goroutine x, from its end backwards -/
def R0 (x : Nat) (g : Goroutine) (w : World) : Prop := AtR0 p.P p.ty p.Wg (p.Bx x) 1 0 1 (p.vx x) g w ∧ Fin p x w
/-- It stands at a send on its channel, which has room. -/
def Snd (x : Nat) (g : Goroutine) (w : World) : Prop :=
  g.status = .running ∧ p.Hot x (p.Ch x) ∧ p.Ch x < p.B ∧ ∃ (g₂ : Goroutine) (v z : Value) (cap s r : Nat) (buf : Array Value) (tm : Bool), stepG p.P false g w = .comm g₂ #[scase (p.Ch x) v z] true .send w #[] ∧
    w.heap[p.Ch x]? = some (.chan cap buf false s r tm) ∧ buf.size < cap ∧ (Go.Conc.served g₂ undef).status = .running ∧ g₂.frame.fn = g.frame.fn ∧
    ∃ m, Goes p.P false (RK p x) (DK p x) (R0 p x) m (Go.Conc.served g₂ undef) (w.setChan (p.Ch x) cap (buf.push v) false (s + 1) r tm)

inductive WK (x : Nat) : Nat → Nat → Nat → Goroutine → World → Prop
  | snd {m : Nat} {g : Goroutine} {w : World} : Goes p.P false (RK p x) (DK p x) (Snd p x) m g w → WK x 8 m 0 g w
  | r0 {m : Nat} {g : Goroutine} {w : World} : Goes p.P false (RK p x) (DK p x) (R0 p x) m g w → WK x 7 m 0 g w
  | late {s m d : Nat} {g : Goroutine} {w : World} : s ≤ 6 → 2 ≤ s → WSit p.P p.ty p.Wg (p.Bx x) 1 (fun _ _ => False) (fun _ _ => False) 0 1 (p.vx x) s m d g w → Fin p x w → WK x s m d g w
  | quit {m d : Nat} {g : Goroutine} {w : World} : QuitsD p.P m d g → (p.J0 < x → x ≤ p.J0 + p.n → Fin p x w) → WK x 1 m d g w

/-- It is ready to be started. -/
def Ready (x : Nat) (g : Goroutine) (w : World) : Prop := ∃ s m, 7 ≤ s ∧ WK p x s m 0 g w

/-! ### the starter, from its end backwards -/
section
variable (Nx Anch : Goroutine → World → Prop)
def MAcq (g : Goroutine) (w : World) : Prop := g.status = .running ∧ ∃ g', stepG p.P true g w = .go g' w #[mk (.acquire (stA p.Wg))] ∧ g'.status = .running ∧ Nx g' w
def MKe (g : Goroutine) (w : World) : Prop := g.status = .running ∧ ∃ g', stepG p.P true g w = .go g' w #[mk .enable] ∧ ∃ m, (Goes p.P true (RM p p.n) (DM p p.n)) (MAcq p Nx) m g' w
def MW4 (g : Goroutine) (w : World) : Prop := g.status = .running ∧ (WgAt p.ty p.Wg w 0 0 → ∃ g', stepG p.P true g w = .go g' w #[rd (stA p.Wg)] ∧ ∃ m, (Goes p.P true (RM p p.n) (DM p p.n)) (MKe p Nx) m g' w)
def MW3 (g : Goroutine) (w : World) : Prop :=
  g.status = .running ∧ g.offers = none ∧ ((∃ st, WgAt p.ty p.Wg w st 0) → stepG p.P true g w = .go { g with status := .blocked } w #[]) ∧
    (WgAt p.ty p.Wg w 0 1 → ∃ g', stepG p.P true g w = .go g' (w.setCell (smA p.Wg) (.int .u32 0)) (semEvents (smA p.Wg)) ∧ ∃ m, (Goes p.P true (RM p p.n) (DM p p.n)) (MW4 p Nx) m g' (w.setCell (smA p.Wg) (.int .u32 0)))
def MW2 (vs : Nat) (g : Goroutine) (w : World) : Prop :=
  g.status = .running ∧ ∀ v : Nat, v < 2147483648 → WgAt p.ty p.Wg w (v * KK) 0 →
    (v = vs → ∃ g', stepG p.P true g w = .go g' (w.setCell (stA p.Wg) (.int .u64 (v * KK + 1))) #[rd (stA p.Wg), wr (stA p.Wg)] ∧ ∃ m, (Goes p.P true (RM p p.n) (DM p p.n)) (MW3 p Nx) m g' (w.setCell (stA p.Wg) (.int .u64 (v * KK + 1)))) ∧
    (v ≠ vs → ∃ g', stepG p.P true g w = .go g' w #[rd (stA p.Wg)] ∧ ∃ m, (Goes p.P true (RM p p.n) (DM p p.n)) Anch m g' w)
def MW1 (g : Goroutine) (w : World) : Prop :=
  g.status = .running ∧ ∀ v : Nat, v < 2147483648 → WgAt p.ty p.Wg w (v * KK) 0 → ∃ g', stepG p.P true g w = .go g' w #[rd (stA p.Wg)] ∧
    (v = 0 → ∃ m, (Goes p.P true (RM p p.n) (DM p p.n)) (MKe p Nx) m g' w) ∧ (v ≠ 0 → ∃ m, (Goes p.P true (RM p p.n) (DM p p.n)) (MW2 p Nx Anch v) m g' w)
def MKd (g : Goroutine) (w : World) : Prop := g.status = .running ∧ ∃ g', stepG p.P true g w = .go g' w #[mk .disable] ∧ ∃ m, (Goes p.P true (RM p p.n) (DM p p.n)) Anch m g' w
end
section
variable (Fn : Goroutine → World → Prop)
def MGo (j : Nat) (Next : Goroutine → World → Prop) (g : Goroutine) (w : World) : Prop :=
  g.status = .running ∧ ∃ g' child, stepG p.P true g w = .spawn g' child w #[] ∧ Ready p (p.J0 + j + 1) child w ∧ Next g' w
def MKeS (j : Nat) (Next : Goroutine → World → Prop) (g : Goroutine) (w : World) : Prop :=
  g.status = .running ∧ ∃ g', stepG p.P true g w = .go g' w #[mk .enable] ∧ ∃ m, (Goes p.P true (RM p j) (DM p j)) (MGo p j Next) m g' w
def MA1 (j : Nat) (Next : Goroutine → World → Prop) (g : Goroutine) (w : World) : Prop :=
  g.status = .running ∧ ∀ v : Nat, v < 2147483647 → WgAt p.ty p.Wg w (v * KK) 0 →
    ∃ g', stepG p.P true g w = .go g' (w.setCell (stA p.Wg) (.int .u64 ((v + 1) * KK))) #[rd (stA p.Wg), wr (stA p.Wg)] ∧ ∃ m, (Goes p.P true (RM p j) (DM p j)) (MKeS p j Next) m g' (w.setCell (stA p.Wg) (.int .u64 ((v + 1) * KK)))
def MKdS (j : Nat) (Next : Goroutine → World → Prop) (g : Goroutine) (w : World) : Prop :=
  g.status = .running ∧ ∃ g', stepG p.P true g w = .go g' w #[mk .disable] ∧ ∃ m, (Goes p.P true (RM p j) (DM p j)) (MA1 p j Next) m g' w
/-- r are still to be started. -/
def Starts : Nat → Goroutine → World → Prop
  | 0, g, w => Fn g w
  | r + 1, g, w => ∃ m, (Goes p.P true (RM p (p.n - (r + 1))) (DM p (p.n - (r + 1)))) (MKdS p (p.n - (r + 1)) (Starts r)) m g w
end

section
variable (Nx Anch : Goroutine → World → Prop)
/-- Into Wait. -/
def Into (g : Goroutine) (w : World) : Prop := ∃ m, (Goes p.P true (RM p p.n) (DM p p.n)) (MKd p Anch) m g w
inductive MS : CTag → Nat → Nat → Nat → Goroutine → World → Prop
  | skd {r m : Nat} {g : Goroutine} {w : World} : r < p.n → (Goes p.P true (RM p (p.n - (r + 1))) (DM p (p.n - (r + 1)))) (MKdS p (p.n - (r + 1)) (Starts p (Into p Anch) r)) m g w → MS (.sp r 5) (p.n - (r + 1)) m 0 g w
  | sa1 {r m : Nat} {g : Goroutine} {w : World} : r < p.n → (Goes p.P true (RM p (p.n - (r + 1))) (DM p (p.n - (r + 1)))) (MA1 p (p.n - (r + 1)) (Starts p (Into p Anch) r)) m g w → MS (.sp r 4) (p.n - (r + 1)) m 1 g w
  | ske {r m : Nat} {g : Goroutine} {w : World} : r < p.n → (Goes p.P true (RM p (p.n - (r + 1))) (DM p (p.n - (r + 1)))) (MKeS p (p.n - (r + 1)) (Starts p (Into p Anch) r)) m g w → MS (.sp r 3) (p.n - (r + 1)) m 1 g w
  | sgo {r m : Nat} {g : Goroutine} {w : World} : r < p.n → (Goes p.P true (RM p (p.n - (r + 1))) (DM p (p.n - (r + 1)))) (MGo p (p.n - (r + 1)) (Starts p (Into p Anch) r)) m g w → MS (.sp r 2) (p.n - (r + 1)) m 0 g w
  | kd {m : Nat} {g : Goroutine} {w : World} : (Goes p.P true (RM p p.n) (DM p p.n)) (MKd p Anch) m g w → MS .kd p.n m 0 g w
  | anch {m : Nat} {g : Goroutine} {w : World} : (Goes p.P true (RM p p.n) (DM p p.n)) Anch m g w → MS .anch p.n m 1 g w
  | w1 {m : Nat} {g : Goroutine} {w : World} : (Goes p.P true (RM p p.n) (DM p p.n)) (MW1 p Nx Anch) m g w → MS .w1 p.n m 1 g w
  | w2 {vs m : Nat} {g : Goroutine} {w : World} : (Goes p.P true (RM p p.n) (DM p p.n)) (MW2 p Nx Anch vs) m g w → MS (.w2 vs) p.n m 1 g w
  | w3 {m : Nat} {g : Goroutine} {w : World} : (Goes p.P true (RM p p.n) (DM p p.n)) (MW3 p Nx) m g w → MS .w3 p.n (m + 1) 1 g w
  | blk {g : Goroutine} {w : World} : (∀ w₁, RM p p.n w w₁ → MW3 p Nx g w₁) → MS .blk p.n 0 1 { g with status := .blocked } w
  | w4 {m : Nat} {g : Goroutine} {w : World} : (Goes p.P true (RM p p.n) (DM p p.n)) (MW4 p Nx) m g w → MS .w4 p.n m 1 g w
  | ke {m : Nat} {g : Goroutine} {w : World} : (Goes p.P true (RM p p.n) (DM p p.n)) (MKe p Nx) m g w → MS .ke p.n m 1 g w
  | acq {m : Nat} {g : Goroutine} {w : World} : (Goes p.P true (RM p p.n) (DM p p.n)) (MAcq p Nx) m g w → MS .acq p.n m 0 g w
end
end

/-! ### small laws -/
section
variable {p : Plan} {w w₁ w₂ : World}
theorem RK.refl (x : Nat) (w : World) : RK p x w w := ⟨fun _ _ => rfl, id⟩
theorem RK.trans {x : Nat} (h : RK p x w w₁) (h' : RK p x w₁ w₂) : RK p x w w₂ := ⟨fun b hb => (h'.keep b hb).trans (h.keep b hb), h'.live ∘ h.live⟩
theorem RM.refl {j : Nat} (w : World) : RM p j w w := ⟨rfl, rfl, rfl, rfl, fun _ _ _ => rfl, id⟩
theorem RM.trans {j : Nat} (h : RM p j w w₁) (h' : RM p j w₁ w₂) : RM p j w w₂ :=
  ⟨h'.tape.trans h.tape, h'.os.trans h.os, h'.output.trans h.output, h'.size.trans h.size, fun b h1 h2 => (h'.block b h1 h2).trans (h.block b h1 h2), h'.live ∘ h.live⟩
theorem RK.at (x : Nat) (w : World) (d : Nat) : RK p x w (w.at d) := ⟨fun _ _ => rfl, id⟩
theorem RM.at {j : Nat} (w : World) (d : Nat) : RM p j w (w.at d) := ⟨rfl, rfl, rfl, rfl, fun _ _ _ => rfl, id⟩
theorem AsideX.refl (x : Nat) (w : World) : AsideX p x w w := ⟨rfl, rfl, rfl, rfl, fun _ _ => rfl⟩

theorem WgLive.of_block {ty : TypeId} {Wg : Nat} (h : WgLive ty Wg w) (e : w₁.heap[Wg]? = w.heap[Wg]?) : WgLive ty Wg w₁ := let ⟨st, sm, x⟩ := h; ⟨st, sm, x.of_block e⟩

/-- Goroutine x's work is within what goroutine y and the starter suffer. -/
theorem RK.of_x (O : p.Ok) {x y : Nat} (hxy : x ≠ y) (h : AsideX p x w w₁) : RK p y w w₁ :=
  ⟨fun b hb => h.block b fun hh => O.apart x y b hxy hh hb, fun hl => WgLive.of_block hl (h.block _ (O.wgHot x))⟩
theorem RM.of_x (O : p.Ok) {x j : Nat} (h1 : p.J0 < x) (h2 : x ≤ p.J0 + j) (h : AsideX p x w w₁) : RM p j w w₁ :=
  ⟨h.tape, h.os, h.output, h.size, fun b _ hb => h.block b (hb x h1 h2), fun hl => WgLive.of_block hl (h.block _ (O.wgHot x))⟩
/-- A turn of the group's block. -/
theorem RK.of_wg (O : p.Ok) {x : Nat} (h : Aside p.Wg w w₁) (hl : WgLive p.ty p.Wg w₁) : RK p x w w₁ :=
  ⟨fun b hb => h.block b fun e => O.wgKeep x (e ▸ hb), fun _ => hl⟩
theorem RM.of_wg {j : Nat} (h : Aside p.Wg w w₁) (hl : WgLive p.ty p.Wg w₁) : RM p j w w₁ := ⟨h.tape, h.os, h.output, h.size, fun b hb _ => h.block b hb, fun _ => hl⟩
theorem RK.of_m {x j : Nat} (h1 : p.J0 < x) (h2 : x ≤ p.J0 + j) {es : Array Event} (h : DM p j w w₁ es) : RK p x w w₁ := ⟨h.1.2 x h1 h2, fun hl => WgLive.of_block hl h.1.1⟩

theorem rw0_of (O : p.Ok) {x : Nat} (h1 : p.J0 < x) (h2 : x ≤ p.J0 + p.n) (h : RK p x w w₁) : RW p.ty p.Wg (p.Bx x) 1 0 0 w w₁ := by
  have e := h.keep _ (O.bxKeep x h1 h2)
  exact ⟨fun b hb => by omega, h.live, fun ⟨cs, hc, hn⟩ => ⟨cs, e.trans hc, hn⟩, by simp [World.cell?, e]⟩

theorem WK.rely (O : p.Ok) {x s m d : Nat} {g : Goroutine} (h : WK p x s m d g w) (hx : s ≠ 1 → p.J0 < x ∧ x ≤ p.J0 + p.n) (hr : (p.J0 < x → x ≤ p.J0 + p.n → RK p x w w₁)) : WK p x s m d g w₁ := by
  have tr : ∀ a b c, RK p x a b → RK p x b c → RK p x a c := fun _ _ _ h1 h2 => h1.trans h2
  cases h with
  | snd h => obtain ⟨h1, h2⟩ := hx (by omega); exact .snd (Goes.rely tr h (hr h1 h2))
  | r0 h => obtain ⟨h1, h2⟩ := hx (by omega); exact .r0 (Goes.rely tr h (hr h1 h2))
  | late h6 h2' h hf =>
    obtain ⟨h1, h2⟩ := hx (by omega)
    exact .late h6 h2' (h.rely (by simpa using rw0_of O h1 h2 (hr h1 h2))) (((hr h1 h2).keep _ (O.chKeep x h1 h2)).trans hf)
  | quit h hf => exact .quit h fun h1 h2 => ((hr h1 h2).keep _ (O.chKeep x h1 h2)).trans (hf h1 h2)

theorem WK.status {x s m d : Nat} {g : Goroutine} (h : WK p x s m d g w) : g.status = .running ∨ g.status = .finished := by
  cases h with
  | snd h => exact .inl (Goes.running (fun _ _ y => y.1) w (RK.refl x w) h)
  | r0 h => exact .inl (Goes.running (fun _ _ y => y.1.1) w (RK.refl x w) h)
  | late _ _ h _ => exact h.status
  | quit h _ => exact h.status
theorem WK.running_of {x s m d : Nat} {g : Goroutine} (h : WK p x s m d g w) (hs : s ≠ 1) : g.status = .running := by
  cases h with
  | snd h => exact Goes.running (fun _ _ y => y.1) w (RK.refl x w) h
  | r0 h => exact Goes.running (fun _ _ y => y.1.1) w (RK.refl x w) h
  | late _ h2 h _ =>
    cases h with
    | r0 h => exact absurd h2 (by omega)
    | k1 h => exact Goes.running (fun _ _ x => x.1) w (RW.refl w) h
    | d1 h => exact Goes.running (fun _ _ x => x.1) w (RW.refl w) h
    | d2 h => exact Goes.running (fun _ _ x => x.1) w (RW.refl w) h
    | d3 h => exact Goes.running (fun _ _ x => x.1) w (RW.refl w) h
    | d4 h => exact Goes.running (fun _ _ x => x.1) w (RW.refl w) h
    | quit _ => omega
  | quit _ _ => omega
theorem WK.woken {x s m d : Nat} {g : Goroutine} (h : WK p x s m d g w) (P : Program) (a a' : Goroutine) (w' : World) : woken P a a' w' g = g := by
  unfold Go.Conc.woken
  split
  · exact again_running _ h.status
  · rfl
theorem WK.fin {x s m d : Nat} {g : Goroutine} (h : WK p x s m d g w) (hs : s ≤ 6) (h1 : p.J0 < x) (h2 : x ≤ p.J0 + p.n) : Fin p x w := by
  cases h with
  | snd _ => omega
  | r0 _ => omega
  | late _ _ _ hf => exact hf
  | quit _ hf => exact hf h1 h2

variable {Nx Anch : Goroutine → World → Prop} {tag : CTag} {j f d : Nat} {a : Goroutine}
theorem MS.rely (h : MS p Nx Anch tag j f d a w) (hr : RM p j w w₁) : MS p Nx Anch tag j f d a w₁ := by
  have tr : ∀ {j : Nat} (x y z), RM p j x y → RM p j y z → RM p j x z := fun _ _ _ h1 h2 => h1.trans h2
  cases h with
  | skd hn h => exact .skd hn (Goes.rely tr h hr)
  | sa1 hn h => exact .sa1 hn (Goes.rely tr h hr)
  | ske hn h => exact .ske hn (Goes.rely tr h hr)
  | sgo hn h => exact .sgo hn (Goes.rely tr h hr)
  | kd h => exact .kd (Goes.rely tr h hr)
  | anch h => exact .anch (Goes.rely tr h hr)
  | w1 h => exact .w1 (Goes.rely tr h hr)
  | w2 h => exact .w2 (Goes.rely tr h hr)
  | w3 h => exact .w3 (Goes.rely tr h hr)
  | blk h => exact .blk (fun w₂ h₂ => h w₂ (hr.trans h₂))
  | w4 h => exact .w4 (Goes.rely tr h hr)
  | ke h => exact .ke (Goes.rely tr h hr)
  | acq h => exact .acq (Goes.rely tr h hr)

theorem MS.status (hAr : ∀ g w, Anch g w → g.status = .running) (h : MS p Nx Anch tag j f d a w) : (a.status = .running ∧ tag ≠ .blk) ∨ (a.status = .blocked ∧ tag = .blk ∧ a.offers = none) := by
  have k : ∀ {S : Goroutine → World → Prop} {jj m : Nat} {g : Goroutine}, (∀ g w, S g w → g.status = .running) → Goes p.P true (RM p jj) (DM p jj) S m g w → g.status = .running := fun hS h => Goes.running hS w (.refl w) h
  cases h with
  | blk h => exact .inr ⟨rfl, rfl, (h w (.refl w)).2.1⟩
  | anch h => exact .inl ⟨k hAr h, by simp⟩
  | skd _ h => exact .inl ⟨k (fun _ _ x => x.1) h, by simp⟩
  | sa1 _ h => exact .inl ⟨k (fun _ _ x => x.1) h, by simp⟩
  | ske _ h => exact .inl ⟨k (fun _ _ x => x.1) h, by simp⟩
  | sgo _ h => exact .inl ⟨k (fun _ _ x => x.1) h, by simp⟩
  | kd h => exact .inl ⟨k (fun _ _ x => x.1) h, by simp⟩
  | w1 h => exact .inl ⟨k (fun _ _ x => x.1) h, by simp⟩
  | w2 h => exact .inl ⟨k (fun _ _ x => x.1) h, by simp⟩
  | w3 h => exact .inl ⟨k (fun _ _ x => x.1) h, by simp⟩
  | w4 h => exact .inl ⟨k (fun _ _ x => x.1) h, by simp⟩
  | ke h => exact .inl ⟨k (fun _ _ x => x.1) h, by simp⟩
  | acq h => exact .inl ⟨k (fun _ _ x => x.1) h, by simp⟩

/-- Under another's step. -/
theorem MS.wokenBy (hAr : ∀ g w, Anch g w → g.status = .running) (h : MS p Nx Anch tag j f d a w) (hr : RM p j w w₁) (g g' : Goroutine) :
    ∃ tag' f', MS p Nx Anch tag' j f' d (woken p.P g g' w₁ a) w₁ ∧ f' ≤ f + 1 ∧ (tag' = tag ∨ (tag = .blk ∧ tag' = .w3)) ∧ (mayWake p.P g = true → g'.status = .running → tag' ≠ .blk) := by
  have h' := h.rely hr
  unfold Go.Conc.woken
  split
  · rcases h'.status hAr with ⟨hs, hne⟩ | ⟨_, rfl, _⟩
    · exact ⟨tag, f, by rw [again_running _ (.inl hs)]; exact h', by omega, .inl rfl, fun _ _ => hne⟩
    · cases h' with
      | blk hb =>
        have h3 := hb w₁ (.refl w₁)
        exact ⟨.w3, 0 + 1, by rw [Go.ConcR.again_blocked h3.1 h3.2.1]; exact .w3 (Goes.stop hb), by omega, .inr ⟨rfl, rfl⟩, fun _ _ => by simp⟩
  · rename_i hc
    exact ⟨tag, f, h', by omega, .inl rfl, fun h1 h2 => absurd (by simp [h1, h2]) hc⟩
end
end Go.Proofs.Ytfgipjgjehjijaa
