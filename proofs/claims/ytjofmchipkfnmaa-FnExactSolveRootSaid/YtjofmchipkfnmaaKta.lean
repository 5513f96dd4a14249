/- What a run comes to (own text). -/
import Derived.Test.YtjofmchipkfnmaaKra
import Derived.Test.YtjofmchipkfnmaaKh
namespace Go.Proofs.Ytjofmchipkfnmaa
open Go Go.Conc Go.ConcN Go.RowKit Go.Conc.Lib Go.ConcR.Gen Go.ConcN.Gen
open Go.ConcR (KK wgBlock WgAt stA smA rd wr mk Payload DC0)

theorem events_equalIn_bool {P : Program} {w : World} (d : Nat) (t : TypeId) (a b : Bool) (es : Array Event) (h : P.underlying t = some .bool) : (Op.equalIn (d + 1) t (.bool a) (.bool b)).events P w es = es := by
  simp [Op.equalIn, run_underlying h]
@[go_sem] theorem events_neq_bool {P : Program} {w : World} (t : TypeId) (a b : Bool) (es : Array Event) (h : P.underlying t = some .bool) : (binOp .neq t (.bool a) (.bool b)).events P w es = es := by
  simp only [binOp]
  simp [Op.equal]
  exact events_equalIn_bool 9999 t a b es h
/-- The law's result. -/
def PostL (W : World) (v : Value) (w : World) : Prop := v = .bool true ∧ Below W.heap.size W w
def Ends (W : World) (m : Machine) (t : Trace) : Prop := ∃ M last o w' t', runNT Try.prog (M + 1) m t = (.ended o w', t') ∧ runN Try.prog M m = .next last ∧ step Try.prog last = .ended o w' ∧ Conc.Good Try.prog (PostL W) last o w' t'
theorem ends_pre {W : World} {m m₁ : Machine} {t t₁ : Trace} {K : Nat} (r : runNT Try.prog K m t = (.next m₁, t₁)) (h : Ends W m₁ t₁) : Ends W m t := by
  obtain ⟨M, last, o, w', t', e1, e2, e3, e4⟩ := h
  refine ⟨K + M, last, o, w', t', ?_, ?_, e3, e4⟩
  · rw [Nat.add_assoc, runNT_add, r]; exact e1
  · rw [runN_add, ← runNT_fst Try.prog _ _ t, r]; exact e2

end Go.Proofs.Ytjofmchipkfnmaa
