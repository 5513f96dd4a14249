/- Where a run begins; the entries of '==' of bools (own text). -/
import Derived.Test.YtfgipjgjehjijaaLd
import Derived.Test.YtfgipjgjehjijaaLb
namespace Go.Proofs.Ytfgipjgjehjijaa
open Go Go.Conc Go.ConcN Go.RowKit Go.Conc.Lib Go.ConcR.Gen Go.ConcN.Gen
open Go.ConcR (KK wgBlock WgAt stA smA rd wr mk Payload DC0)

@[go_sem] theorem events_eql_bool {P : Program} {w : World} (t : TypeId) (a b : Bool) (es : Array Event) (h : P.underlying t = some .bool) : (binOp .eql t (.bool a) (.bool b)).events P w es = es := by
  simp only [binOp]
  simp [Op.equal]
  exact events_equalIn_bool 9999 t a b es h
/-- Where a run begins. -/
theorem first_at (B : Nat) (W : World) (g : Goroutine) : At (fun _ => False) B (fun g' w => g' = g ∧ Fa W.heap.size W W.heap.size [] w) 1 (solo g W) #[] :=
  ⟨#[g], g, W, none, fun _ => 0, solo_eq_crowd _ _, rfl, rfl, ⟨rfl, ⟨rfl, fun _ _ => rfl, by simp, rfl, rfl, rfl⟩⟩, leavers_one _ _, past_nil.mono (Nat.zero_le _)⟩
/-- From a place before all goroutines. -/
theorem At.stn {B s N : Nat} {W : World} {L : List (Nat × Obj)} {sz : Nat} {g : Goroutine} {mc : Machine} {t : Trace} (h : At (fun _ => False) B (fun g' w => g' = g ∧ Fa N W sz L w) s mc t) (hN : N ≤ sz) : Stn B N W L sz g mc t :=
  ⟨fun _ => False, s, sz, hN, Nat.le_refl _, fun _ h => h.elim, fun _ h => h.elim, h⟩

end Go.Proofs.Ytfgipjgjehjijaa
