/- The program's HoleLeast: a closure that recurs. -/
import Derived.Test.YtgdpebnnmklbjaaMg3
import Derived.Test.YtgdpebnnmklbjaaMathE
import Derived.Test.YtgdpebnnmklbjaaS21
import Derived.Laws.EntriesVeiled
namespace Go.Proofs.Ytgdpebnnmklbjaa
open Go.RowKit
theorem WidC.lt {w : World} {base : Nat} {v : Value} {zs : List Cl} (h : WidC w base v zs) : base ≤ w.heap.size := by
  obtain ⟨g, cap, cur, hv, hg, hc, hh, r⟩ := h
  have := block_lt hh
  omega
def LeastPost (E : Int) (zs : List Cl) (base : Nat) (w : World) (e : Ending) (w' : World) : Prop := ∃ v, e = .returned v ∧ WidC w' base v (lesL E zs) ∧ Below w.heap.size w w'
/-- a list of classes, perhaps with room behind it, or nothing -/
def WidV (w : World) (base : Nat) (v : Value) (zs : List Cl) : Prop := ∃ s cap room, v = .slice s zs.length cap ∧ OwnC w base 34 (.slice s zs.length room) zs
def RetWid (w : World) (zs : List Cl) (b : Bool) (e : Ending) (w' : World) : Prop := ∃ v, e = .returned (.tuple #[v, .bool b]) ∧ WidV w' w.heap.size v zs ∧ Below w.heap.size w w'
/-- what the law HoleLeast answers -/
def hleR (zs : List Cl) : List Cl := bif sysB zs then lesL (perI zs) zs else []
theorem hleR_t {zs : List Cl} (h : sysB zs = true) : hleR zs = lesL (perI zs) zs := by simp [hleR, h]
theorem hleR_f {zs : List Cl} (h : sysB zs = false) : hleR zs = [] := by simp [hleR, h]
theorem hleR_le (zs : List Cl) : (hleR zs).length ≤ zs.length := by
  unfold hleR
  cases sysB zs
  · simp
  · exact lesL_len _ _
end Go.Proofs.Ytgdpebnnmklbjaa
