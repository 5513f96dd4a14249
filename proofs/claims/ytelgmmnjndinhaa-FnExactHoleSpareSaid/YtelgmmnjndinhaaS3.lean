/- Contracts of SystemMoved, in the program and in the model: the list is new memory. -/
import Derived.Test.YtelgmmnjndinhaaH1
import Derived.Test.YtelgmmnjndinhaaS1
import Derived.Test.YtelgmmnjndinhaaStepA
namespace Go.Proofs.Ytelgmmnjndinhaa
open Go.RowKit
/-- it returns a list of its own, and whether it succeeded -/
def RetC (w : World) (zs : List Cl) (ok : Bool) (e : Ending) (w' : World) : Prop := ∃ v, e = .returned (.tuple #[v, .bool ok]) ∧ OwnC w' w.heap.size 45 v zs ∧ Below w.heap.size w w'
theorem OwnC.nil (w : World) (base : Nat) (e : TypeId) : OwnC w base e (.slice none 0 0) [] := World.ownsRow_nil w base e 2
/-- what SystemMoved comes to -/
def movL (x : Int) (zs : List Cl) : List Cl := zs.map fun c => ((c.1 + x) % c.2, c.2)
theorem movL_length (x : Int) (zs : List Cl) : (movL x zs).length = zs.length := by simp [movL]
theorem movL_take (x : Int) (zs : List Cl) (k : Nat) (h : k < zs.length) : (movL x zs).take (k + 1) = (movL x zs).take k ++ [((rAt zs k + x) % mAt zs k, mAt zs k)] := by
  rw [List.take_succ_eq_append_getElem (by simp [movL, h])]
  simp [movL, rAt, mAt, h]
theorem cells2_one (r m : Int) : cells2 [(r, m)] = [.int .i64 r, .int .i64 m] := rfl
theorem two_new (w : World) (a b : Value) (t : TypeId) : ∀ j u, [a, b][j]? = some u → (w.alloc (.cells #[a, b] t)).cell? ((⟨w.heap.size, 0, none⟩ : Addr).add j) = some u := by
  intro j u h
  match j, h with
  | 0, h => simpa [Addr.add] using h
  | 1, h => simpa [Addr.add] using h
def movsB (x : Int) (zs : List Cl) : Bool := sysB zs && numB x
def movR (x : Int) (zs : List Cl) : List Cl := bif movsB x zs then movL x zs else []
theorem movR_le (x : Int) (zs : List Cl) : (movR x zs).length ≤ zs.length := by
  unfold movR; cases movsB x zs <;> simp [movL]
end Go.Proofs.Ytelgmmnjndinhaa
