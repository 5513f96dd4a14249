/- How many classes of a system have a number; the model's SystemTimes. -/
import Derived.Test.YtenghhoofpjcaaaS1
import Derived.Test.YtenghhoofpjcaaaStepA
namespace Go.Proofs.Ytenghhoofpjcaaa
open Go.RowKit
/-- how many of the first k classes have x -/
def cntK (zs : List Cl) (x : Int) : Nat → Int
  | 0 => 0
  | k + 1 => cntK zs x k + (if x % mAt zs k = rAt zs k then 1 else 0)
def cntN (zs : List Cl) (x : Int) : Int := cntK zs x zs.length
theorem cntK_bd (zs : List Cl) (x : Int) (k : Nat) : 0 ≤ cntK zs x k ∧ cntK zs x k ≤ k := by
  induction k with
  | zero => simp [cntK]
  | succ k ih => simp only [cntK]; split <;> omega
def timL (zs : List Cl) : List Int := (List.range (perI zs).toNat).map fun (x : Nat) => cntN zs x
def timR (zs : List Cl) : List Int := bif sysB zs then timL zs else []
theorem timL_length (zs : List Cl) : (timL zs).length = (perI zs).toNat := by simp [timL]
theorem timL_take (zs : List Cl) (k : Nat) (h : k < (perI zs).toNat) : (timL zs).take (k + 1) = (timL zs).take k ++ [cntN zs k] := by
  rw [List.take_succ_eq_append_getElem (by simp [timL, h])]
  simp [timL]
theorem timR_t {zs : List Cl} (h : sysB zs = true) : timR zs = timL zs := by simp [timR, h]
theorem timR_f {zs : List Cl} (h : sysB zs = false) : timR zs = [] := by simp [timR, h]
theorem timR_le (zs : List Cl) : (timR zs).length ≤ 1000 := by
  cases h : sysB zs
  · simp [timR_f h]
  · rw [timR_t h, timL_length]
    obtain ⟨_, _, _, _, _, h2⟩ := sysB_facts h
    omega
theorem infoI : (Try.prog.info? 3).map (fun i => (i.zero, i.size, i.bytes)) = some (some (.int .i64 0), 1, 8) := by kernel_rfl
theorem OwnI.nil (w : World) (base : Nat) (e : TypeId) : OwnI w base e (.slice none 0 0) [] := World.ownsRow_nil w base e 1
theorem one_new (w : World) (x : Value) (t : TypeId) : ∀ j u, [x][j]? = some u → (w.alloc (.cells #[x] t)).cell? ((⟨w.heap.size, 0, none⟩ : Addr).add j) = some u := by
  intro j u h
  match j, h with
  | 0, h => simpa [Addr.add] using h
/-- it returns a list of numbers of its own, and whether it succeeded -/
def RetI (w : World) (zs : List Int) (ok : Bool) (e : Ending) (w' : World) : Prop := ∃ v, e = .returned (.tuple #[v, .bool ok]) ∧ OwnI w' w.heap.size 3 v zs ∧ Below w.heap.size w w'
end Go.Proofs.Ytenghhoofpjcaaa
