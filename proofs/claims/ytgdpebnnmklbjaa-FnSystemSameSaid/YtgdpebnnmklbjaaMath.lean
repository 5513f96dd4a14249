/- Plain facts on integers for the class contracts; no program is named here. -/
import Derived.Below
import Derived.WalkKit
import Derived.Deep.QuietTactic
namespace Go.Proofs.Ytgdpebnnmklbjaa
open Go.RowKit
theorem bt {p : Prop} [Decidable p] (h : p) : Ending.returned (.bool true) = Ending.returned (.bool (decide p)) := by simp [h]
theorem bf {p : Prop} [Decidable p] (h : ¬ p) : Ending.returned (.bool false) = Ending.returned (.bool (decide p)) := by simp [h]
theorem bd {p q : Prop} [Decidable p] [Decidable q] (h : p ↔ q) : Ending.returned (.bool (decide p)) = Ending.returned (.bool (decide q)) := by simp [h]
theorem ri {k : IntKind} {a b : Int} (h : a = b) : Ending.returned (.int k a) = .returned (.int k b) := by rw [h]
theorem rb {a b : Bool} (h : a = b) : Ending.returned (.bool a) = .returned (.bool b) := by rw [h]
/-- a modulus -/
def modB (m : Int) : Bool := decide (1 ≤ m ∧ m ≤ 1000)
/-- a number -/
def numB (x : Int) : Bool := decide (-1000000 ≤ x ∧ x ≤ 1000000)
/-- a class -/
def inB (r m : Int) : Bool := decide (1 ≤ m ∧ m ≤ 1000 ∧ 0 ≤ r ∧ r < m)
def l6B (n a b : Int) : Bool := decide (a ≤ n ∧ n ≤ b)
theorem modB_iff {m : Int} : modB m = true ↔ 1 ≤ m ∧ m ≤ 1000 := by simp [modB]
theorem numB_iff {m : Int} : numB m = true ↔ -1000000 ≤ m ∧ m ≤ 1000000 := by simp [numB]
theorem inB_iff {r m : Int} : inB r m = true ↔ 1 ≤ m ∧ m ≤ 1000 ∧ 0 ≤ r ∧ r < m := by simp [inB]
theorem modB_t {m : Int} (h : 1 ≤ m ∧ m ≤ 1000) : modB m = true := decide_eq_true h
theorem modB_f {m : Int} (h : ¬ (1 ≤ m ∧ m ≤ 1000)) : modB m = false := decide_eq_false h
theorem numB_t {m : Int} (h : -1000000 ≤ m ∧ m ≤ 1000000) : numB m = true := decide_eq_true h
theorem numB_f {m : Int} (h : ¬ (-1000000 ≤ m ∧ m ≤ 1000000)) : numB m = false := decide_eq_false h
theorem inB_t {r m : Int} (h : 1 ≤ m ∧ m ≤ 1000 ∧ 0 ≤ r ∧ r < m) : inB r m = true := decide_eq_true h
theorem inB_f {r m : Int} (h : ¬ (1 ≤ m ∧ m ≤ 1000 ∧ 0 ≤ r ∧ r < m)) : inB r m = false := decide_eq_false h
theorem l6B_t {n a b : Int} (h : a ≤ n ∧ n ≤ b) : l6B n a b = true := decide_eq_true h
theorem l6B_f {n a b : Int} (h : ¬ (a ≤ n ∧ n ≤ b)) : l6B n a b = false := decide_eq_false h

theorem tmod_bd (x m : Int) (hm : 1 ≤ m) : -m < x.tmod m ∧ x.tmod m < m := by
  rcases Int.le_total 0 x with h | h
  · rw [Int.tmod_eq_emod_of_nonneg h]
    have := Int.emod_nonneg x (show m ≠ 0 by omega); have := Int.emod_lt_of_pos x (show 0 < m by omega); omega
  · obtain ⟨y, rfl⟩ : ∃ y, x = -y := ⟨-x, by omega⟩
    rw [Int.neg_tmod, Int.tmod_eq_emod_of_nonneg (by omega)]
    have := Int.emod_nonneg y (show m ≠ 0 by omega); have := Int.emod_lt_of_pos y (show 0 < m by omega); omega
theorem tmod_emod (x m : Int) : (x.tmod m) % m = x % m := by
  have h := Int.mul_tdiv_add_tmod x m
  have e : x % m = (x.tmod m + m * x.tdiv m) % m := by rw [Int.add_comm, h]
  rw [e, Int.add_mul_emod_self_left]
theorem emod_bd (x m : Int) (hm : 1 ≤ m) : 0 ≤ x % m ∧ x % m < m := ⟨Int.emod_nonneg x (by omega), Int.emod_lt_of_pos x (by omega)⟩
theorem tmod_nn (x m : Int) (hm : 1 ≤ m) (h : 0 ≤ x.tmod m) : x.tmod m = x % m := by
  have := tmod_bd x m hm
  rw [← tmod_emod, Int.emod_eq_of_lt h this.2]
theorem tmod_ng (x m : Int) (hm : 1 ≤ m) (h : x.tmod m < 0) : x.tmod m + m = x % m := by
  have := tmod_bd x m hm
  rw [← tmod_emod, ← Int.add_emod_right, Int.emod_eq_of_lt (by omega) (by omega)]
theorem tmod_add_emod (x m : Int) (_hm : 1 ≤ m) : (x.tmod m + m) % m = x % m := by
  rw [Int.add_emod_right, tmod_emod]
/-! what the functions of chapter 1 come to -/
def selI (b : Bool) (t : Int) : Int := bif b then t else 0
theorem selI_t (t : Int) : selI true t = t := rfl
theorem selI_f (t : Int) : selI false t = 0 := rfl
def ofB (x m : Int) : Bool := numB x && modB m
def hasB (r m x : Int) : Bool := inB r m && numB x && (x % m == r)
def belB (r m s n : Int) : Bool := inB r m && inB s n && (m % n == 0) && (r % n == s)
def movB (r m x : Int) : Bool := inB r m && numB x
def scaB (r m k : Int) : Bool := inB r m && decide (1 ≤ k) && decide (m * k ≤ 1000)
def firI (r m x : Int) : Int := x + (r - x) % m
def firB (r m x : Int) : Bool := inB r m && numB x && numB (firI r m x)
def cntB (r m a b : Int) : Bool := inB r m && numB a && numB b
def cntI (r m a b : Int) : Int := if b ≤ firI r m a then 0 else (b - 1 - firI r m a) / m + 1
theorem ofB_t {x m : Int} (h : ofB x m = true) : numB x = true ∧ modB m = true := by simpa [ofB] using h
theorem ofB_f {x m : Int} (h : ¬ ofB x m = true) : numB x = false ∨ (numB x = true ∧ modB m = false) := by
  cases a : numB x <;> simp_all [ofB]
theorem hasB_t {r m x : Int} (h : hasB r m x = true) : inB r m = true ∧ numB x = true ∧ (x % m == r) = true := by simpa [hasB, and_assoc] using h
theorem belB_cases (r m s n : Int) : inB r m = false ∨ (inB r m = true ∧ inB s n = false) ∨ (inB r m = true ∧ inB s n = true) := by
  cases inB r m <;> cases inB s n <;> simp
theorem movB_cases (r m x : Int) : inB r m = false ∨ (inB r m = true ∧ numB x = false) ∨ (inB r m = true ∧ numB x = true) := by
  cases inB r m <;> cases numB x <;> simp
/-- a block laid ahead of a callee reads on behind it -/
theorem hasB_i {r m x : Int} (h1 : inB r m = true) (h2 : numB x = true) : (x % m == r) = hasB r m x := by simp [hasB, h1, h2]
theorem hasB_0 {r m x : Int} (h1 : inB r m = false) : false = hasB r m x := by simp [hasB, h1]
theorem hasB_1 {r m x : Int} (h2 : numB x = false) : false = hasB r m x := by simp [hasB, h2]
theorem belB_i {r m s n : Int} (h1 : inB r m = true) (h2 : inB s n = true) : (m % n == 0 && r % n == s) = belB r m s n := by simp [belB, h1, h2]
theorem belB_0 {r m s n : Int} (h1 : inB r m = false) : false = belB r m s n := by simp [belB, h1]
theorem belB_1 {r m s n : Int} (h1 : inB s n = false) : false = belB r m s n := by simp [belB, h1]
theorem movB_tt {r m x : Int} (h1 : inB r m = true) (h2 : numB x = true) : movB r m x = true := by simp [movB, h1, h2]
theorem movB_f0 {r m x : Int} (h1 : inB r m = false) : movB r m x = false := by simp [movB, h1]
theorem movB_f1 {r m x : Int} (h1 : numB x = false) : movB r m x = false := by simp [movB, h1]
theorem scaB_f0 {r m k : Int} (h1 : inB r m = false) : scaB r m k = false := by simp [scaB, h1]
theorem scaB_f1 {r m k : Int} (h1 : k < 1) : scaB r m k = false := by simp [scaB]; omega
theorem scaB_f2 {r m k : Int} (h1 : 1000 < m * k) : scaB r m k = false := by simp [scaB]; omega
theorem scaB_tt {r m k : Int} (h1 : inB r m = true) (h2 : 1 ≤ k) (h3 : m * k ≤ 1000) : scaB r m k = true := by simp [scaB, h1, h2, h3]
theorem quo_le {m k : Int} (hm : 1 ≤ m) : m * k ≤ 1000 ↔ k ≤ 1000 / m := by
  rw [Int.le_ediv_iff_mul_le (by omega), Int.mul_comm]
theorem prod_bd {r m k : Int} (h0 : 0 ≤ r) (h1 : r < m) (h2 : 1 ≤ k) : 0 ≤ r * k ∧ r * k < m * k ∧ k ≤ m * k :=
  ⟨Int.mul_nonneg h0 (by omega), Int.mul_lt_mul_of_pos_right h1 (by omega), by
    have := Int.mul_le_mul_of_nonneg_right (show (1 : Int) ≤ m by omega) (show 0 ≤ k by omega); omega⟩
theorem prod_bd2 {m k : Int} (h0 : 1 ≤ m) (h1 : m ≤ 1000) (h2 : 1 ≤ k) (h3 : k ≤ 1000000) : 0 ≤ m * k ∧ m * k ≤ 1000000000 :=
  ⟨Int.mul_nonneg (by omega) (by omega), by
    have := Int.mul_le_mul h1 h3 (by omega) (by omega); omega⟩
theorem prod_ge {m k : Int} (h0 : 1 ≤ m) (h2 : 1 ≤ k) : k ≤ m * k := by
  have := Int.mul_le_mul_of_nonneg_right h0 (show 0 ≤ k by omega); omega
theorem firI_bd {r m x : Int} (hm : 1 ≤ m) : x ≤ firI r m x ∧ firI r m x < x + m := by
  have := emod_bd (r - x) m hm; unfold firI; omega
theorem firB_f0 {r m x : Int} (h1 : inB r m = false) : firB r m x = false := by simp [firB, h1]
theorem firB_f1 {r m x : Int} (h1 : numB x = false) : firB r m x = false := by simp [firB, h1]
theorem firB_f2 {r m x : Int} (h1 : numB (firI r m x) = false) : firB r m x = false := by simp [firB, h1]
theorem firB_tt {r m x : Int} (h1 : inB r m = true) (h2 : numB x = true) (h3 : numB (firI r m x) = true) : firB r m x = true := by simp [firB, h1, h2, h3]
theorem cntB_f0 {r m x y : Int} (h1 : inB r m = false) : cntB r m x y = false := by simp [cntB, h1]
theorem cntB_f1 {r m x y : Int} (h1 : numB x = false) : cntB r m x y = false := by simp [cntB, h1]
theorem cntB_f2 {r m x y : Int} (h1 : numB y = false) : cntB r m x y = false := by simp [cntB, h1]
theorem cntB_tt {r m x y : Int} (h1 : inB r m = true) (h2 : numB x = true) (h3 : numB y = true) : cntB r m x y = true := by simp [cntB, h1, h2, h3]
theorem cntI_0 {r m a b : Int} (h : b ≤ firI r m a) : cntI r m a b = 0 := if_pos h
theorem cntI_1 {r m a b : Int} (h : firI r m a < b) : cntI r m a b = (b - 1 - firI r m a) / m + 1 := if_neg (by omega)
theorem quo_bd {x m : Int} (h : 0 ≤ x) (hm : 1 ≤ m) : 0 ≤ x / m ∧ x / m ≤ x := ⟨Int.ediv_nonneg h (by omega), Int.ediv_le_self _ h⟩
theorem mul_in {a b : Int} (h1 : -50 < a) (h2 : a < 50) (h3 : 1 ≤ b) (h4 : b ≤ 24) : -1200 ≤ a * b ∧ a * b ≤ 1200 := by
  rcases Int.le_total 0 a with h | h
  · have := Int.mul_nonneg h (show 0 ≤ b by omega)
    have := Int.mul_le_mul (show a ≤ 49 by omega) h4 (by omega) (by omega)
    omega
  · have := Int.mul_nonneg (show 0 ≤ -a by omega) (show 0 ≤ b by omega)
    have := Int.mul_le_mul (show -a ≤ 49 by omega) h4 (by omega) (by omega)
    rw [Int.neg_mul] at *
    omega
theorem emod_id {r m : Int} (h : inB r m = true) : r % m = r := by
  obtain ⟨_, _, h3, h4⟩ := inB_iff.1 h; exact Int.emod_eq_of_lt h3 h4
theorem in_of {r m : Int} (h : inB r m = true) : ofB r m = true := by
  obtain ⟨h1, h2, h3, h4⟩ := inB_iff.1 h
  simp [ofB, numB_t (m := r) ⟨by omega, by omega⟩, modB_t ⟨h1, h2⟩]
theorem in_num {r m : Int} (h : inB r m = true) : numB r = true := by
  obtain ⟨h1, h2, h3, h4⟩ := inB_iff.1 h
  exact numB_t ⟨by omega, by omega⟩
theorem in_has {r m : Int} (h : inB r m = true) : hasB r m r = true := by
  simp [hasB, h, in_num h, emod_id h]
theorem in_bel {r m : Int} (h : inB r m = true) : belB r m r m = true := by
  simp [belB, h, emod_id h]
theorem of_in {x m : Int} (h : modB m = true) : inB (x % m) m = true := by
  obtain ⟨h1, h2⟩ := modB_iff.1 h
  have := emod_bd x m h1
  exact inB_t ⟨h1, h2, this.1, this.2⟩
theorem of_has {x m : Int} (h : ofB x m = true) : hasB (x % m) m x = true := by
  obtain ⟨h1, h2⟩ := ofB_t h
  simp [hasB, of_in h2, h1]
/-- moved, and moved back -/
theorem mov_back {r m x : Int} (h : movB r m x = true) : movB ((r + x) % m) m (0 - x) = true ∧ ((r + x) % m + (0 - x)) % m = r := by
  have h' : inB r m = true ∧ numB x = true := by simpa [movB] using h
  obtain ⟨h1, h2⟩ := h'
  obtain ⟨m1, m2, r1, r2⟩ := inB_iff.1 h1
  obtain ⟨x1, x2⟩ := numB_iff.1 h2
  refine ⟨movB_tt (of_in (modB_t ⟨m1, m2⟩)) (numB_t ⟨by omega, by omega⟩), ?_⟩
  rw [Int.emod_add_emod]
  rw [show r + x + (0 - x) = r by omega]
  exact Int.emod_eq_of_lt r1 r2
theorem mov_back' {r m x : Int} (h : movB r m x = true) : movB ((r + x) % m) m (-x) = true ∧ ((r + x) % m + -x) % m = r ∧ (r + x + -x) % m = r ∧ r % m = r := by
  obtain ⟨h1, h2⟩ := mov_back h
  rw [Int.zero_sub] at h1 h2
  have h' : inB r m = true ∧ numB x = true := by simpa [movB] using h
  refine ⟨h1, h2, ?_, emod_id h'.1⟩
  rw [show r + x + -x = r by omega]; exact emod_id h'.1
/-- scaled classes -/
theorem sca_has {r m k : Int} (h : scaB r m k = true) : hasB (r * k) (m * k) (k * r) = true ∧ belB (r * k) (m * k) 0 k = true := by
  have h' : inB r m = true ∧ 1 ≤ k ∧ m * k ≤ 1000 := by simpa [scaB, and_assoc] using h
  obtain ⟨h1, h2, h3⟩ := h'
  obtain ⟨m1, m2, r1, r2⟩ := inB_iff.1 h1
  have hp := prod_bd r1 r2 h2
  have hi : inB (r * k) (m * k) = true := inB_t ⟨by omega, h3, hp.1, hp.2.1⟩
  constructor
  · rw [Int.mul_comm k r]; exact in_has hi
  · have hk : inB 0 k = true := inB_t ⟨h2, by omega, by omega, by omega⟩
    simp [belB, hi, hk]
theorem fir_has {r m x : Int} (h : firB r m x = true) : hasB r m (firI r m x) = true := by
  have h' : inB r m = true ∧ numB x = true ∧ numB (firI r m x) = true := by simpa [firB, and_assoc] using h
  obtain ⟨h1, h2, h3⟩ := h'
  obtain ⟨m1, m2, r1, r2⟩ := inB_iff.1 h1
  have e : firI r m x % m = r := by
    unfold firI
    rw [Int.add_emod_emod, show x + (r - x) = r by omega]
    exact Int.emod_eq_of_lt r1 r2
  simp [hasB, h1, h3, e]
theorem mul_bd24 {x r : Int} (h1 : 0 ≤ x) (h2 : x ≤ 107) (h3 : 0 ≤ r) (h4 : r ≤ 24) : 0 ≤ x * r ∧ x * r ≤ 2568 := by
  refine ⟨Int.mul_nonneg h1 h3, ?_⟩
  have := Int.mul_le_mul h2 h4 h3 (by omega)
  omega
theorem kc {w w' : World} {cs : Array Value} {t : TypeId} (hb : Below (w.alloc (.cells cs t)).heap.size (w.alloc (.cells cs t)) w') (i : Nat) : w'.cell? ⟨w.heap.size, i, none⟩ = cs[i]? := by
  rw [hb.cell (p := ⟨w.heap.size, i, none⟩) (by simp)]
  simp
theorem kz {w w' : World} {o : Obj} (hb : Below (w.alloc o).heap.size (w.alloc o) w') : w.heap.size < w'.heap.size := by
  have := hb.size; simp at this; omega
theorem kf {w w' : World} {cs : Array Value} {t : TypeId} (hb : Below (w.alloc (.cells cs t)).heap.size (w.alloc (.cells cs t)) w') (i : Nat) : w'.frozen? ⟨w.heap.size, i, none⟩ = false := by
  rw [hb.frozen (p := ⟨w.heap.size, i, none⟩) (by simp)]
  simp
theorem bt2 {w a b : World} (h : Below w.heap.size w a) (k : Below a.heap.size a b) : Below w.heap.size w b := h.trans (k.mono h.size)
theorem ba {w a : World} (h : Below w.heap.size w a) (o : Obj) : Below w.heap.size w (a.alloc o) := h.alloc h.size o
theorem cell_other {w : World} {a b : Addr} {v : Value} (h : a ≠ b) : (w.setCell a v).cell? b = w.cell? b := by
  apply World.cell?_setCell_other; exact h
theorem cell_ret0 {w : World} {C : Nat} {x y : Value} (h0 : w.cell? ⟨C, 0, none⟩ = some x) (_h1 : w.cell? ⟨C, 1, none⟩ = some y) (a b : Value) (o : Obj) : (((w.setCell ⟨C, 0, none⟩ a).setCell ⟨C, 1, none⟩ b).alloc o).cell? ⟨C, 0, none⟩ = some a := by
  have e : ((w.setCell ⟨C, 0, none⟩ a).setCell ⟨C, 1, none⟩ b).cell? ⟨C, 0, none⟩ = some a := by
    rw [cell_other (by simp), World.cell?_setCell_same' _ _ _ (by rw [h0]; rfl)]
  rw [(ba (Below.refl ((w.setCell ⟨C, 0, none⟩ a).setCell ⟨C, 1, none⟩ b).heap.size _) o).cell (World.block_lt_of_cell? _ _ e)]
  exact e
theorem cell_ret1 {w : World} {C : Nat} {x y : Value} (_h0 : w.cell? ⟨C, 0, none⟩ = some x) (h1 : w.cell? ⟨C, 1, none⟩ = some y) (a b : Value) (o : Obj) : (((w.setCell ⟨C, 0, none⟩ a).setCell ⟨C, 1, none⟩ b).alloc o).cell? ⟨C, 1, none⟩ = some b := by
  have e : ((w.setCell ⟨C, 0, none⟩ a).setCell ⟨C, 1, none⟩ b).cell? ⟨C, 1, none⟩ = some b := by
    rw [World.cell?_setCell_same' _ _ _ (by rw [cell_other (by simp), h1]; rfl)]
  rw [(ba (Below.refl ((w.setCell ⟨C, 0, none⟩ a).setCell ⟨C, 1, none⟩ b).heap.size _) o).cell (World.block_lt_of_cell? _ _ e)]
  exact e
theorem cell_new (w : World) (cs : Array Value) (t : TypeId) (i : Nat) : (w.alloc (.cells cs t)).cell? ⟨w.heap.size, i, none⟩ = cs[i]? := by simp
theorem ret_box (w : World) (p q : Addr) (a b : Value) (cs : Array Value) (t : TypeId) (i : Nat) : (((w.setCell p a).setCell q b).alloc (.cells cs t)).cell? ⟨w.heap.size, i, none⟩ = cs[i]? := by
  have e : w.heap.size = ((w.setCell p a).setCell q b).heap.size := by simp [World.setCell]
  have h := cell_new ((w.setCell p a).setCell q b) cs t i
  rwa [← e] at h
theorem bel_drewN {B : Nat} {a w : World} (h : Below B a w) (n : Nat) : Below B a (w.drewN n) := h.trans ⟨rfl, rfl, rfl, Nat.le_refl _, fun _ _ => rfl⟩
theorem size_drewN (w : World) (n : Nat) : (w.drewN n).heap.size = w.heap.size := rfl
end Go.Proofs.Ytgdpebnnmklbjaa
