/- Chapter 8: the table of commands. -/
import Derived.Test.YtonecelkkeakiaaGreatDoorC1
import Derived.MapFrom
import Derived.Lib.Builder
import Derived.WalkMore
namespace Go.Proofs.YtonecelkkeakiaaGreatDoor
open Go.RowKit
theorem ins_new (w : World) (r : Nat) (es : Array MapEntry) (clock : Nat) (k : ByteArray) (v : Value) (hw : w.heap[r]? = some (.map es clock)) (hn : Instr.findNow .string (.string k) es.toList 0 = some none) :
    (Instr.mapUpdate 45 (.map (some r)) (.string k) v).run Tryz.prog w = .ok () { w with heap := w.heap.setIfInBounds r (.map (es.push { key := .string k, val := v, born := clock }) (clock + 1)) } := by
  have hk : MapKept.IsKey .string (.string k) := trivial
  simp [Instr.mapUpdate, run_underlying Tryz.underlying45, MapKept.run_getObj_map hw, MapKept.run_checkKey Tryz.underlying9 hk, MapKept.run_findKey Tryz.underlying9 hn, MapKept.run_setObj_map _ hw, Result.andThen]
theorem ins_own (w : World) (es : Array MapEntry) (clock : Nat) (k : ByteArray) (v : Value) (hn : Instr.findNow .string (.string k) es.toList 0 = some none) :
    (Instr.mapUpdate 45 (.map (some w.heap.size)) (.string k) v).run Tryz.prog (w.alloc (.map es clock)) = .ok () (w.alloc (.map (es.push { key := .string k, val := v, born := clock }) (clock + 1))) := by
  rw [ins_new (w.alloc (.map es clock)) w.heap.size es clock k v (heap_alloc_new w _) hn]
  have : ∀ o o' : Obj, (w.heap.push o).setIfInBounds w.heap.size o' = w.heap.push o' := fun o o' => by
    apply Array.ext_getElem?
    intro i
    rcases Nat.lt_trichotomy i w.heap.size with h | h | h
    · rw [Array.getElem?_setIfInBounds_ne (by omega), Array.getElem?_push_lt h, Array.getElem?_push_lt h]
    · subst h; simp
    · rw [Array.getElem?_eq_none (by simp; omega), Array.getElem?_eq_none (by simp; omega)]
  show Result.ok () { w with heap := (w.heap.push _).setIfInBounds w.heap.size _ } = _
  rw [this]
  rfl
/-- the words, with what runs them, in the order of the text -/
def cmdL : List (ByteArray × Value) := [
(⟨#[99, 108, 97, 115, 115, 101, 115]⟩, (.agg #[.int .i64 (-1), .func (.func 46) #[] #[]])),
  (⟨#[112, 117, 116]⟩, (.agg #[.int .i64 2, .func (.func 47) #[] #[]])),
  (⟨#[100, 114, 111, 112]⟩, (.agg #[.int .i64 1, .func (.func 48) #[] #[]])),
  (⟨#[115, 112, 108, 105, 116]⟩, (.agg #[.int .i64 2, .func (.func 49) #[] #[]])),
  (⟨#[109, 111, 118, 101]⟩, (.agg #[.int .i64 1, .func (.func 50) #[] #[]])),
  (⟨#[108, 101, 97, 115, 116]⟩, (.agg #[.int .i64 0, .func (.func 51) #[] #[]])),
  (⟨#[115, 111, 114, 116]⟩, (.agg #[.int .i64 0, .func (.func 52) #[] #[]])),
  (⟨#[115, 104, 111, 119]⟩, (.agg #[.int .i64 0, .func (.func 53) #[] #[]])),
  (⟨#[112, 101, 114, 105, 111, 100]⟩, (.agg #[.int .i64 0, .func (.func 54) #[] #[]])),
  (⟨#[115, 104, 97, 114, 101]⟩, (.agg #[.int .i64 0, .func (.func 55) #[] #[]])),
  (⟨#[116, 105, 109, 101, 115]⟩, (.agg #[.int .i64 0, .func (.func 56) #[] #[]])),
  (⟨#[104, 111, 108, 101, 115]⟩, (.agg #[.int .i64 0, .func (.func 57) #[] #[]])),
  (⟨#[102, 105, 114, 115, 116]⟩, (.agg #[.int .i64 0, .func (.func 58) #[] #[]])),
  (⟨#[114, 117, 110]⟩, (.agg #[.int .i64 0, .func (.func 59) #[] #[]])),
  (⟨#[115, 112, 97, 114, 101]⟩, (.agg #[.int .i64 0, .func (.func 60) #[] #[]])),
  (⟨#[97, 108, 108]⟩, (.agg #[.int .i64 0, .func (.func 61) #[] #[]])),
  (⟨#[97, 112, 97, 114, 116]⟩, (.agg #[.int .i64 0, .func (.func 62) #[] #[]])),
  (⟨#[101, 120, 97, 99, 116]⟩, (.agg #[.int .i64 0, .func (.func 63) #[] #[]])),
  (⟨#[110, 97, 116, 117, 114, 97, 108]⟩, (.agg #[.int .i64 0, .func (.func 64) #[] #[]])),
  (⟨#[116, 119, 105, 110, 115]⟩, (.agg #[.int .i64 0, .func (.func 65) #[] #[]])),
  (⟨#[108, 105, 110, 101]⟩, (.agg #[.int .i64 3, .func (.func 66) #[] #[]])),
  (⟨#[115, 113, 117, 97, 114, 101, 115]⟩, (.agg #[.int .i64 2, .func (.func 67) #[] #[]])),
  (⟨#[112, 111, 119, 101, 114]⟩, (.agg #[.int .i64 3, .func (.func 68) #[] #[]])),
  (⟨#[111, 114, 100, 101, 114]⟩, (.agg #[.int .i64 2, .func (.func 69) #[] #[]])),
  (⟨#[114, 111, 111, 116]⟩, (.agg #[.int .i64 1, .func (.func 70) #[] #[]])),
  (⟨#[117, 110, 105, 116, 115]⟩, (.agg #[.int .i64 1, .func (.func 71) #[] #[]])),
  (⟨#[116, 105, 108, 101]⟩, (.agg #[.int .i64 (-1), .func (.func 72) #[] #[]])),
  (⟨#[115, 116, 101, 112]⟩, (.agg #[.int .i64 (-1), .func (.func 73) #[] #[]]))]
/-- the table when its first k words are laid -/
def cmdE : List (ByteArray × Value) → Nat → List MapEntry
  | [], _ => []
  | (k, v) :: l, i => { key := .string k, val := v, born := i } :: cmdE l (i + 1)
def cmdM (k : Nat) : Obj := .map (cmdE (cmdL.take k) 0).toArray k
theorem ins_k (w : World) (k : Nat) (x : ByteArray) (v : Value) (hn : Instr.findNow .string (.string x) (cmdE (cmdL.take k) 0) 0 = some none) (he : (cmdE (cmdL.take k) 0).toArray.push { key := .string x, val := v, born := k } = (cmdE (cmdL.take (k + 1)) 0).toArray) :
    (Instr.mapUpdate 45 (.map (some w.heap.size)) (.string x) v).run Tryz.prog (w.alloc (cmdM k)) = .ok () (w.alloc (cmdM (k + 1))) := by
  unfold cmdM
  rw [ins_own w _ k x v (by simpa using hn), he]
theorem mk_run (w : World) : (Instr.makeMap 45 none).run Tryz.prog w = .ok (.map (some w.heap.size)) (w.alloc (.map #[] 0)) := by
  simp [Instr.makeMap, newObj, Sem.run]
theorem cmdM_0 : cmdM 0 = .map #[] 0 := rfl
set_option maxRecDepth 100000 in
set_option maxHeartbeats 4000000 in
theorem c_commands (w : World) : Calls Tryz.prog 26 #[] w fun e w' => e = .returned (.map (some w.heap.size)) ∧ w.alloc (cmdM 28) = w' := by
  have hmk := mk_run w
  have h0 : (Instr.mapUpdate 45 (.map (some w.heap.size)) (.string ⟨#[99, 108, 97, 115, 115, 101, 115]⟩) (.agg #[.int .i64 (-1), .func (.func 46) #[] #[]])).run Tryz.prog (w.alloc (.map #[] 0)) = .ok () (w.alloc (cmdM 1)) := ins_k w 0 _ _ (by rfl) (by rfl)
  have h1 : (Instr.mapUpdate 45 (.map (some w.heap.size)) (.string ⟨#[112, 117, 116]⟩) (.agg #[.int .i64 2, .func (.func 47) #[] #[]])).run Tryz.prog (w.alloc (cmdM 1)) = .ok () (w.alloc (cmdM 2)) := ins_k w 1 _ _ (by rfl) (by rfl)
  have h2 : (Instr.mapUpdate 45 (.map (some w.heap.size)) (.string ⟨#[100, 114, 111, 112]⟩) (.agg #[.int .i64 1, .func (.func 48) #[] #[]])).run Tryz.prog (w.alloc (cmdM 2)) = .ok () (w.alloc (cmdM 3)) := ins_k w 2 _ _ (by rfl) (by rfl)
  have h3 : (Instr.mapUpdate 45 (.map (some w.heap.size)) (.string ⟨#[115, 112, 108, 105, 116]⟩) (.agg #[.int .i64 2, .func (.func 49) #[] #[]])).run Tryz.prog (w.alloc (cmdM 3)) = .ok () (w.alloc (cmdM 4)) := ins_k w 3 _ _ (by rfl) (by rfl)
  have h4 : (Instr.mapUpdate 45 (.map (some w.heap.size)) (.string ⟨#[109, 111, 118, 101]⟩) (.agg #[.int .i64 1, .func (.func 50) #[] #[]])).run Tryz.prog (w.alloc (cmdM 4)) = .ok () (w.alloc (cmdM 5)) := ins_k w 4 _ _ (by rfl) (by rfl)
  have h5 : (Instr.mapUpdate 45 (.map (some w.heap.size)) (.string ⟨#[108, 101, 97, 115, 116]⟩) (.agg #[.int .i64 0, .func (.func 51) #[] #[]])).run Tryz.prog (w.alloc (cmdM 5)) = .ok () (w.alloc (cmdM 6)) := ins_k w 5 _ _ (by rfl) (by rfl)
  have h6 : (Instr.mapUpdate 45 (.map (some w.heap.size)) (.string ⟨#[115, 111, 114, 116]⟩) (.agg #[.int .i64 0, .func (.func 52) #[] #[]])).run Tryz.prog (w.alloc (cmdM 6)) = .ok () (w.alloc (cmdM 7)) := ins_k w 6 _ _ (by rfl) (by rfl)
  have h7 : (Instr.mapUpdate 45 (.map (some w.heap.size)) (.string ⟨#[115, 104, 111, 119]⟩) (.agg #[.int .i64 0, .func (.func 53) #[] #[]])).run Tryz.prog (w.alloc (cmdM 7)) = .ok () (w.alloc (cmdM 8)) := ins_k w 7 _ _ (by rfl) (by rfl)
  have h8 : (Instr.mapUpdate 45 (.map (some w.heap.size)) (.string ⟨#[112, 101, 114, 105, 111, 100]⟩) (.agg #[.int .i64 0, .func (.func 54) #[] #[]])).run Tryz.prog (w.alloc (cmdM 8)) = .ok () (w.alloc (cmdM 9)) := ins_k w 8 _ _ (by rfl) (by rfl)
  have h9 : (Instr.mapUpdate 45 (.map (some w.heap.size)) (.string ⟨#[115, 104, 97, 114, 101]⟩) (.agg #[.int .i64 0, .func (.func 55) #[] #[]])).run Tryz.prog (w.alloc (cmdM 9)) = .ok () (w.alloc (cmdM 10)) := ins_k w 9 _ _ (by rfl) (by rfl)
  have h10 : (Instr.mapUpdate 45 (.map (some w.heap.size)) (.string ⟨#[116, 105, 109, 101, 115]⟩) (.agg #[.int .i64 0, .func (.func 56) #[] #[]])).run Tryz.prog (w.alloc (cmdM 10)) = .ok () (w.alloc (cmdM 11)) := ins_k w 10 _ _ (by rfl) (by rfl)
  have h11 : (Instr.mapUpdate 45 (.map (some w.heap.size)) (.string ⟨#[104, 111, 108, 101, 115]⟩) (.agg #[.int .i64 0, .func (.func 57) #[] #[]])).run Tryz.prog (w.alloc (cmdM 11)) = .ok () (w.alloc (cmdM 12)) := ins_k w 11 _ _ (by rfl) (by rfl)
  have h12 : (Instr.mapUpdate 45 (.map (some w.heap.size)) (.string ⟨#[102, 105, 114, 115, 116]⟩) (.agg #[.int .i64 0, .func (.func 58) #[] #[]])).run Tryz.prog (w.alloc (cmdM 12)) = .ok () (w.alloc (cmdM 13)) := ins_k w 12 _ _ (by rfl) (by rfl)
  have h13 : (Instr.mapUpdate 45 (.map (some w.heap.size)) (.string ⟨#[114, 117, 110]⟩) (.agg #[.int .i64 0, .func (.func 59) #[] #[]])).run Tryz.prog (w.alloc (cmdM 13)) = .ok () (w.alloc (cmdM 14)) := ins_k w 13 _ _ (by rfl) (by rfl)
  have h14 : (Instr.mapUpdate 45 (.map (some w.heap.size)) (.string ⟨#[115, 112, 97, 114, 101]⟩) (.agg #[.int .i64 0, .func (.func 60) #[] #[]])).run Tryz.prog (w.alloc (cmdM 14)) = .ok () (w.alloc (cmdM 15)) := ins_k w 14 _ _ (by rfl) (by rfl)
  have h15 : (Instr.mapUpdate 45 (.map (some w.heap.size)) (.string ⟨#[97, 108, 108]⟩) (.agg #[.int .i64 0, .func (.func 61) #[] #[]])).run Tryz.prog (w.alloc (cmdM 15)) = .ok () (w.alloc (cmdM 16)) := ins_k w 15 _ _ (by rfl) (by rfl)
  have h16 : (Instr.mapUpdate 45 (.map (some w.heap.size)) (.string ⟨#[97, 112, 97, 114, 116]⟩) (.agg #[.int .i64 0, .func (.func 62) #[] #[]])).run Tryz.prog (w.alloc (cmdM 16)) = .ok () (w.alloc (cmdM 17)) := ins_k w 16 _ _ (by rfl) (by rfl)
  have h17 : (Instr.mapUpdate 45 (.map (some w.heap.size)) (.string ⟨#[101, 120, 97, 99, 116]⟩) (.agg #[.int .i64 0, .func (.func 63) #[] #[]])).run Tryz.prog (w.alloc (cmdM 17)) = .ok () (w.alloc (cmdM 18)) := ins_k w 17 _ _ (by rfl) (by rfl)
  have h18 : (Instr.mapUpdate 45 (.map (some w.heap.size)) (.string ⟨#[110, 97, 116, 117, 114, 97, 108]⟩) (.agg #[.int .i64 0, .func (.func 64) #[] #[]])).run Tryz.prog (w.alloc (cmdM 18)) = .ok () (w.alloc (cmdM 19)) := ins_k w 18 _ _ (by rfl) (by rfl)
  have h19 : (Instr.mapUpdate 45 (.map (some w.heap.size)) (.string ⟨#[116, 119, 105, 110, 115]⟩) (.agg #[.int .i64 0, .func (.func 65) #[] #[]])).run Tryz.prog (w.alloc (cmdM 19)) = .ok () (w.alloc (cmdM 20)) := ins_k w 19 _ _ (by rfl) (by rfl)
  have h20 : (Instr.mapUpdate 45 (.map (some w.heap.size)) (.string ⟨#[108, 105, 110, 101]⟩) (.agg #[.int .i64 3, .func (.func 66) #[] #[]])).run Tryz.prog (w.alloc (cmdM 20)) = .ok () (w.alloc (cmdM 21)) := ins_k w 20 _ _ (by rfl) (by rfl)
  have h21 : (Instr.mapUpdate 45 (.map (some w.heap.size)) (.string ⟨#[115, 113, 117, 97, 114, 101, 115]⟩) (.agg #[.int .i64 2, .func (.func 67) #[] #[]])).run Tryz.prog (w.alloc (cmdM 21)) = .ok () (w.alloc (cmdM 22)) := ins_k w 21 _ _ (by rfl) (by rfl)
  have h22 : (Instr.mapUpdate 45 (.map (some w.heap.size)) (.string ⟨#[112, 111, 119, 101, 114]⟩) (.agg #[.int .i64 3, .func (.func 68) #[] #[]])).run Tryz.prog (w.alloc (cmdM 22)) = .ok () (w.alloc (cmdM 23)) := ins_k w 22 _ _ (by rfl) (by rfl)
  have h23 : (Instr.mapUpdate 45 (.map (some w.heap.size)) (.string ⟨#[111, 114, 100, 101, 114]⟩) (.agg #[.int .i64 2, .func (.func 69) #[] #[]])).run Tryz.prog (w.alloc (cmdM 23)) = .ok () (w.alloc (cmdM 24)) := ins_k w 23 _ _ (by rfl) (by rfl)
  have h24 : (Instr.mapUpdate 45 (.map (some w.heap.size)) (.string ⟨#[114, 111, 111, 116]⟩) (.agg #[.int .i64 1, .func (.func 70) #[] #[]])).run Tryz.prog (w.alloc (cmdM 24)) = .ok () (w.alloc (cmdM 25)) := ins_k w 24 _ _ (by rfl) (by rfl)
  have h25 : (Instr.mapUpdate 45 (.map (some w.heap.size)) (.string ⟨#[117, 110, 105, 116, 115]⟩) (.agg #[.int .i64 1, .func (.func 71) #[] #[]])).run Tryz.prog (w.alloc (cmdM 25)) = .ok () (w.alloc (cmdM 26)) := ins_k w 25 _ _ (by rfl) (by rfl)
  have h26 : (Instr.mapUpdate 45 (.map (some w.heap.size)) (.string ⟨#[116, 105, 108, 101]⟩) (.agg #[.int .i64 (-1), .func (.func 72) #[] #[]])).run Tryz.prog (w.alloc (cmdM 26)) = .ok () (w.alloc (cmdM 27)) := ins_k w 26 _ _ (by rfl) (by rfl)
  have h27 : (Instr.mapUpdate 45 (.map (some w.heap.size)) (.string ⟨#[115, 116, 101, 112]⟩) (.agg #[.int .i64 (-1), .func (.func 73) #[] #[]])).run Tryz.prog (w.alloc (cmdM 27)) = .ok () (w.alloc (cmdM 28)) := ins_k w 27 _ _ (by rfl) (by rfl)
  go_enter Tryz.func26, Tryz.ntmps26
  go_wp2_with fail
  go_ret
  exact ⟨rfl, rfl⟩
end Go.Proofs.YtonecelkkeakiaaGreatDoor
