/- The walk of the exact law of ClassMeet. -/
import Derived.Test.YtjbilfbnegokfaaR3
import Derived.Test.YtjbilfbnegokfaaMathS
import Derived.Deep.DeepCutAuto
import Derived.Deep.RegionHeld3
namespace Go.Proofs.Ytjbilfbnegokfaa
open Go.RowKit
/-- what lies above two own boxes -/
def Abw (w : World) (r m s n : Int) (w' : World) : Prop := Below ((w.alloc (Obj.cells #[Value.int IntKind.i64 r, Value.int IntKind.i64 m] 23)).alloc (Obj.cells #[Value.int IntKind.i64 s, Value.int IntKind.i64 n] 23)).heap.size ((w.alloc (Obj.cells #[Value.int IntKind.i64 r, Value.int IntKind.i64 m] 23)).alloc (Obj.cells #[Value.int IntKind.i64 s, Value.int IntKind.i64 n] 23)) w'
theorem Abw.c0 {w w' : World} {r m s n : Int} (h : Abw w r m s n w') : w'.cell? ⟨w.heap.size, 0, none⟩ = some (.int .i64 r) ∧ w'.cell? ⟨w.heap.size, 1, none⟩ = some (.int .i64 m) ∧ w'.cell? ⟨w.heap.size + 1, 0, none⟩ = some (.int .i64 s) ∧ w'.cell? ⟨w.heap.size + 1, 1, none⟩ = some (.int .i64 n) := by
  refine ⟨?_, ?_, ?_, ?_⟩
  all_goals
    rw [Below.cell h (by simp <;> omega)]
    simp
theorem Abw.z {w w' : World} {r m s n : Int} (h : Abw w r m s n w') : w.heap.size + 1 + 1 ≤ w'.heap.size := by
  have := Below.size h; simp at this; omega
theorem Abw.on {w a b : World} {r m s n : Int} (h : Abw w r m s n a) (k : Below a.heap.size a b) : Abw w r m s n b := bt2 (w := (w.alloc (Obj.cells #[Value.int IntKind.i64 r, Value.int IntKind.i64 m] 23)).alloc (Obj.cells #[Value.int IntKind.i64 s, Value.int IntKind.i64 n] 23)) h k
theorem Abw.drew {w a : World} {r m s n : Int} (h : Abw w r m s n a) : Abw w r m s n a.drew := Below.drew h
theorem Abw.alloc {w a : World} {r m s n : Int} (h : Abw w r m s n a) (o : Obj) : Abw w r m s n (a.alloc o) := ba (w := (w.alloc (Obj.cells #[Value.int IntKind.i64 r, Value.int IntKind.i64 m] 23)).alloc (Obj.cells #[Value.int IntKind.i64 s, Value.int IntKind.i64 n] 23)) h o
theorem Abw.set {w a : World} {r m s n : Int} (h : Abw w r m s n a) {B i : Nat} (hB : w.heap.size + 1 + 1 ≤ B) (v : Value) : Abw w r m s n (a.setCell ⟨B, i, none⟩ v) := Below.setCell h (by simp; omega) _
theorem Abw.refl (w : World) (r m s n : Int) : Abw w r m s n ((w.alloc (Obj.cells #[Value.int IntKind.i64 r, Value.int IntKind.i64 m] 23)).alloc (Obj.cells #[Value.int IntKind.i64 s, Value.int IntKind.i64 n] 23)) := Below.refl _ _
theorem Abw.all {w a : World} {r m s n : Int} (h : Abw w r m s n a) : Below w.heap.size w a := bt2 (ba (ba (Below.refl _ w) _) _) h
theorem newbox3 {X w1 : World} {a b : Value} {t : TypeId} (hb : Below (X.alloc (.cells #[a, b] t)).heap.size (X.alloc (.cells #[a, b] t)) w1) :
    w1.cell? ⟨X.heap.size, 0, none⟩ = some a ∧ w1.cell? ⟨X.heap.size, 1, none⟩ = some b ∧ w1.frozen? ⟨X.heap.size, 0, none⟩ = false ∧ w1.frozen? ⟨X.heap.size, 1, none⟩ = false ∧ X.heap.size < w1.heap.size :=
  ⟨kc hb 0, kc hb 1, kf hb 0, kf hb 1, kz hb⟩
set_option maxHeartbeats 4000000 in
theorem w_FnExactClassMeet (r0 m0 r1 m1 : Int) (w : World) : Calls Try.prog 3 #[.agg #[.int .i64 r0, .int .i64 m0], .agg #[.int .i64 r1, .int .i64 m1]] w fun e w' => e = .returned (.bool true) ∧ Below w.heap.size w w' := by
  have hK0 := Abw.refl w r0 m0 r1 m1
  have e2 : w.heap.size + 1 + 1 ≠ w.heap.size := by omega
  have e3 : w.heap.size + 1 + 1 ≠ w.heap.size + 1 := by omega
  go_enter Try.func3, Try.ntmps3
  go_wp2_with fail
  go_cut [5, 6] (fun a b wx => ∃ B, a = .pointer (some ⟨B, 0, none⟩) ∧ b = .bool (mtB r0 m0 r1 m1) ∧ w.heap.size + 1 + 1 ≤ B ∧ wx.cell? ⟨B, 0, none⟩ = some (.int .i64 (selI (mtB r0 m0 r1 m1) (metX m0 r1 m1 r0))) ∧ wx.cell? ⟨B, 1, none⟩ = some (.int .i64 (selI (mtB r0 m0 r1 m1) (lcmI m0 m1))) ∧ Abw w r0 m0 r1 m1 wx)
  case first =>
    go_region_held3 (fun w' => w'.cell? ⟨w.heap.size, 0, none⟩ = some (.int .i64 r0) ∧ w'.cell? ⟨w.heap.size, 1, none⟩ = some (.int .i64 m0) ∧ w'.cell? ⟨w.heap.size + 1, 0, none⟩ = some (.int .i64 r1) ∧ w'.cell? ⟨w.heap.size + 1, 1, none⟩ = some (.int .i64 m1)) (go_keep) (first | (go_at_call 12; refine (c_toClass _ _ _).mono ?_; rintro e w1 ⟨rfl, hb⟩; have hK : Abw w r0 m0 r1 m1 w1 := (by first | exact Abw.on hK hb | exact Abw.on (hK.alloc _) hb | exact Abw.on (hK.alloc _).drew hb | exact Abw.on hK0.drew hb | exact Abw.on (hK0.alloc _).drew hb); obtain ⟨g0, g1, g2, g3⟩ := hK.c0; have gz := hK.z; have e0 : w1.heap.size ≠ w.heap.size := World.new_ne w1 ⟨w.heap.size, 0, none⟩ g0; have e1 : w1.heap.size ≠ w.heap.size + 1 := World.new_ne w1 ⟨w.heap.size + 1, 0, none⟩ g2; (try (have q0 := keepc hb p0; have q1 := keepc hb p1; have q2 := keepf hb p0 p2; have q3 := keepf hb p1 p3; have q4 := keeps hb p0)); (try (have p0 := keepc hb n0; have p1 := keepc hb n1; have p2 := keepf hb n0 n2; have p3 := keepf hb n1 n3; have p4 := keeps hb n0)); (try (have nb := newbox2 hb; (try simp only [World.size_alloc] at nb); obtain ⟨n0, n1, n2, n3, n4⟩ := nb)); (try (have nb := newbox3 hb; (try simp only [World.size_alloc] at nb); obtain ⟨n0, n1, n2, n3, n4⟩ := nb))) | (go_at_call 11; refine (c_specClassMeet _ _ _ _ _).mono ?_; rintro e w1 ⟨rfl, hb⟩; have hK : Abw w r0 m0 r1 m1 w1 := (by first | exact Abw.on hK hb | exact Abw.on (hK.alloc _) hb | exact Abw.on (hK.alloc _).drew hb | exact Abw.on hK0.drew hb | exact Abw.on (hK0.alloc _).drew hb); obtain ⟨g0, g1, g2, g3⟩ := hK.c0; have gz := hK.z; have e0 : w1.heap.size ≠ w.heap.size := World.new_ne w1 ⟨w.heap.size, 0, none⟩ g0; have e1 : w1.heap.size ≠ w.heap.size + 1 := World.new_ne w1 ⟨w.heap.size + 1, 0, none⟩ g2; (try (have q0 := keepc hb p0; have q1 := keepc hb p1; have q2 := keepf hb p0 p2; have q3 := keepf hb p1 p3; have q4 := keeps hb p0)); (try (have p0 := keepc hb n0; have p1 := keepc hb n1; have p2 := keepf hb n0 n2; have p3 := keepf hb n1 n3; have p4 := keeps hb n0)); (try (have nb := newbox2 hb; (try simp only [World.size_alloc] at nb); obtain ⟨n0, n1, n2, n3, n4⟩ := nb)); (try (have nb := newbox3 hb; (try simp only [World.size_alloc] at nb); obtain ⟨n0, n1, n2, n3, n4⟩ := nb))))
    all_goals
      go_wp2_with fail
      go_meet
      case rel => first | exact ⟨_, rfl, rfl, gz, by simp, by simp, hK.alloc _⟩ | exact ⟨_, rfl, rfl, (by first | assumption | exact Nat.le_refl _), set_miss (by simp) (set_hit (by assumption)), set_hit (set_miss (by simp) (by assumption)), (hK.set (by first | assumption | exact Nat.le_refl _) _).set (by first | assumption | exact Nat.le_refl _) _⟩
  case rest =>
    obtain ⟨B, rfl, rfl, hBz, b0, b1, hK1⟩ := hcut
    have gz1 := hK1.z
    obtain ⟨g0, g1, g2, g3⟩ := hK1.c0
    have e5 : wc.heap.size ≠ w.heap.size := World.new_ne wc ⟨w.heap.size, 0, none⟩ g0
    have e6 : wc.heap.size ≠ w.heap.size + 1 := World.new_ne wc ⟨w.heap.size + 1, 0, none⟩ g2
    have e7 : wc.heap.size ≠ B := World.new_ne wc ⟨B, 0, none⟩ b0
    go_wp2_with fail
    go_cut [7, 8] (fun a b wx => ∃ B2, a = .pointer (some ⟨B2, 0, none⟩) ∧ b = .bool (mtB r0 m0 r1 m1) ∧ w.heap.size + 1 + 1 ≤ B2 ∧ wx.cell? ⟨B2, 0, none⟩ = some (.int .i64 (selI (mtB r0 m0 r1 m1) (metX m0 r1 m1 r0))) ∧ wx.cell? ⟨B2, 1, none⟩ = some (.int .i64 (selI (mtB r0 m0 r1 m1) (lcmI m0 m1))) ∧ Abw w r0 m0 r1 m1 wx ∧ wx.cell? ⟨B, 0, none⟩ = some (.int .i64 (selI (mtB r0 m0 r1 m1) (metX m0 r1 m1 r0))) ∧ wx.cell? ⟨B, 1, none⟩ = some (.int .i64 (selI (mtB r0 m0 r1 m1) (lcmI m0 m1))))
    case first =>
      go_region_held3 (fun w' => w'.cell? ⟨w.heap.size, 0, none⟩ = some (.int .i64 r0) ∧ w'.cell? ⟨w.heap.size, 1, none⟩ = some (.int .i64 m0) ∧ w'.cell? ⟨w.heap.size + 1, 0, none⟩ = some (.int .i64 r1) ∧ w'.cell? ⟨w.heap.size + 1, 1, none⟩ = some (.int .i64 m1) ∧ w'.cell? ⟨B, 0, none⟩ = some (.int .i64 (selI (mtB r0 m0 r1 m1) (metX m0 r1 m1 r0))) ∧ w'.cell? ⟨B, 1, none⟩ = some (.int .i64 (selI (mtB r0 m0 r1 m1) (lcmI m0 m1)))) (go_keep) (first | (go_at_call 12; refine (c_toClass _ _ _).mono ?_; rintro e w1 ⟨rfl, hb⟩; have hK : Abw w r0 m0 r1 m1 w1 := (by first | exact Abw.on hK hb | exact Abw.on (hK.alloc _) hb | exact Abw.on (hK.alloc _).drew hb | exact Abw.on hK1.drew hb | exact Abw.on (hK1.alloc _).drew hb); obtain ⟨g0, g1, g2, g3⟩ := hK.c0; have gz := hK.z; have e0 : w1.heap.size ≠ w.heap.size := World.new_ne w1 ⟨w.heap.size, 0, none⟩ g0; have e1 : w1.heap.size ≠ w.heap.size + 1 := World.new_ne w1 ⟨w.heap.size + 1, 0, none⟩ g2; have b0 : w1.cell? ⟨B, 0, none⟩ = some (.int .i64 (selI (mtB r0 m0 r1 m1) (metX m0 r1 m1 r0))) := (by first | exact keepc hb b0 | exact keepc hb (keep_drew b0) | exact keepc hb (keep_alloc b0) | exact keepc hb (keep_drew (keep_alloc b0))); have b1 : w1.cell? ⟨B, 1, none⟩ = some (.int .i64 (selI (mtB r0 m0 r1 m1) (lcmI m0 m1))) := (by first | exact keepc hb b1 | exact keepc hb (keep_drew b1) | exact keepc hb (keep_alloc b1) | exact keepc hb (keep_drew (keep_alloc b1))); have e4 : w1.heap.size ≠ B := World.new_ne w1 ⟨B, 0, none⟩ b0; (try (have q0 := keepc hb p0; have q1 := keepc hb p1; have q2 := keepf hb p0 p2; have q3 := keepf hb p1 p3; have q4 := keeps hb p0)); (try (have p0 := keepc hb n0; have p1 := keepc hb n1; have p2 := keepf hb n0 n2; have p3 := keepf hb n1 n3; have p4 := keeps hb n0)); (try (have nb := newbox2 hb; (try simp only [World.size_alloc] at nb); obtain ⟨n0, n1, n2, n3, n4⟩ := nb)); (try (have nb := newbox3 hb; (try simp only [World.size_alloc] at nb); obtain ⟨n0, n1, n2, n3, n4⟩ := nb))) | (go_at_call 13; refine (c_implClassMeet _ _ _ _ _).mono ?_; rintro e w1 ⟨rfl, hb⟩; have hK : Abw w r0 m0 r1 m1 w1 := (by first | exact Abw.on hK hb | exact Abw.on (hK.alloc _) hb | exact Abw.on (hK.alloc _).drew hb | exact Abw.on hK1.drew hb | exact Abw.on (hK1.alloc _).drew hb); obtain ⟨g0, g1, g2, g3⟩ := hK.c0; have gz := hK.z; have e0 : w1.heap.size ≠ w.heap.size := World.new_ne w1 ⟨w.heap.size, 0, none⟩ g0; have e1 : w1.heap.size ≠ w.heap.size + 1 := World.new_ne w1 ⟨w.heap.size + 1, 0, none⟩ g2; have b0 : w1.cell? ⟨B, 0, none⟩ = some (.int .i64 (selI (mtB r0 m0 r1 m1) (metX m0 r1 m1 r0))) := (by first | exact keepc hb b0 | exact keepc hb (keep_drew b0) | exact keepc hb (keep_alloc b0) | exact keepc hb (keep_drew (keep_alloc b0))); have b1 : w1.cell? ⟨B, 1, none⟩ = some (.int .i64 (selI (mtB r0 m0 r1 m1) (lcmI m0 m1))) := (by first | exact keepc hb b1 | exact keepc hb (keep_drew b1) | exact keepc hb (keep_alloc b1) | exact keepc hb (keep_drew (keep_alloc b1))); have e4 : w1.heap.size ≠ B := World.new_ne w1 ⟨B, 0, none⟩ b0; (try (have q0 := keepc hb p0; have q1 := keepc hb p1; have q2 := keepf hb p0 p2; have q3 := keepf hb p1 p3; have q4 := keeps hb p0)); (try (have p0 := keepc hb n0; have p1 := keepc hb n1; have p2 := keepf hb n0 n2; have p3 := keepf hb n1 n3; have p4 := keeps hb n0)); (try (have nb := newbox2 hb; (try simp only [World.size_alloc] at nb); obtain ⟨n0, n1, n2, n3, n4⟩ := nb)); (try (have nb := newbox3 hb; (try simp only [World.size_alloc] at nb); obtain ⟨n0, n1, n2, n3, n4⟩ := nb))))
      all_goals
        go_wp2_with fail
        go_meet
        case rel => first | exact ⟨_, rfl, rfl, gz, by simp, by simp, hK.alloc _, keep_alloc b0, keep_alloc b1⟩ | exact ⟨_, rfl, rfl, (by first | assumption | exact Nat.le_refl _), set_miss (by simp) (set_hit (by assumption)), set_hit (set_miss (by simp) (by assumption)), (hK.set (by first | assumption | exact Nat.le_refl _) _).set (by first | assumption | exact Nat.le_refl _) _, set_miss (fun e => by cases e <;> contradiction) (set_miss (fun e => by cases e <;> contradiction) b0), set_miss (fun e => by cases e <;> contradiction) (set_miss (fun e => by cases e <;> contradiction) b1)⟩
    case rest =>
      obtain ⟨B2, rfl, rfl, hBz2, b20, b21, hK2, d0, d1⟩ := hcut
      go_wp2_with (go_at_call 14; refine (c_eqClass _ _ _).mono ?_; rintro e w1 ⟨rfl, rfl⟩)
      go_ret
      exact ⟨rfl, ((hK2.alloc _).alloc _).all⟩
end Go.Proofs.Ytjbilfbnegokfaa
