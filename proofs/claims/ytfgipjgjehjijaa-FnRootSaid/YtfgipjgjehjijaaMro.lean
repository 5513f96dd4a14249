/- FnRoot: its two loops, its end (own text). -/
import Derived.Test.YtfgipjgjehjijaaOb
namespace Go.Proofs.Ytfgipjgjehjijaa
open Go Go.Conc Go.ConcN Go.RowKit Go.Conc.Lib Go.ConcR.Gen Go.ConcN.Gen
open Go.ConcR (KK wgBlock WgAt stA smA rd wr mk Payload DC0)

section
variable {B N sz : Nat} {W : World} {Sh : Loc → Prop}
set_option maxRecDepth 100000 in
set_option maxHeartbeats 16000000 in
theorem loopJ1 {S : Goroutine → World → Prop} {n : Nat} {o r : Int} (o0 : 0 ≤ o) (x0 x1 x2 x3 x4 x5 x6 x7 x8 x9 x10 x11 x14 x15 x16 x17 x18 x19 x20 x21 x22 x23 x24 x25 x26 x27 x28 x29 x30 x31 x32 x33 x34 x35 x36 x37 x38 x39 x40 x41 x42 x43 x44 x45 x46 x47 x48 x49 x50 x51 x52 x53 x54 x55 x56 x57 x58 x59 x60 x61 x62 x63 x64 x65 x66 x67 x68 x69 x70 x71 x72 x73 x74 x75 x76 x87 x88 x89 x90 x91 x92 x93 x94 x95 x96 x97 x98 x99 x100 x101 x102 x103 x104 x105 x106 x107 x108 x109 x110 x111 x112 x113 x114 x115 x116 x117 x118 : Value)
    (next : ∀ (v77 v78 v79 v80 v81 v82 v83 v84 v85 v86 : Value) (w : World), Fa N W sz [] w → Goes Try.prog true AtRel (DE (EvL Sh B)) S n (G ((base 5).at ⟨#[x0, x1, x2, x3, x4, x5, x6, x7, x8, x9, x10, x11, .int .i64 o, .int .i64 r, x14, x15, x16, x17, x18, x19, x20, x21, x22, x23, x24, x25, x26, x27, x28, x29, x30, x31, x32, x33, x34, x35, x36, x37, x38, x39, x40, x41, x42, x43, x44, x45, x46, x47, x48, x49, x50, x51, x52, x53, x54, x55, x56, x57, x58, x59, x60, x61, x62, x63, x64, x65, x66, x67, x68, x69, x70, x71, x72, x73, x74, x75, x76, v77, v78, v79, v80, v81, v82, v83, v84, v85, v86, x87, x88, x89, x90, x91, x92, x93, x94, x95, x96, x97, x98, x99, x100, x101, x102, x103, x104, x105, x106, x107, x108, x109, x110, x111, x112, x113, x114, x115, x116, x117, x118], []⟩ [.code bJ13]) []) w) :
    ∀ (f : Nat) (d : Int), 2 ≤ d → d + f ≤ 100 → dS o f d = some r → ∀ (v77 v78 v79 v80 v81 v82 v83 v84 v85 v86 : Value) (w : World), Fa N W sz [] w →
      Goes Try.prog true AtRel (DE (EvL Sh B)) S (n + 40 * f) (G ((base 5).at ⟨#[x0, x1, x2, x3, x4, x5, x6, x7, x8, x9, x10, x11, .int .i64 o, .int .i64 d, x14, x15, x16, x17, x18, x19, x20, x21, x22, x23, x24, x25, x26, x27, x28, x29, x30, x31, x32, x33, x34, x35, x36, x37, x38, x39, x40, x41, x42, x43, x44, x45, x46, x47, x48, x49, x50, x51, x52, x53, x54, x55, x56, x57, x58, x59, x60, x61, x62, x63, x64, x65, x66, x67, x68, x69, x70, x71, x72, x73, x74, x75, x76, v77, v78, v79, v80, v81, v82, v83, v84, v85, v86, x87, x88, x89, x90, x91, x92, x93, x94, x95, x96, x97, x98, x99, x100, x101, x102, x103, x104, x105, x106, x107, x108, x109, x110, x111, x112, x113, x114, x115, x116, x117, x118], []⟩ [.code lpJ1, .inLoop lpJ1, .inBlock 0, .code bJ13]) []) w := by
  intro f
  induction f with
  | zero => intro d _ _ h; cases h
  | succ f ih =>
    intro d d0 d1 h v77 v78 v79 v80 v81 v82 v83 v84 v85 v86 w hF
    have hd0 : ¬ d = 0 := by omega
    have hwd : IntKind.i64.wrap (d + 1) = d + 1 := by rw [IntKind.wrap_i64]; omega
    have htm : o.tmod d = o % d := Int.tmod_eq_emod_of_nonneg o0
    obtain ⟨b0, b1⟩ := emod_bd o d (by omega)
    have hwm : IntKind.i64.wrap (o % d) = o % d := by rw [IntKind.wrap_i64]; omega
    simp only [dS] at h
    have e40 : n + 40 * (f + 1) = n + 40 * f + 40 := by omega
    rw [e40]
    have hI := fun h' v77 v78 v79 v80 v81 v82 v83 v84 v85 v86 w hF => ih (d + 1) (by omega) (by omega) h' v77 v78 v79 v80 v81 v82 v83 v84 v85 v86 w hF
    have hX := fun v77 v78 v79 v80 v81 v82 v83 v84 v85 v86 w hF => next v77 v78 v79 v80 v81 v82 v83 v84 v85 v86 w hF
    clear ih next e40
    generalize hM : n + 40 * f = M at *
    simp only [lpJ1, bJ12, bJ13, bJ7, bJ3, bodyJ, cR, cL, Try.f5, Option.getD_some] at hI hX ⊢
    u_c stepG_seq Fa.atRel hF
    u_c stepG_seq Fa.atRel hF
    u_reg Fa.atRel hF
    u_op Fa.atRel hF
    by_cases ho : 1 < o
    · have hob : decide (1 < o) = true := by simpa using ho
      by_cases hz : o % d = 0
      · have hzb : (o % d != 0) = false := by simp [hz]
        rw [if_neg (fun k => k.2 hz)] at h
        obtain rfl : d = r := by simpa using h
        clear hI
        repeat (first | u_op Fa.atRel hF | u_c stepG_region_end Fa.atRel hF)
        u_cond false Fa.atRel hF
        u_exit Fa.atRel hF
        exact (hX _ _ _ _ _ _ _ _ _ _ _ hF).mono (by omega)
      · have hzb : (o % d != 0) = true := by simp [hz]
        rw [if_pos ⟨ho, hz⟩] at h
        repeat (first | u_op Fa.atRel hF | u_c stepG_region_end Fa.atRel hF)
        u_cond true Fa.atRel hF
        repeat (first | u_c stepG_skip Fa.atRel hF | u_c stepG_block Fa.atRel hF | u_reg Fa.atRel hF | u_op Fa.atRel hF | u_c stepG_region_end Fa.atRel hF)
        u_c stepG_inBlock Fa.atRel hF
        u_c stepG_inLoop Fa.atRel hF
        exact goes_more _ (hI h _ _ _ _ _ _ _ _ _ _ _ hF)
    · have hob : decide (1 < o) = false := by simpa using ho
      rw [if_neg (fun k => ho k.1)] at h
      obtain rfl : d = r := by simpa using h
      u_op Fa.atRel hF
      u_op Fa.atRel hF
      u_skip Fa.atRel hF
      u_skip Fa.atRel hF
      u_skip Fa.atRel hF
      u_skip Fa.atRel hF
      u_op Fa.atRel hF
      u_c stepG_region_end Fa.atRel hF
      u_cond false Fa.atRel hF
      u_exit Fa.atRel hF
      exact (hX _ _ _ _ _ _ _ _ _ _ _ hF).mono (by omega)
end
end Go.Proofs.Ytfgipjgjehjijaa
namespace Go.Proofs.Ytfgipjgjehjijaa
open Go Go.Conc Go.ConcN Go.RowKit Go.Conc.Lib Go.ConcR.Gen Go.ConcN.Gen
open Go.ConcR (KK wgBlock WgAt stA smA rd wr mk Payload DC0)

section
variable {B N sz : Nat} {W : World} {Sh : Loc → Prop}
set_option maxRecDepth 100000 in
set_option maxHeartbeats 16000000 in
theorem loopJ2 {S : Goroutine → World → Prop} {n : Nat} {d r : Int} (d0 : 2 ≤ d) (d1 : d ≤ 100) (x0 x1 x2 x3 x4 x5 x6 x7 x8 x9 x10 x11 x14 x15 x16 x17 x18 x19 x20 x21 x22 x23 x24 x25 x26 x27 x28 x29 x30 x31 x32 x33 x34 x35 x36 x37 x38 x39 x40 x41 x42 x43 x44 x45 x46 x47 x48 x49 x50 x51 x52 x53 x54 x55 x56 x57 x58 x59 x60 x61 x62 x63 x64 x65 x66 x67 x68 x69 x70 x71 x72 x73 x74 x75 x76 x77 x78 x79 x80 x81 x82 x83 x84 x85 x86 x98 x99 x100 x101 x102 x103 x104 x105 x106 x107 x108 x109 x110 x111 x112 x113 x114 x115 x116 x117 x118 : Value)
    (next : ∀ (v87 v88 v89 v90 v91 v92 v93 v94 v95 v96 v97 : Value) (w : World), Fa N W sz [] w → Goes Try.prog true AtRel (DE (EvL Sh B)) S n (G ((base 5).at ⟨#[x0, x1, x2, x3, x4, x5, x6, x7, x8, x9, x10, x11, .int .i64 r, .int .i64 d, x14, x15, x16, x17, x18, x19, x20, x21, x22, x23, x24, x25, x26, x27, x28, x29, x30, x31, x32, x33, x34, x35, x36, x37, x38, x39, x40, x41, x42, x43, x44, x45, x46, x47, x48, x49, x50, x51, x52, x53, x54, x55, x56, x57, x58, x59, x60, x61, x62, x63, x64, x65, x66, x67, x68, x69, x70, x71, x72, x73, x74, x75, x76, x77, x78, x79, x80, x81, x82, x83, x84, x85, x86, v87, v88, v89, v90, v91, v92, v93, v94, v95, v96, v97, x98, x99, x100, x101, x102, x103, x104, x105, x106, x107, x108, x109, x110, x111, x112, x113, x114, x115, x116, x117, x118], []⟩ [.code bJ14]) []) w) :
    ∀ (f : Nat) (o : Int), 0 ≤ o → o ≤ 60 → oS d f o = some r → ∀ (v87 v88 v89 v90 v91 v92 v93 v94 v95 v96 v97 : Value) (w : World), Fa N W sz [] w →
      Goes Try.prog true AtRel (DE (EvL Sh B)) S (n + 40 * f) (G ((base 5).at ⟨#[x0, x1, x2, x3, x4, x5, x6, x7, x8, x9, x10, x11, .int .i64 o, .int .i64 d, x14, x15, x16, x17, x18, x19, x20, x21, x22, x23, x24, x25, x26, x27, x28, x29, x30, x31, x32, x33, x34, x35, x36, x37, x38, x39, x40, x41, x42, x43, x44, x45, x46, x47, x48, x49, x50, x51, x52, x53, x54, x55, x56, x57, x58, x59, x60, x61, x62, x63, x64, x65, x66, x67, x68, x69, x70, x71, x72, x73, x74, x75, x76, x77, x78, x79, x80, x81, x82, x83, x84, x85, x86, v87, v88, v89, v90, v91, v92, v93, v94, v95, v96, v97, x98, x99, x100, x101, x102, x103, x104, x105, x106, x107, x108, x109, x110, x111, x112, x113, x114, x115, x116, x117, x118], []⟩ [.code lpJ2, .inLoop lpJ2, .inBlock 2, .code bJ14]) []) w := by
  intro f
  induction f with
  | zero => intro o _ _ h; cases h
  | succ f ih =>
    intro o o0 o1 h v87 v88 v89 v90 v91 v92 v93 v94 v95 v96 v97 w hF
    have hd0 : ¬ d = 0 := by omega
    have htm : o.tmod d = o % d := Int.tmod_eq_emod_of_nonneg o0
    have htd : o.tdiv d = o / d := Int.tdiv_eq_ediv_of_nonneg o0
    obtain ⟨b0, b1⟩ := emod_bd o d (by omega)
    obtain ⟨c0, c1⟩ : 0 ≤ o / d ∧ o / d ≤ o := quo_bd o0 (by omega)
    have hwm : IntKind.i64.wrap (o % d) = o % d := by rw [IntKind.wrap_i64]; omega
    have hwq : IntKind.i64.wrap (o / d) = o / d := by rw [IntKind.wrap_i64]; omega
    simp only [oS] at h
    have e40 : n + 40 * (f + 1) = n + 40 * f + 40 := by omega
    rw [e40]
    have hI := fun h' v87 v88 v89 v90 v91 v92 v93 v94 v95 v96 v97 w hF => ih (o / d) c0 (by omega) h' v87 v88 v89 v90 v91 v92 v93 v94 v95 v96 v97 w hF
    have hX := fun v87 v88 v89 v90 v91 v92 v93 v94 v95 v96 v97 w hF => next v87 v88 v89 v90 v91 v92 v93 v94 v95 v96 v97 w hF
    clear ih next e40
    generalize hM : n + 40 * f = M at *
    simp only [lpJ2, bJ12, bJ13, bJ14, bJ7, bJ3, bodyJ, cR, cL, Try.f5, Option.getD_some] at hI hX ⊢
    u_c stepG_seq Fa.atRel hF
    u_c stepG_seq Fa.atRel hF
    u_reg Fa.atRel hF
    u_op Fa.atRel hF
    by_cases ho : 1 < o
    · have hob : decide (1 < o) = true := by simpa using ho
      by_cases hz : o % d = 0
      · have hzb : (o % d == 0) = true := by simp [hz]
        rw [if_pos ⟨ho, hz⟩] at h
        clear hz
        repeat (first | u_op Fa.atRel hF | u_c stepG_region_end Fa.atRel hF)
        u_cond true Fa.atRel hF
        repeat (first | u_c stepG_skip Fa.atRel hF | u_c stepG_block Fa.atRel hF | u_reg Fa.atRel hF | u_op Fa.atRel hF | u_c stepG_region_end Fa.atRel hF)
        u_c stepG_inBlock Fa.atRel hF
        u_c stepG_inLoop Fa.atRel hF
        exact goes_more _ (hI h _ _ _ _ _ _ _ _ _ _ _ _ hF)
      · have hzb : (o % d == 0) = false := by simp [hz]
        rw [if_neg (fun k => hz k.2)] at h
        obtain rfl : o = r := by simpa using h
        clear hI
        repeat (first | u_op Fa.atRel hF | u_c stepG_region_end Fa.atRel hF)
        u_cond false Fa.atRel hF
        u_exit Fa.atRel hF
        exact (hX _ _ _ _ _ _ _ _ _ _ _ _ hF).mono (by omega)
    · have hob : decide (1 < o) = false := by simpa using ho
      rw [if_neg (fun k => ho k.1)] at h
      obtain rfl : o = r := by simpa using h
      u_op Fa.atRel hF
      u_op Fa.atRel hF
      u_skip Fa.atRel hF
      u_skip Fa.atRel hF
      u_skip Fa.atRel hF
      u_skip Fa.atRel hF
      u_op Fa.atRel hF
      u_c stepG_region_end Fa.atRel hF
      u_cond false Fa.atRel hF
      u_exit Fa.atRel hF
      exact (hX _ _ _ _ _ _ _ _ _ _ _ _ hF).mono (by omega)
end
end Go.Proofs.Ytfgipjgjehjijaa
namespace Go.Proofs.Ytfgipjgjehjijaa
open Go Go.Conc Go.ConcN Go.RowKit Go.Conc.Lib Go.ConcR.Gen Go.ConcN.Gen
open Go.ConcR (KK wgBlock WgAt stA smA rd wr mk Payload DC0)

section
variable {B : Nat} {W : World} {s : Option Addr} {len cap : Nat}
theorem odd_bd {m : Int} (h1 : 1 ≤ m) (hm : m < 50) : 0 ≤ oddOf m ∧ oddOf m ≤ 60 := by
  unfold oddOf
  split <;> omega
set_option maxRecDepth 100000 in
set_option maxHeartbeats 32000000 in
theorem endJ {m d : Int} (h1 : 1 ≤ m) (hm : m < 50) (hds : m ≠ 4 → dS (oddOf m) 60 2 = some d ∧ oS d 10 (oddOf m) = some 1 ∧ 2 ≤ d ∧ d ≤ 100 ∧ (2 < d ∨ m ≤ 2)) {Sh : Loc → Prop} {sz : Nat} (hs : W.heap.size ≤ sz) (w : World) (hF : Fa W.heap.size W sz [] w) :
    Goes Try.prog true AtRel (DE (EvL Sh B)) (AtEnd Try.prog Sh B (PostL W)) (((100 + 40 * 10) + 20 + 40 * 60) + 100)
      (retG (base 5) (actJ9 s len cap m) opsJ9 2 [3, 4, 5, 6, 7] kJ9 [] (.tuple #[.int .i64 (unQ m), .bool true])) w := by
  obtain ⟨o0, o1⟩ := odd_bd h1 hm
  have hm2 : m.tmod 2 = m % 2 := Int.tmod_eq_emod_of_nonneg (by omega)
  have hq2 : m.tdiv 2 = m / 2 := Int.tdiv_eq_ediv_of_nonneg (by omega)
  have hwm : IntKind.i64.wrap (m % 2) = m % 2 := by rw [IntKind.wrap_i64]; omega
  have hwq : IntKind.i64.wrap (m / 2) = m / 2 := by rw [IntKind.wrap_i64]; omega
  have hA := @loopJ1 B W.heap.size sz W Sh (AtEnd Try.prog Sh B (PostL W)) ((100 + 40 * 10) + 20) (oddOf m) d o0
  have hB2 := fun (d0 : 2 ≤ d) (d1 : d ≤ 100) => @loopJ2 B W.heap.size sz W Sh (AtEnd Try.prog Sh B (PostL W)) 100 d 1 d0 d1
  have hodd : oddOf m = if m % 2 = 0 then m / 2 else m := rfl
  generalize hOm : oddOf m = O at *
  simp only [lpJ1, lpJ2, bJ12, bJ13, bJ14, bJ7, bJ3, bodyJ, cR, cL, Try.f5, Option.getD_some] at hA hB2
  simp only [retG, actJ9, opsJ9, kJ9, bJ7, bJ3, bodyJ, cR, cL, opsOf, Try.f5, Option.getD_some]
  generalize unQ m = q at *
  generalize (rootR m).1 = r at *
  walk_nrm
  repeat (first | u_c stepG_seq Fa.atRel hF | u_c stepG_region_end Fa.atRel hF | u_reg Fa.atRel hF | u_op Fa.atRel hF)
  by_cases h4 : m = 4
  · have h4b : (m == 4) = true := by simpa using h4
    have hev : (m % 2 == 0) = true := by subst h4; rfl
    clear hA hB2 hds
    clear h4
    rw [hev]
    u_cond true Fa.atRel hF
    repeat (first | u_c stepG_seq Fa.atRel hF | u_c stepG_region_end Fa.atRel hF | u_reg Fa.atRel hF | u_op Fa.atRel hF)
    u_cond true Fa.atRel hF
    repeat (first | u_c stepG_seq Fa.atRel hF | u_c stepG_region_end Fa.atRel hF | u_reg Fa.atRel hF | u_op Fa.atRel hF | u_c stepG_ret' Fa.atRel hF)
    refine Goes.stop (fun w₂ r₂ => ⟨rfl, .bool true, #[], ?_, by simp, rfl, (hF.atRel r₂).below hs⟩)
    simp [G, stepG, unwind, doReturn, results, Frame.at, base, Try.func5, Try.f5, seen, GStep.after]
  · have h4b : (m == 4) = false := by simpa using h4
    obtain ⟨s1, s2, s3, s5, s4⟩ := hds h4
    clear hds h4
    have hend : ∀ (y0 y1 y2 y4 y5 y6 y7 y14 y15 y16 y17 y18 y19 y20 y21 y22 y23 y24 y25 y26 y27 y28 y29 y30 y31 y32 y33 y34 y35 y36 y37 y38 y39 y40 y41 y42 y43 y44 y45 y46 y47 y48 y49 y50 y51 y52 y53 y54 y55 y56 y57 y58 y59 y60 y61 y62 y63 y64 y65 y66 y67 y68 y69 y70 y71 y72 y73 y74 y75 y76 y77 y78 y79 y80 y81 y82 y83 y84 y85 y86 y87 y88 y89 y90 y91 y92 y93 y94 y95 y96 y97 y98 y99 y100 y101 y102 y103 y104 y105 y106 y107 y108 y109 y110 y111 y112 y113 y114 y115 y116 y117 y118 : Value) (w : World), Fa W.heap.size W sz [] w → Goes Try.prog true AtRel (DE (EvL Sh B)) (AtEnd Try.prog Sh B (PostL W)) (((100 + 40 * 10) + 20 + 40 * 60)) (G ((base 5).at ⟨#[y0, y1, y2, .int .i64 m, y4, y5, y6, y7, .int .i64 q, .bool true, .int .i64 q, .bool true, .int .i64 O, .int .i64 2, y14, y15, y16, y17, y18, y19, y20, y21, y22, y23, y24, y25, y26, y27, y28, y29, y30, y31, y32, y33, y34, y35, y36, y37, y38, y39, y40, y41, y42, y43, y44, y45, y46, y47, y48, y49, y50, y51, y52, y53, y54, y55, y56, y57, y58, y59, y60, y61, y62, y63, y64, y65, y66, y67, y68, y69, y70, y71, y72, y73, y74, y75, y76, y77, y78, y79, y80, y81, y82, y83, y84, y85, y86, y87, y88, y89, y90, y91, y92, y93, y94, y95, y96, y97, y98, y99, y100, y101, y102, y103, y104, y105, y106, y107, y108, y109, y110, y111, y112, y113, y114, y115, y116, y117, y118], []⟩ [.code (cR (cR (cL bJ12))), .inLoop (cR (cR (cL bJ12))), .inBlock 0, .code bJ13]) []) w := by
      intro y0 y1 y2 y4 y5 y6 y7 y14 y15 y16 y17 y18 y19 y20 y21 y22 y23 y24 y25 y26 y27 y28 y29 y30 y31 y32 y33 y34 y35 y36 y37 y38 y39 y40 y41 y42 y43 y44 y45 y46 y47 y48 y49 y50 y51 y52 y53 y54 y55 y56 y57 y58 y59 y60 y61 y62 y63 y64 y65 y66 y67 y68 y69 y70 y71 y72 y73 y74 y75 y76 y77 y78 y79 y80 y81 y82 y83 y84 y85 y86 y87 y88 y89 y90 y91 y92 y93 y94 y95 y96 y97 y98 y99 y100 y101 y102 y103 y104 y105 y106 y107 y108 y109 y110 y111 y112 y113 y114 y115 y116 y117 y118 w hF
      simp only [bJ12, bJ13, bJ7, bJ3, bodyJ, cR, cL, Try.f5, Option.getD_some]
      refine hA _ _ _ _ _ _ _ _ _ _ _ _ _ _ _ _ _ _ _ _ _ _ _ _ _ _ _ _ _ _ _ _ _ _ _ _ _ _ _ _ _ _ _ _ _ _ _ _ _ _ _ _ _ _ _ _ _ _ _ _ _ _ _ _ _ _ _ _ _ _ _ _ _ _ _ _ _ _ _ _ _ _ _ _ _ _ _ _ _ _ _ _ _ _ _ _ _ _ _ _ _ _ _ _ _ _ _ (fun v77 v78 v79 v80 v81 v82 v83 v84 v85 v86 w hF => ?_) 60 2 (by omega) (by omega) s1 _ _ _ _ _ _ _ _ _ _ _ hF
      u_c stepG_seq Fa.atRel hF
      u_c stepG_block Fa.atRel hF
      u_c stepG_loop Fa.atRel hF
      refine goes_more 17 (hB2 s3 s5 _ _ _ _ _ _ _ _ _ _ _ _ _ _ _ _ _ _ _ _ _ _ _ _ _ _ _ _ _ _ _ _ _ _ _ _ _ _ _ _ _ _ _ _ _ _ _ _ _ _ _ _ _ _ _ _ _ _ _ _ _ _ _ _ _ _ _ _ _ _ _ _ _ _ _ _ _ _ _ _ _ _ _ _ _ _ _ _ _ _ _ _ _ _ _ _ _ _ _ _ _ _ _ _ _ _ (fun v87 v88 v89 v90 v91 v92 v93 v94 v95 v96 v97 w hF => ?_) 10 O o0 o1 s2 _ _ _ _ _ _ _ _ _ _ _ _ hF)
      u_c stepG_seq Fa.atRel hF
      u_reg Fa.atRel hF
      by_cases h2d : 2 < d
      · have h2b : decide (2 < d) = true := by simpa using h2d
        u_op Fa.atRel hF
        u_op Fa.atRel hF
        u_op Fa.atRel hF
        u_op Fa.atRel hF
        u_op Fa.atRel hF
        u_op Fa.atRel hF
        u_op Fa.atRel hF
        u_op Fa.atRel hF
        u_op Fa.atRel hF
        u_op Fa.atRel hF
        u_op Fa.atRel hF
        u_op Fa.atRel hF
        u_op Fa.atRel hF
        u_op Fa.atRel hF
        u_op Fa.atRel hF
        u_op Fa.atRel hF
        u_op Fa.atRel hF
        u_skip Fa.atRel hF
        u_skip Fa.atRel hF
        u_op Fa.atRel hF
        u_op Fa.atRel hF
        u_op Fa.atRel hF
        u_c stepG_region_end Fa.atRel hF
        u_c stepG_ret' Fa.atRel hF
        refine Goes.stop (fun w₂ r₂ => ⟨rfl, .bool true, #[], ?_, by simp, rfl, (hF.atRel r₂).below hs⟩)
        simp [G, stepG, unwind, doReturn, results, Frame.at, base, Try.func5, Try.f5, seen, GStep.after]
      · have h2b : decide (2 < d) = false := by simpa using h2d
        have h2m : decide (m ≤ 2) = true := by simpa using s4.resolve_left h2d
        u_op Fa.atRel hF
        u_op Fa.atRel hF
        u_op Fa.atRel hF
        u_op Fa.atRel hF
        u_op Fa.atRel hF
        u_op Fa.atRel hF
        u_op Fa.atRel hF
        u_op Fa.atRel hF
        u_op Fa.atRel hF
        u_op Fa.atRel hF
        u_op Fa.atRel hF
        u_op Fa.atRel hF
        u_op Fa.atRel hF
        u_op Fa.atRel hF
        u_op Fa.atRel hF
        u_op Fa.atRel hF
        u_op Fa.atRel hF
        u_op Fa.atRel hF
        u_op Fa.atRel hF
        u_op Fa.atRel hF
        u_op Fa.atRel hF
        u_op Fa.atRel hF
        u_c stepG_region_end Fa.atRel hF
        u_c stepG_ret' Fa.atRel hF
        refine Goes.stop (fun w₂ r₂ => ⟨rfl, .bool true, #[], ?_, by simp, rfl, (hF.atRel r₂).below hs⟩)
        simp [G, stepG, unwind, doReturn, results, Frame.at, base, Try.func5, Try.f5, seen, GStep.after]
    clear hA hB2
    generalize hKH : 100 + 40 * 10 + 20 + 40 * 60 = KH at hend ⊢
    simp only [bJ12, bJ13, bJ7, bJ3, bodyJ, cR, cL, Try.f5, Option.getD_some] at hend
    by_cases hev : m % 2 = 0
    · have hevb : (m % 2 == 0) = true := by simpa using hev
      rw [if_pos hev] at hodd
      rw [hevb]
      clear hev
      rw [hOm.symm.trans (hOm.trans hodd)] at hend
      u_cond true Fa.atRel hF
      repeat (first | u_c stepG_seq Fa.atRel hF | u_c stepG_region_end Fa.atRel hF | u_reg Fa.atRel hF | u_op Fa.atRel hF)
      u_cond false Fa.atRel hF
      u_c stepG_skip Fa.atRel hF
      repeat (first | u_c stepG_seq Fa.atRel hF | u_c stepG_region_end Fa.atRel hF | u_reg Fa.atRel hF | u_op Fa.atRel hF)
      u_c stepG_block Fa.atRel hF
      u_c stepG_loop Fa.atRel hF
      exact (hend _ _ _ _ _ _ _ _ _ _ _ _ _ _ _ _ _ _ _ _ _ _ _ _ _ _ _ _ _ _ _ _ _ _ _ _ _ _ _ _ _ _ _ _ _ _ _ _ _ _ _ _ _ _ _ _ _ _ _ _ _ _ _ _ _ _ _ _ _ _ _ _ _ _ _ _ _ _ _ _ _ _ _ _ _ _ _ _ _ _ _ _ _ _ _ _ _ _ _ _ _ _ _ _ _ _ _ _ _ _ _ _ _ hF).mono (by omega)
    · have hevb : (m % 2 == 0) = false := by simpa using hev
      rw [if_neg hev] at hodd
      rw [hevb]
      clear hev
      rw [hOm.symm.trans (hOm.trans hodd)] at hend
      u_cond false Fa.atRel hF
      u_c stepG_skip Fa.atRel hF
      repeat (first | u_c stepG_seq Fa.atRel hF | u_c stepG_region_end Fa.atRel hF | u_reg Fa.atRel hF | u_op Fa.atRel hF)
      u_cond false Fa.atRel hF
      u_c stepG_skip Fa.atRel hF
      repeat (first | u_c stepG_seq Fa.atRel hF | u_c stepG_region_end Fa.atRel hF | u_reg Fa.atRel hF | u_op Fa.atRel hF)
      u_c stepG_block Fa.atRel hF
      u_c stepG_loop Fa.atRel hF
      exact (hend _ _ _ _ _ _ _ _ _ _ _ _ _ _ _ _ _ _ _ _ _ _ _ _ _ _ _ _ _ _ _ _ _ _ _ _ _ _ _ _ _ _ _ _ _ _ _ _ _ _ _ _ _ _ _ _ _ _ _ _ _ _ _ _ _ _ _ _ _ _ _ _ _ _ _ _ _ _ _ _ _ _ _ _ _ _ _ _ _ _ _ _ _ _ _ _ _ _ _ _ _ _ _ _ _ _ _ _ _ _ _ _ _ hF).mono (by omega)
end
end Go.Proofs.Ytfgipjgjehjijaa
namespace Go.Proofs.Ytfgipjgjehjijaa
open Go Go.Conc Go.ConcN Go.RowKit Go.Conc.Lib Go.ConcR.Gen Go.ConcN.Gen
open Go.ConcR (KK wgBlock WgAt stA smA rd wr mk Payload DC0)

theorem dS_bd {o r : Int} : ∀ (n : Nat) (d : Int), dS o n d = some r → r ≤ d + n
  | 0, _, h => by cases h
  | n + 1, d, h => by
    simp only [dS] at h
    split at h
    · have := dS_bd n (d + 1) h
      omega
    · have : d = r := by simpa using h
      omega
theorem runJ (s : Option Addr) (len cap : Nat) (W : World) (hc : Code0 W s len cap) : Ends W (solo (entryJ s len cap) W) #[] := by
  rcases Nat.lt_or_ge 1048576 len with hl | hl
  · exact (Stn.first (W.heap.size + 1000) W (entryJ s len cap)).ends fun Sh sz h1 _ _ _ w hF => ⟨60, longJ hl w h1 hF⟩
  · have h0 := (first_at (W.heap.size + 60000) W (entryJ s len cap)).walk (fun g w ⟨e, hF⟩ => ⟨900, by subst e; exact preJ hl (by omega) hc w hF⟩)
    refine (h0.trans (Q' := Ends W) fun mc t h => ?_).ends
    obtain ⟨gs, g, w, sl, q, e, hs, h0, ⟨m, ⟨m1, m2⟩, hg, hF⟩, L0, P0⟩ := h
    have hS : Stn (W.heap.size + 60000) W.heap.size W [] (W.heap.size + 1) _ mc t := At.stn (s := gs.size) ⟨gs, g, w, sl, q, e, rfl, h0, ⟨hg, hF⟩, L0, P0⟩ (by omega)
    refine (rootAny (by omega) hS).trans fun mc t h => ?_
    cases hr : (rootR m).2 with
    | false =>
      have hk := fun (Sh : Loc → Prop) (sz : Nat) (h1 : W.heap.size ≤ sz) (w : World) (hF : Fa W.heap.size W sz [] w) => noneJ (B := W.heap.size + 60000) (s := s) (len := len) (cap := cap) hr (Sh := Sh) h1 w hF
      rw [hr] at hk h
      exact .refl (Stn.ends h fun Sh sz h1 _ _ _ w hF => ⟨_, hk Sh sz h1 w hF⟩)
    | true =>
      obtain ⟨r1, r2, r3, r4⟩ := root_facts m1 m2 hr
      have hk := fun (Sh : Loc → Prop) (sz : Nat) (h1 : W.heap.size ≤ sz) (hc : ∀ a : Addr, Sh (.cell a) → W.heap.size ≤ a.block ∧ a.block < sz) (ho : ∀ b, Sh (.obj b) → W.heap.size ≤ b ∧ b < sz) (hB : sz + 100 < W.heap.size + 60000) (w : World) (hF : Fa W.heap.size W sz [] w) => midJ (B := W.heap.size + 60000) (s := s) (len := len) (cap := cap) (by omega) (by omega) hr (Sh := Sh) (sz := sz) h1 (fun a h => (hc a h).2) (fun b hb h => by have := (ho b h).2; omega) hB w hF
      rw [hr] at hk
      rw [hr] at h
      refine (Stn.walk (hi2 := W.heap.size + 1 + 7000 + 10) h fun Sh sz h1 h2 hc ho _ w hF => ⟨_, goes_mono (fun g' w' hx => ⟨hx.1, sz + 10, by omega, by omega, hx.2⟩) (hk Sh sz h1 hc ho (by omega) w hF)⟩).trans fun mc t h => ?_
      have hmod : modB m = true := modB_iff.2 ⟨by omega, by omega⟩
      have hnum : numB (rootR m).1 = true := by simp [numB]; omega
      have hv : ordV (rootR m).1 m = unQ m := by simp [ordV, hnum, hmod, r3]
      have hb : ordB (rootR m).1 m = true := by
        have := unQ_pos (m := m) (by omega)
        simp [ordB, hnum, hmod, r3]
        omega
      have hO := orderCall (rootR m).1 m (by omega) h
      rw [hv, hb] at hO
      refine hO.trans fun mc t h => ?_
      by_cases h4 : m = 4
      · exact .refl (Stn.ends h fun Sh sz h1 h2 hc ho w hF => ⟨_, endJ (d := 2) (by omega) m2 (fun k => absurd h4 k) h1 w hF⟩)
      · obtain ⟨d, d1, d2, d3, d4⟩ := r4 h4
        have := dS_bd 60 2 d1
        exact .refl (Stn.ends h fun Sh sz h1 h2 hc ho w hF => ⟨_, endJ (d := d) (by omega) m2 (fun _ => ⟨d1, d2, d3, by omega, d4⟩) h1 w hF⟩)
end Go.Proofs.Ytfgipjgjehjijaa
