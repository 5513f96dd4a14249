/- Chapter 5, the program: rests as a list of their own, rests of a number, rests told by a list. -/
import Derived.Test.YtnbejgbkabaleaaB1
import Derived.Test.YtnbejgbkabaleaaCopy
import Derived.Test.YtnbejgbkabaleaaH1
import Derived.Test.YtnbejgbkabaleaaQ
import Derived.BigQuiet
import Derived.Laws.StructEq
namespace Go.Proofs.Ytnbejgbkabaleaa
open Go.RowKit
theorem run_eq4' (d : Nat) (w : World) (p q r t p' q' r' t' : Int) : (Op.equalIn (d + 1 + 1) 56 (restV p q r t) (restV p' q' r' t')).run Try.prog w = .ok (p == p' && q == q' && r == r' && t == t') w := by
  have hu : Try.prog.underlying 56 = some (.array 4 3) := by kernel_rfl
  have hi : Try.prog.underlying 3 = some (.int .i64) := by kernel_rfl
  have hs : (Try.prog.info? 3).map (·.size) = some 1 := by kernel_rfl
  have he : ∀ (a b : Int) (w : World), (Op.equalIn (d + 1) 3 (.int .i64 a) (.int .i64 b)).run Try.prog w = .ok (a == b) w := fun a b w => run_equalIn_int w d _ _ _ a b hi
  rw [Op.equalIn]
  simp only [Sem.run_bind, run_underlying hu, Result.andThen_ok]
  have hsz : ∀ w : World, (sizeOf 3).run Try.prog w = .ok 1 w := by
    intro w
    cases hq : Try.prog.info? 3 with
    | none => simp [hq] at hs
    | some i => have : i.size = 1 := by simpa [hq] using hs
                simp [sizeOf, typeInfo, hq, this]
  have hag : ∀ w : World, (isAgg 3).run Try.prog w = .ok false w := by
    intro w
    simp [isAgg, run_underlying hi]
  have hpt : ∀ (a b c d : Int) (w : World), (part 3 #[.int .i64 a, .int .i64 b, .int .i64 c, .int .i64 d] (0 * 1)).run Try.prog w = .ok (.int .i64 a) w ∧ (part 3 #[.int .i64 a, .int .i64 b, .int .i64 c, .int .i64 d] (1 * 1)).run Try.prog w = .ok (.int .i64 b) w ∧ (part 3 #[.int .i64 a, .int .i64 b, .int .i64 c, .int .i64 d] (2 * 1)).run Try.prog w = .ok (.int .i64 c) w ∧ (part 3 #[.int .i64 a, .int .i64 b, .int .i64 c, .int .i64 d] (3 * 1)).run Try.prog w = .ok (.int .i64 d) w := by
    intro a b c d w
    simp [part, hag]
  rw [hsz]
  simp only [Result.andThen_ok]
  rw [Std.Legacy.Range.forIn_eq_forIn_range']
  simp only [Std.Legacy.Range.size, show List.range' 0 ((4 - 0 + 1 - 1) / 1) 1 = [0, 1, 2, 3] from rfl, List.forIn_cons, List.forIn_nil, Sem.run_bind, (hpt _ _ _ _ _).1, Result.andThen_ok, he]
  have H1 := fun a b c d w => (hpt a b c d w).2.1
  have H2 := fun a b c d w => (hpt a b c d w).2.2.1
  have H3 := fun a b c d w => (hpt a b c d w).2.2.2
  by_cases h1 : p = p' <;> by_cases h2 : q = q' <;> by_cases h3 : r = r' <;> by_cases h4 : t = t' <;> simp [h1, h2, h3, h4, he, H1, H2, H3]
theorem run_eq4 (w : World) (p q r t p' q' r' t' : Int) : (Op.equalIn 10000 56 (restV p q r t) (restV p' q' r' t')).run Try.prog w = .ok (p == p' && q == q' && r == r' && t == t') w := run_eq4' 9998 w p q r t p' q' r' t'
theorem infoJ : (Try.prog.info? 3).map (fun i => (i.zero, i.size, i.bytes)) = some (some (.int .i64 0), 1, 8) := by kernel_rfl
def RetJ (w : World) (zs : List Int) (ok : Bool) (e : Ending) (w' : World) : Prop := ∃ v, e = .returned (.tuple #[v, .bool ok]) ∧ OwnI w' w.heap.size 3 v zs ∧ Below w.heap.size w w'
def RetL (w : World) (zs : List Int) (e : Ending) (w' : World) : Prop := ∃ v, e = .returned v ∧ OwnI w' w.heap.size 3 v zs ∧ Below w.heap.size w w'
theorem oneInts (zs : List Int) : ∀ v ∈ zs.map (Value.int .i64), v.oneCell' = true := by
  intro v hv
  obtain ⟨x, _, rfl⟩ := List.mem_map.1 hv
  rfl
theorem Arr.cellAt {w : World} {g : Nat} {xs cs : List Value} (h : Arr w g xs) (hp : cs <+: xs) : ∀ j v, cs[j]? = some v → w.cell? ((⟨g, 0, none⟩ : Addr).add j) = some v := by
  intro j v hv
  rw [Addr.add_lit, Nat.zero_add]
  obtain ⟨t, rfl⟩ := hp
  have hj : j < cs.length := by
    rcases Nat.lt_or_ge j cs.length with h | h
    · exact h
    · rw [List.getElem?_eq_none h] at hv; cases hv
  rw [h.c j (by simp; omega), List.getElem?_append_left hj]
  exact hv
theorem ownOf {w : World} {g n : Nat} {cs : List Int} {e : TypeId} (h : w.heap[g]? = some (.cells (cs.map (Value.int .i64)).toArray e (0, 0))) (hn : cs.length = n) (hm : n ≤ 1000) : OwnI w g e (.slice (some ⟨g, 0, none⟩) n n) cs := by
  subst hn
  refine ⟨by simp, .inr ⟨g, cs.length, _, rfl, Nat.le_refl _, h, Nat.le_refl _, by unfold maxLen; omega, by simp, List.take_of_length_le (by simp)⟩⟩
theorem take4 {n : Nat} (h1 : 1 ≤ n) (h2 : n ≤ 4) (p q r s : Int) : (([p, q, r, s].take n).map (Value.int .i64)).length = Nat.min 4 n * 1 ∧ ([p, q, r, s].take n).length = n ∧ (([p, q, r, s].take n).map (Value.int .i64)) <+: [.int .i64 p, .int .i64 q, .int .i64 r, .int .i64 s] := by
  rcases (show n = 1 ∨ n = 2 ∨ n = 3 ∨ n = 4 by omega) with rfl | rfl | rfl | rfl
  · exact ⟨rfl, rfl, ⟨_, rfl⟩⟩
  · exact ⟨rfl, rfl, ⟨_, rfl⟩⟩
  · exact ⟨rfl, rfl, ⟨_, rfl⟩⟩
  · exact ⟨rfl, rfl, ⟨_, rfl⟩⟩
set_option maxRecDepth 20000 in
set_option maxHeartbeats 2000000 in
theorem c_list (p q r s a b c d : Int) (n : Nat) (hn1 : 1 ≤ n) (hn4 : n ≤ 4) (w : World) : Calls Try.prog 51 #[restV p q r s, baseV a b c d n] w (RetL w ([p, q, r, s].take n)) := by
  obtain ⟨i0, hi, hz0, hz1, hz2⟩ := info_parts infoJ
  have hsz : (Try.prog.info? 3).map (·.size) = some 1 := by rw [hi]; simp [hz1]
  have hN0 := (Arr.newAt w #[.int .i64 p, .int .i64 q, .int .i64 r, .int .i64 s] 56 _ rfl).alloc (.cells #[.int .i64 a, .int .i64 b, .int .i64 c, .int .i64 d, .int .i64 n] 50)
  have hB : Below w.heap.size w _ := ba (ba (Below.refl _ _) (.cells #[.int .i64 p, .int .i64 q, .int .i64 r, .int .i64 s] 56)) (.cells #[.int .i64 a, .int .i64 b, .int .i64 c, .int .i64 d, .int .i64 n] 50)
  obtain ⟨t1, t2, t3⟩ := take4 hn1 hn4 p q r s
  have T1 := Lib.hid t1
  have T2 := Lib.hid t2
  have T3 := Lib.hid t3
  have T4 := Lib.hid (oneInts ([p, q, r, s].take n))
  clear t1 t2 t3
  have HN0 : Hid (Arr ((w.alloc (.cells #[.int .i64 p, .int .i64 q, .int .i64 r, .int .i64 s] 56)).alloc (.cells #[.int .i64 a, .int .i64 b, .int .i64 c, .int .i64 d, .int .i64 n] 50)) w.heap.size [.int .i64 p, .int .i64 q, .int .i64 r, .int .i64 s]) := Lib.hid hN0
  have HCC := Lib.hid (fun (w1 : World) (hg : World.grownBy ((w.alloc (.cells #[.int .i64 p, .int .i64 q, .int .i64 r, .int .i64 s] 56)).alloc (.cells #[.int .i64 a, .int .i64 b, .int .i64 c, .int .i64 d, .int .i64 n] 50)) w1 none) => (HN0.out.grown hg).cellAt T3.out)
  clear HN0
  clear hN0
  go_enter Try.func51, Try.ntmps51
  go_wp2_with (first
    | (at_make; refine wpList_make_full _ rfl _ _ 23 rfl w.heap.size 3 i0 (.int .i64 0) 1 Try.underlying23 hi hz0 hz1 .i64 .i64 _ _ n rfl rfl rfl rfl (by rw [hz2]; omega) (by unfold maxLen; omega) hB.size ?_; intro w1 hown hgrow; have hB1 := hB.grown hgrow hB.size (fun k h => by cases h); obtain ⟨L, hgL, hLl⟩ := row_cur hown; have HC1 := Lib.hid (HCC.out _ hgrow); have hgL2 : w1.heap[w.heap.size + 1 + 1]? = some (.cells L.toArray 3 (0, 0)) := by simpa using hgL)
    | (refine wpList_copyK rfl _ _ 23 23 rfl 3 1 (by decide) Try.underlying23 hsz _ _ _ _ _ _ rfl rfl (w.heap.size + 1 + 1) 0 L 3 hgL2 (([p, q, r, s].take n).map (Value.int .i64)) T1.out (fun _ => ⟨rfl, _, rfl, HC1.out⟩) (by rw [List.length_map, T2.out, hLl]; omega) T4.out w.heap.size w hB1 (by omega) ?_; intro w2 HG2 hB2)
    | fail)
  have hg2 : w2.heap[w.heap.size + 1 + 1]? = some (.cells (([p, q, r, s].take n).map (Value.int .i64)).toArray 3 (0, 0)) := by
    have := HG2.out
    rwa [splice_all _ _ (by rw [List.length_map, T2.out, hLl]; omega)] at this
  go_ret
  exact ⟨_, rfl, (ownOf hg2 T2.out (by omega)).low (by omega), hB2⟩
set_option maxRecDepth 20000 in
set_option maxHeartbeats 2000000 in
theorem c_restsOf (x a b c d n : Int) (ha : MB a) (hb : MB b) (hc : MB c) (hd : MB d) (w : World) : Calls Try.prog 50 #[.int .i64 x, baseV a b c d n] w fun e w' => e = .returned (restV (x % a) (x % b) (x % c) (x % d)) ∧ Below w.heap.size w w' := by
  have hN2 : Arr _ (w.heap.size + 1) _ := Arr.newAt (w.alloc (.cells #[.int .i64 a, .int .i64 b, .int .i64 c, .int .i64 d, .int .i64 n] 50)) #[.int .i64 0, .int .i64 0, .int .i64 0, .int .i64 0] 56 _ (by simp)
  have hB : Below w.heap.size w _ := ba (ba (Below.refl _ _) (.cells #[.int .i64 a, .int .i64 b, .int .i64 c, .int .i64 d, .int .i64 n] 50)) (.cells #[.int .i64 0, .int .i64 0, .int .i64 0, .int .i64 0] 56)
  go_enter Try.func50, Try.ntmps50
  go_wp2_with (first | (go_at_call 65; refine (c_by x x x x a b c d n ha hb hc hd _).mono ?_; rintro e w2 ⟨rfl, hb2⟩; have hN := hN2.keep hb2; obtain ⟨y0, y1, y2, y3⟩ := Arr.get4 hN; have fy := hN.f) | fail)
  obtain ⟨z0, z1, z2, z3⟩ := Arr.get4 (ret4 hN (y0 := .int .i64 (x % a)) (y1 := .int .i64 (x % b)) (y2 := .int .i64 (x % c)) (y3 := .int .i64 (x % d)))
  refine bodyPost_ret (v := restV (x % a) (x % b) (x % c) (x % d)) (by simp [results, Try.results50, go_sem, z0, z1, z2, z3]) rfl ⟨rfl, ?_⟩
  exact bel4 (bt2 hB hb2) (by omega) _ _ _ _
/-- the number at a place of a list, 0 behind it -/
def zA (zs : List Int) (i : Nat) : Int := zs[i]?.getD 0
theorem pad4 {zs : List Int} (h : zs.length ≤ 4) : splice [Value.int .i64 0, .int .i64 0, .int .i64 0, .int .i64 0] 0 (zs.map (Value.int .i64)) = [.int .i64 (zA zs 0), .int .i64 (zA zs 1), .int .i64 (zA zs 2), .int .i64 (zA zs 3)] := by
  match zs, h with
  | [], _ => rfl
  | [_], _ => rfl
  | [_, _], _ => rfl
  | [_, _, _], _ => rfl
  | [_, _, _, _], _ => rfl
/-- a list tells rests of a base of n moduli -/
def tolB (a b c d : Int) (n : Nat) (zs : List Int) : Bool := zs.length == n && (zA zs 0 % a == zA zs 0) && (zA zs 1 % b == zA zs 1) && (zA zs 2 % c == zA zs 2) && (zA zs 3 % d == zA zs 3)
theorem ints_cells {w : World} {b off n : Nat} {zs : List Int} (hl : zs.length = n) (hcells : ∀ i, i < n → w.cell? ⟨b, off + i, none⟩ = some (.int .i64 (zs[i]?.getD 0))) : ∀ j v, (zs.map (Value.int .i64))[j]? = some v → w.cell? ((⟨b, off, none⟩ : Addr).add j) = some v := by
  intro j v hv
  rw [Addr.add_lit]
  rw [List.getElem?_map] at hv
  cases hz : zs[j]? with
  | none => rw [hz] at hv; cases hv
  | some y =>
    rw [hz] at hv
    simp only [Option.map_some, Option.some.injEq] at hv
    have hj : j < n := by
      rcases Nat.lt_or_ge j n with h | h
      · exact h
      · rw [List.getElem?_eq_none (by omega)] at hz; cases hz
    rw [hcells j hj, hz, ← hv]
    rfl
theorem Arr.ofHeap {w : World} {g : Nat} {xs : List Value} {t : TypeId} (h : w.heap[g]? = some (.cells xs.toArray t (0, 0))) : Arr w g xs :=
  ⟨fun i _ => by simp [World.cell?, h], fun i => by simp [World.frozen?, h], (Array.getElem?_eq_some_iff.1 h).1⟩
set_option maxRecDepth 20000 in
set_option maxHeartbeats 2000000 in
theorem c_told (a b c d : Int) (n : Nat) (hn1 : 1 ≤ n) (hn4 : n ≤ 4) (ha : MB a) (hb : MB b) (hc : MB c) (hd : MB d) (s : Option Addr) (m cap : Nat) (zs : List Int) (hm : m ≤ 1048576) (w : World) (hz : Ints w s m zs) :
    Calls Try.prog 70 #[baseV a b c d n, .slice s m cap] w fun e w' => e = .returned (.tuple #[restV (selI (tolB a b c d n zs) (zA zs 0)) (selI (tolB a b c d n zs) (zA zs 1)) (selI (tolB a b c d n zs) (zA zs 2)) (selI (tolB a b c d n zs) (zA zs 3)), .bool (tolB a b c d n zs)]) ∧ Below w.heap.size w w' := by
  obtain rfl := hz.len
  have hsz : (Try.prog.info? 3).map (·.size) = some 1 := by
    obtain ⟨i0, hi, hz0, hz1, hz2⟩ := info_parts infoJ
    rw [hi]; simp [hz1]
  have hN0 := ((Arr.newAt w #[.int .i64 a, .int .i64 b, .int .i64 c, .int .i64 d, .int .i64 n] 50 _ rfl).alloc (.cells #[.int .i64 0, .int .i64 0, .int .i64 0, .int .i64 0] 56))
  have hN1 : Arr _ (w.heap.size + 1) _ := Arr.newAt (w.alloc (.cells #[.int .i64 a, .int .i64 b, .int .i64 c, .int .i64 d, .int .i64 n] 50)) #[.int .i64 0, .int .i64 0, .int .i64 0, .int .i64 0] 56 _ (by simp)
  have hB : Below w.heap.size w _ := ba (ba (Below.refl _ _) (.cells #[.int .i64 a, .int .i64 b, .int .i64 c, .int .i64 d, .int .i64 n] 50)) (.cells #[.int .i64 0, .int .i64 0, .int .i64 0, .int .i64 0] 56)
  by_cases hl : zs.length = n
  · subst hl
    have hP4 := pad4 hn4
    have HB := hB.alloc hB.size (.cells #[.int .i64 0, .int .i64 0, .int .i64 0, .int .i64 0] 56)
    have hg0 : ((((w.alloc (.cells #[.int .i64 a, .int .i64 b, .int .i64 c, .int .i64 d, .int .i64 zs.length] 50)).alloc (.cells #[.int .i64 0, .int .i64 0, .int .i64 0, .int .i64 0] 56)).alloc (.cells #[.int .i64 0, .int .i64 0, .int .i64 0, .int .i64 0] 56))).heap[w.heap.size + 1 + 1]? = some (.cells [Value.int .i64 0, .int .i64 0, .int .i64 0, .int .i64 0].toArray 56 (0, 0)) := by
      have := heap_alloc_new ((w.alloc (.cells #[.int .i64 a, .int .i64 b, .int .i64 c, .int .i64 d, .int .i64 zs.length] 50)).alloc (.cells #[.int .i64 0, .int .i64 0, .int .i64 0, .int .i64 0] 56)) (.cells #[.int .i64 0, .int .i64 0, .int .i64 0, .int .i64 0] 56)
      simpa using this
    have HC : Hid (0 < (zs.map (Value.int .i64)).length → ∃ ad, s = some ad ∧ ∀ j v, (zs.map (Value.int .i64))[j]? = some v → ((((w.alloc (.cells #[.int .i64 a, .int .i64 b, .int .i64 c, .int .i64 d, .int .i64 zs.length] 50)).alloc (.cells #[.int .i64 0, .int .i64 0, .int .i64 0, .int .i64 0] 56)).alloc (.cells #[.int .i64 0, .int .i64 0, .int .i64 0, .int .i64 0] 56))).cell? (ad.add j) = some v) := Lib.hid (fun _ => by
      rcases (hz.keep HB).lies with h0 | ⟨bb, off, rfl, hbw, hcells⟩
      · omega
      · exact ⟨_, rfl, ints_cells rfl hcells⟩)
    have HO := Lib.hid (oneInts zs)
    have HN := Lib.hid (show (zs.map (Value.int .i64)).length = Nat.min zs.length 4 * 1 by rw [List.length_map, Nat.mul_one]; exact (Nat.min_eq_left hn4).symm)
    have HL := Lib.hid (show (zs.map (Value.int .i64)).length ≤ 4 by rw [List.length_map]; exact hn4)
    have HP := Lib.hid hP4
    have HN0 := Lib.hid (hN0.alloc (.cells #[.int .i64 0, .int .i64 0, .int .i64 0, .int .i64 0] 56))
    have HN1 := Lib.hid (hN1.alloc (.cells #[.int .i64 0, .int .i64 0, .int .i64 0, .int .i64 0] 56))
    have ht : (zA zs 0 % a == zA zs 0 && zA zs 1 % b == zA zs 1 && zA zs 2 % c == zA zs 2 && zA zs 3 % d == zA zs 3) = tolB a b c d zs.length zs := by simp [tolB]
    have heq : ∀ w : World, (Op.equalIn 10000 56 (restV (zA zs 0 % a) (zA zs 1 % b) (zA zs 2 % c) (zA zs 3 % d)) (restV (zA zs 0) (zA zs 1) (zA zs 2) (zA zs 3))).run Try.prog w = .ok (tolB a b c d zs.length zs) w := fun w => by rw [run_eq4, ht]
    clear ht
    generalize tolB a b c d zs.length zs = T at *
    generalize zA zs 0 = p at *
    generalize zA zs 1 = q at *
    generalize zA zs 2 = r at *
    generalize zA zs 3 = t at *
    cases T
    all_goals simp only [selI_t, selI_f]
    all_goals
      clear hP4 hN0 hN1 hz
      go_enter Try.func70, Try.ntmps70
      go_wp2_with (first
        | (refine wpList_copyK rfl _ _ 23 23 rfl 3 1 (by decide) Try.underlying23 hsz _ _ _ _ _ _ rfl rfl (w.heap.size + 1 + 1) 0 [Value.int .i64 0, .int .i64 0, .int .i64 0, .int .i64 0] 56 hg0 (zs.map (Value.int .i64)) HN.out (fun h => ⟨rfl, HC.out h⟩) (by have := HL.out; simpa using this) HO.out (w.heap.size + 1 + 1) _ (Below.refl _ _) (by omega) ?_; intro w2 HG2 hB2)
        | fail)
      have hN0 := HN0.out.keepB hB2 (by omega)
      have hN1 := HN1.out.keepB hB2 (by omega)
      have hN2 := Arr.ofHeap HG2.out
      rw [HP.out] at hN2
      have hBw : Below w.heap.size w w2 := HB.trans (hB2.mono (by omega))
      clear HG2 HP HL HN HO HC hg0 HB hB hB2 HN0 HN1
      obtain ⟨m0, m1, m2, m3, m4⟩ := Arr.get5 hN0
      obtain ⟨x0, x1, x2, x3⟩ := Arr.get4 hN2
      have g0 : ∀ p : Abv w2, p.x.cell? _ = some _ := fun p => p.cell m0
      have g1 : ∀ p : Abv w2, p.x.cell? _ = some _ := fun p => p.cell m1
      have g2 : ∀ p : Abv w2, p.x.cell? _ = some _ := fun p => p.cell m2
      have g3 : ∀ p : Abv w2, p.x.cell? _ = some _ := fun p => p.cell m3
      have g4 : ∀ p : Abv w2, p.x.cell? _ = some _ := fun p => p.cell m4
      have f0 : ∀ p : Abv w2, p.x.cell? _ = some _ := fun p => p.cell x0
      have f1 : ∀ p : Abv w2, p.x.cell? _ = some _ := fun p => p.cell x1
      have f2 : ∀ p : Abv w2, p.x.cell? _ = some _ := fun p => p.cell x2
      have f3 : ∀ p : Abv w2, p.x.cell? _ = some _ := fun p => p.cell x3
      have hcb : ∀ y : Abv w2, _ := fun y => c_by p q r t a b c d zs.length ha hb hc hd y.x
      clear m0 m1 m2 m3 m4 x0 x1 x2 x3
      refine wp_region_above (by kernel_rfl) (by kernel_rfl) ?_
      repeat (refine q_step (fun K hK => ?_); go_simp; first | (refine hK _ ?_; clear hK K) | (apply Exists.intro; refine ⟨fun _ => ?_, hK _ ?_⟩; exact calls_above (hcb _); clear hK K))
      refine q_nil ?_
      intro _ hw'
      obtain ⟨y, hy⟩ := hw'
      subst hy
      have hN1 := hN1.keep y.h
      have hN2 := hN2.keep y.h
      have hBw := bt2 hBw y.h
      obtain ⟨y0, y1, y2, y3⟩ := Arr.get4 hN1
      have fy := hN1.f
      clear g0 g1 g2 g3 g4 f0 f1 f2 f3 hcb heq
      obtain ⟨x0, x1, x2, x3⟩ := Arr.get4 hN2
      go_wp2_with fail
      first
      | (obtain ⟨z0, z1, z2, z3⟩ := Arr.get4 (ret4 hN1 (y0 := .int .i64 0) (y1 := .int .i64 0) (y2 := .int .i64 0) (y3 := .int .i64 0))
         refine bodyPost_ret (v := .tuple #[restV 0 0 0 0, .bool false]) (by simp [results, Try.results70, go_sem, z0, z1, z2, z3]) rfl ⟨rfl, ?_⟩
         exact bel4 hBw (by omega) _ _ _ _)
      | (obtain ⟨z0, z1, z2, z3⟩ := Arr.get4 (ret4 hN1 (y0 := .int .i64 p) (y1 := .int .i64 q) (y2 := .int .i64 r) (y3 := .int .i64 t))
         refine bodyPost_ret (v := .tuple #[restV p q r t, .bool true]) (by simp [results, Try.results70, go_sem, z0, z1, z2, z3]) rfl ⟨rfl, ?_⟩
         exact bel4 hBw (by omega) _ _ _ _)
  · have ht : tolB a b c d n zs = false := by simp [tolB, hl]
    simp only [ht, selI_f]
    go_enter Try.func70, Try.ntmps70
    go_wp2_with fail
    obtain ⟨z0, z1, z2, z3⟩ := Arr.get4 hN1
    refine bodyPost_ret (v := .tuple #[restV 0 0 0 0, .bool false]) (by simp [results, Try.results70, go_sem, z0, z1, z2, z3]) rfl ⟨rfl, hB⟩
end Go.Proofs.Ytnbejgbkabaleaa
