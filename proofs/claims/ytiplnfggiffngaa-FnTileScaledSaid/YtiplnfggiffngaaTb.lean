/- Chapter 7, the program: a list put in order, mapped, moved, scaled. -/
import Derived.Test.YtiplnfggiffngaaTa
import Derived.Test.YtiplnfggiffngaaMathS
import Derived.Test.YtiplnfggiffngaaShelf
import Derived.Shelf.SortM.Plain
import Derived.Sort.OwnSortedInts
import Derived.OwnWalk
import Derived.Laws.OwnMore
namespace Go.Proofs.Ytiplnfggiffngaa
open Go.RowKit Go.Sort Go.Shelf
theorem infoQ : (Try.prog.info? 3).map (fun i => (i.zero, i.size, i.bytes)) = some (some (.int .i64 0), 1, 8) := by kernel_rfl
theorem grown_below {w w' : World} (h : Below w.heap.size w w') (row : Option Nat) : w.grownBy w' row := ⟨h.os, h.tape, h.output, h.size, fun i hi _ => h.block i hi⟩
theorem one_newQ (w : World) (x : Value) (t : TypeId) : ∀ j u, [x][j]? = some u → (w.alloc (.cells #[x] t)).cell? ((⟨w.heap.size, 0, none⟩ : Addr).add j) = some u := by
  intro j u hj
  match j, hj with
  | 0, hj => simp at hj; subst hj; simp [Addr.add]
theorem c_sortI (g n cap base : Nat) (zs : List Int) (hl : zs.length = n) (hn : n ≤ 1048576) (w : World) (hO : OwnI w base 3 (.slice (some ⟨g, 0, none⟩) n cap) zs) :
    Calls Try.prog 42 #[.slice (some ⟨g, 0, none⟩) n cap] w fun e w' => e = .returned (.tuple #[]) ∧ OwnI w' base 3 (.slice (some ⟨g, 0, none⟩) n cap) (srtI zs) ∧ w.grownBy w' (some g) := by
  subst hl
  have h0 : w.ownsRow base 3 1 (.slice (some ⟨g, 0, none⟩) zs.length cap) zs.length (zs.map (Value.int .i64)) := hO
  rcases h0.2 with ⟨h1, _⟩ | ⟨g', cap', cur, hv, hg, hb, r1, r2, r3, r4⟩
  · simp at h1
  simp only [Value.slice.injEq, Option.some.injEq, Addr.mk.injEq, and_true, true_and] at hv
  obtain ⟨rfl, rfl⟩ := hv
  have hH := holds_of_blockI (ss := zs) hb (by simpa using r4)
  have h := AnyM.slices_Sort_int Try.sortA g 0 cap zs w hH (Array.getElem?_eq_some_iff.1 hb).1 (by omega)
  refine Calls.mono (f := 42) h ?_
  rintro e w' ⟨rfl, n', os, rfl⟩
  refine ⟨rfl, ?_, grownBy_sortedI _⟩
  unfold OwnI
  rw [srtI_length]
  exact ownsRow_sortedI (srtI_length zs) hg hb r1 r2 r3
def InOrd (w : World) (g n cap base : Nat) (zs : List Int) (e : Ending) (w' : World) : Prop := e = .returned (.tuple #[.slice (some ⟨g, 0, none⟩) n cap, .bool (tasB (srtI zs))]) ∧ OwnI w' base 3 (.slice (some ⟨g, 0, none⟩) n cap) (srtI zs) ∧ w.grownBy w' (some g)
theorem c_inOrderOnce (g n cap base : Nat) (zs : List Int) (hl : zs.length = n) (hn : n ≤ 1048576) (w : World) (hO : OwnI w base 3 (.slice (some ⟨g, 0, none⟩) n cap) zs) :
    Calls Try.prog 25 #[.slice (some ⟨g, 0, none⟩) n cap] w (InOrd w g n cap base zs) := by
  go_enter Try.func25, Try.ntmps25
  go_wp2_with fail
  refine (c_sortI _ _ _ _ zs hl hn _ hO).mono ?_
  rintro e w2 ⟨rfl, hO2, hg2⟩
  have hI := hO2.ints (show (srtI zs).length = n by rw [srtI_length, hl])
  go_wp2_with fail
  refine (c_ascends _ _ _ (srtI zs) hn _ hI).mono ?_
  rintro e w3 ⟨rfl, hB3⟩
  have hO3 := hO2.keep hB3
  go_wp2_with fail
  go_ret2
  exact ⟨rfl, hO3, hg2.trans (grown_below hB3 _)⟩
theorem mul_small {x y : Int} (x0 : 0 ≤ x) (x1 : x ≤ 1000) (y0 : -1000 ≤ y) (y1 : y ≤ 1000) : -1000000 ≤ x * y ∧ x * y ≤ 1000000 := by
  have h1 := Int.mul_le_mul_of_nonneg_left y1 x0
  have h2 := Int.mul_le_mul_of_nonneg_left y0 x0
  omega
theorem c_mappedM_fn (x y n : Int) (b1 b2 : Nat) (n1 : 1 ≤ n) (n2 : n ≤ 24) (x0 : 0 ≤ x) (x1 : x ≤ 1000) (y0 : -1000 ≤ y) (y1 : y ≤ 1000) (w : World) (hy : w.cell? ⟨b1, 0, none⟩ = some (.int .i64 y)) (hn : w.cell? ⟨b2, 0, none⟩ = some (.int .i64 n)) :
    Calls Try.prog 43 #[.int .i64 x, .pointer (some ⟨b1, 0, none⟩), .pointer (some ⟨b2, 0, none⟩)] w fun e w' => e = .returned (.int .i64 ((x + y) % n)) ∧ w = w' := by
  go_enter Try.func43, Try.ntmps43
  go_wp2_with (first | (go_at_call 24; refine (c_restOf _ _ n1 (by omega) _).mono ?_; rintro e w1 ⟨rfl, rfl⟩))
  go_ret
  exact ⟨rfl, rfl⟩
def MapM (w : World) (n : Int) (z : List Int) (t : Int) (e : Ending) (w' : World) : Prop := ∃ v, e = .returned (.tuple #[v, .bool (decide (tmvL n z t).Nodup)]) ∧ OwnI w' w.heap.size 3 v (srtI (tmvL n z t)) ∧ Below w.heap.size w w'
set_option maxRecDepth 20000 in
set_option maxHeartbeats 1000000 in
theorem c_mappedM (s : Option Addr) (l cap : Nat) (z : List Int) (y n : Int) (b1 b2 : Nat) (hl : l ≤ 24) (n1 : 1 ≤ n) (n2 : n ≤ 24) (y0 : -1000 ≤ y) (y1 : y ≤ 1000) (hx : ∀ x ∈ z, 0 ≤ x ∧ x ≤ n - 1) (w : World) (hz : Ints w s l z) (hy : w.cell? ⟨b1, 0, none⟩ = some (.int .i64 y)) (hn : w.cell? ⟨b2, 0, none⟩ = some (.int .i64 n)) :
    Calls Try.prog 30 #[.slice s l cap, .func (.func 43) #[] #[.pointer (some ⟨b1, 0, none⟩), .pointer (some ⟨b2, 0, none⟩)]] w (MapM w n z y) := by
  obtain rfl := hz.len
  obtain ⟨i0, hi, hz0, hz1, hz2⟩ := info_parts infoQ
  have HX := Lib.hid hx
  clear hx
  have HT : ∀ k, k < z.length → (tmvL n z y).take (k + 1) = (tmvL n z y).take k ++ [(gZ z k + y) % n] := fun k hk => by
    rw [List.take_succ_eq_append_getElem (by simpa [tmvL] using hk)]
    congr 2
    simp [tmvL, gZ_get z k hk]
  have HE : Hid ((tmvL n z y).take z.length = tmvL n z y) := Lib.hid (List.take_of_length_le (by simp [tmvL]))
  have HLn : Hid ((tmvL n z y).length = z.length) := Lib.hid (by simp [tmvL])
  unfold MapM
  generalize tmvL n z y = ms at *
  go_enter Try.func30, Try.ntmps30
  go_wp2_with (first | (at_make; refine wpList_make_own _ rfl _ _ 23 rfl w.heap.size 3 i0 (.int .i64 0) 1 Try.underlying23 hi hz0 hz1 .i64 .i64 _ z.length rfl rfl rfl (by rw [hz2]; omega) (by unfold maxLen; omega) (Nat.le_refl _) ?_; intro w3 hown hgrow) | fail)
  have hb3 : Below w.heap.size w w3 := (Below.refl _ _).grown hgrow (Nat.le_refl _) (fun k h => by cases h)
  clear hgrow
  go_loopw [6, 14] (fun v i wr => ∃ (k : Nat), k ≤ z.length ∧ i = .int .i64 k ∧ v = .slice (some ⟨w.heap.size, 0, none⟩) k z.length ∧ wr.ownsRow w.heap.size 3 1 (.slice (some ⟨w.heap.size, 0, none⟩) k z.length) k ((ms.take k).map (Value.int .i64)) ∧ Below w.heap.size w wr) (fun _ i _ => z.length - (intOf i).toNat)
  case atStart => exact ⟨0, Nat.zero_le _, rfl, rfl, hown, hb3⟩
  case round =>
    clear hown hb3
    obtain ⟨k, hk, rfl, rfl, hO, hB⟩ := hrel
    by_cases hlt : k < z.length
    · rcases (hz.keep hB).lies with h0 | ⟨b, off, rfl, hbw, hcells⟩
      · omega
      have hx' : wr.cell? ⟨b, off + k, none⟩ = some (.int .i64 (gZ z k)) := hcells k hlt
      have hyr := keepc hB hy
      have hnr := keepc hB hn
      have HTk := Lib.hid (HT k hlt)
      have hxb := HX.out _ (gZ_mem z k hlt)
      obtain ⟨p0, p1⟩ := hxb
      clear hcells HT
      have hcf := c_mappedM_fn (gZ z k) y n b1 b2 n1 n2 p0 (by omega) y0 y1
      generalize gZ z k = x at *
      go_wp2_with (first | (go_at_call 43; refine (hcf _ hyr hnr).mono ?_; rintro e w5 ⟨rfl, rfl⟩) | (at_builtin; refine wpList_append_fits _ rfl _ _ 23 rfl w.heap.size 3 i0 1 Try.underlying23 hi hz1 w.heap.size k z.length _ rfl (hO.alloc _) ⟨wr.heap.size, 0, none⟩ 1 1 [.int .i64 ((x + y) % n)] rfl rfl (one_newQ wr _ _) (by simp [Value.oneCell']) (by omega) ?_; intro w7 hown7 hgrow7) | fail)
      have hb7 : Below w.heap.size w w7 := (ba hB _).grown hgrow7 (ba hB _).size (fun k e => by cases e; exact Nat.le_refl _)
      go_roundw
      case rel => exact ⟨k + 1, by omega, by go_num, rfl, by rw [HTk.out, List.map_append]; exact hown7, hb7⟩
      case measure => simp [intOf]; omega
    · have hk' : k = z.length := by omega
      subst hk'
      rw [HE.out] at hO
      have hOI : OwnI wr w.heap.size 3 (.slice (some ⟨w.heap.size, 0, none⟩) z.length z.length) ms := by
        unfold OwnI; rw [HLn.out]; exact hO
      clear hO
      go_wp2_with fail
      refine (c_inOrderOnce _ _ _ _ ms HLn.out (by omega) _ hOI).mono ?_
      rintro e w4 ⟨rfl, hO4, hg4⟩
      have hB4 : Below w.heap.size w w4 := hB.grown hg4 hB.size (fun k e => by cases e; exact Nat.le_refl _)
      go_wp2_with fail
      go_ret2
      exact ⟨_, by rw [← tasB_srtI]; rfl, hO4, hB4⟩
theorem c_mappedS_fn (x y n : Int) (b1 b2 : Nat) (n1 : 1 ≤ n) (n2 : n ≤ 24) (x0 : 0 ≤ x) (x1 : x ≤ 1000) (y0 : -1000 ≤ y) (y1 : y ≤ 1000) (w : World) (hy : w.cell? ⟨b1, 0, none⟩ = some (.int .i64 y)) (hn : w.cell? ⟨b2, 0, none⟩ = some (.int .i64 n)) :
    Calls Try.prog 31 #[.int .i64 x, .pointer (some ⟨b1, 0, none⟩), .pointer (some ⟨b2, 0, none⟩)] w fun e w' => e = .returned (.int .i64 ((x * y) % n)) ∧ w = w' := by
  have hm := mul_small x0 x1 y0 y1
  go_enter Try.func31, Try.ntmps31
  go_wp2_with (first | (go_at_call 24; refine (c_restOf _ _ n1 (by omega) _).mono ?_; rintro e w1 ⟨rfl, rfl⟩))
  go_ret
  exact ⟨rfl, rfl⟩
def MapS (w : World) (n : Int) (z : List Int) (t : Int) (e : Ending) (w' : World) : Prop := ∃ v, e = .returned (.tuple #[v, .bool (decide (tscL n z t).Nodup)]) ∧ OwnI w' w.heap.size 3 v (srtI (tscL n z t)) ∧ Below w.heap.size w w'
set_option maxRecDepth 20000 in
set_option maxHeartbeats 1000000 in
theorem c_mappedS (s : Option Addr) (l cap : Nat) (z : List Int) (y n : Int) (b1 b2 : Nat) (hl : l ≤ 24) (n1 : 1 ≤ n) (n2 : n ≤ 24) (y0 : -1000 ≤ y) (y1 : y ≤ 1000) (hx : ∀ x ∈ z, 0 ≤ x ∧ x ≤ n - 1) (w : World) (hz : Ints w s l z) (hy : w.cell? ⟨b1, 0, none⟩ = some (.int .i64 y)) (hn : w.cell? ⟨b2, 0, none⟩ = some (.int .i64 n)) :
    Calls Try.prog 30 #[.slice s l cap, .func (.func 31) #[] #[.pointer (some ⟨b1, 0, none⟩), .pointer (some ⟨b2, 0, none⟩)]] w (MapS w n z y) := by
  obtain rfl := hz.len
  obtain ⟨i0, hi, hz0, hz1, hz2⟩ := info_parts infoQ
  have HX := Lib.hid hx
  clear hx
  have HT : ∀ k, k < z.length → (tscL n z y).take (k + 1) = (tscL n z y).take k ++ [(gZ z k * y) % n] := fun k hk => by
    rw [List.take_succ_eq_append_getElem (by simpa [tscL] using hk)]
    congr 2
    simp [tscL, gZ_get z k hk]
  have HE : Hid ((tscL n z y).take z.length = tscL n z y) := Lib.hid (List.take_of_length_le (by simp [tscL]))
  have HLn : Hid ((tscL n z y).length = z.length) := Lib.hid (by simp [tscL])
  unfold MapS
  generalize tscL n z y = ms at *
  go_enter Try.func30, Try.ntmps30
  go_wp2_with (first | (at_make; refine wpList_make_own _ rfl _ _ 23 rfl w.heap.size 3 i0 (.int .i64 0) 1 Try.underlying23 hi hz0 hz1 .i64 .i64 _ z.length rfl rfl rfl (by rw [hz2]; omega) (by unfold maxLen; omega) (Nat.le_refl _) ?_; intro w3 hown hgrow) | fail)
  have hb3 : Below w.heap.size w w3 := (Below.refl _ _).grown hgrow (Nat.le_refl _) (fun k h => by cases h)
  clear hgrow
  go_loopw [6, 14] (fun v i wr => ∃ (k : Nat), k ≤ z.length ∧ i = .int .i64 k ∧ v = .slice (some ⟨w.heap.size, 0, none⟩) k z.length ∧ wr.ownsRow w.heap.size 3 1 (.slice (some ⟨w.heap.size, 0, none⟩) k z.length) k ((ms.take k).map (Value.int .i64)) ∧ Below w.heap.size w wr) (fun _ i _ => z.length - (intOf i).toNat)
  case atStart => exact ⟨0, Nat.zero_le _, rfl, rfl, hown, hb3⟩
  case round =>
    clear hown hb3
    obtain ⟨k, hk, rfl, rfl, hO, hB⟩ := hrel
    by_cases hlt : k < z.length
    · rcases (hz.keep hB).lies with h0 | ⟨b, off, rfl, hbw, hcells⟩
      · omega
      have hx' : wr.cell? ⟨b, off + k, none⟩ = some (.int .i64 (gZ z k)) := hcells k hlt
      have hyr := keepc hB hy
      have hnr := keepc hB hn
      have HTk := Lib.hid (HT k hlt)
      have hxb := HX.out _ (gZ_mem z k hlt)
      obtain ⟨p0, p1⟩ := hxb
      clear hcells HT
      have hcf := c_mappedS_fn (gZ z k) y n b1 b2 n1 n2 p0 (by omega) y0 y1
      generalize gZ z k = x at *
      go_wp2_with (first | (go_at_call 31; refine (hcf _ hyr hnr).mono ?_; rintro e w5 ⟨rfl, rfl⟩) | (at_builtin; refine wpList_append_fits _ rfl _ _ 23 rfl w.heap.size 3 i0 1 Try.underlying23 hi hz1 w.heap.size k z.length _ rfl (hO.alloc _) ⟨wr.heap.size, 0, none⟩ 1 1 [.int .i64 ((x * y) % n)] rfl rfl (one_newQ wr _ _) (by simp [Value.oneCell']) (by omega) ?_; intro w7 hown7 hgrow7) | fail)
      have hb7 : Below w.heap.size w w7 := (ba hB _).grown hgrow7 (ba hB _).size (fun k e => by cases e; exact Nat.le_refl _)
      go_roundw
      case rel => exact ⟨k + 1, by omega, by go_num, rfl, by rw [HTk.out, List.map_append]; exact hown7, hb7⟩
      case measure => simp [intOf]; omega
    · have hk' : k = z.length := by omega
      subst hk'
      rw [HE.out] at hO
      have hOI : OwnI wr w.heap.size 3 (.slice (some ⟨w.heap.size, 0, none⟩) z.length z.length) ms := by
        unfold OwnI; rw [HLn.out]; exact hO
      clear hO
      go_wp2_with fail
      refine (c_inOrderOnce _ _ _ _ ms HLn.out (by omega) _ hOI).mono ?_
      rintro e w4 ⟨rfl, hO4, hg4⟩
      have hB4 : Below w.heap.size w w4 := hB.grown hg4 hB.size (fun k e => by cases e; exact Nat.le_refl _)
      go_wp2_with fail
      go_ret2
      exact ⟨_, by rw [← tasB_srtI]; rfl, hO4, hB4⟩
def RetS (w : World) (zs : List Int) (ok : Bool) (e : Ending) (w' : World) : Prop := ∃ v, e = .returned (.tuple #[v, .bool ok]) ∧ OwnI w' w.heap.size 3 v zs ∧ Below w.heap.size w w'
def RetM (w : World) (zs : List Int) (e : Ending) (w' : World) : Prop := ∃ v, e = .returned v ∧ OwnI w' w.heap.size 3 v zs ∧ Below w.heap.size w w'
theorem til_sizes {n : Int} {z : List Int} {l : Nat} (h : Til n z) (hl : z.length = l) : 1 ≤ n ∧ n ≤ 24 ∧ 1 ≤ l ∧ l ≤ 24 := by
  have h1 := h.1
  have h2 := h.2.1
  have h3 := h.len
  exact ⟨h1, h2, by omega, by omega⟩
set_option maxRecDepth 20000 in
set_option maxHeartbeats 1000000 in
theorem c_moved (n t : Int) (s : Option Addr) (l cap : Nat) (z : List Int) (hT : Til n z) (t0 : -1000 ≤ t) (t1 : t ≤ 1000) (w : World) (hz : Ints w s l z) : Calls Try.prog 26 #[.int .i64 n, .slice s l cap, .int .i64 t] w (RetM w (tmvR n z t)) := by
  obtain ⟨n1, n2, l1, l2⟩ := til_sizes hT hz.len
  have HS := Lib.hid (tmvR_srt hT t)
  have HX := Lib.hid hT.2.2.2.2
  clear hT
  have hb : Below w.heap.size w ((w.alloc (.cells #[.int .i64 n] 3)).alloc (.cells #[.int .i64 t] 3)) := ba (ba (Below.refl _ _) _) _
  have hz2 := hz.keep hb
  have c1 : ((w.alloc (.cells #[.int .i64 n] 3)).alloc (.cells #[.int .i64 t] 3)).cell? ⟨w.heap.size + 1, 0, none⟩ = some (.int .i64 t) := by simp
  have c2 : ((w.alloc (.cells #[.int .i64 n] 3)).alloc (.cells #[.int .i64 t] 3)).cell? ⟨w.heap.size, 0, none⟩ = some (.int .i64 n) := kc (w := w) (ba (Below.refl _ _) _) 0
  have hcon := c_mappedM s l cap z t n (w.heap.size + 1) w.heap.size l2 n1 n2 t0 t1 HX.out _ hz2 c1 c2
  clear c1 c2 hz2 hz
  go_enter Try.func26, Try.ntmps26
  go_wp2_with fail
  refine hcon.mono ?_
  rintro e w3 ⟨v, rfl, hO, hB⟩
  go_wp2_with fail
  go_ret
  exact ⟨_, rfl, by rw [← HS.out]; exact hO.low hb.size, bt2 hb hB⟩
end Go.Proofs.Ytiplnfggiffngaa
