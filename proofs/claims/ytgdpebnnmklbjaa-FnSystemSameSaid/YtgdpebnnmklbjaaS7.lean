/- Contract of SystemTimes in the program: the walk. -/
import Derived.Test.YtgdpebnnmklbjaaS6
namespace Go.Proofs.Ytgdpebnnmklbjaa
open Go.RowKit Go.Shelf
attribute [local go_sem] Oper.semAt_some
theorem madeCells1 (n : Nat) : (madeCells #[.int .i64 0] (n * 1)).toList = (List.replicate n (0 : Int)).map (Value.int .i64) := by
  rw [Nat.mul_one, toList_madeCells_one, List.map_replicate]
set_option maxRecDepth 100000 in
set_option maxHeartbeats 4000000 in
theorem c_implTimes1 (s : Option Addr) (n cap : Nat) (zs : List Cl) (hn : n ≤ 1048576) (hs : sysB zs = true) (w : World) (hc : Cls w s n zs) : Calls Try.prog 20 #[.slice s n cap] w (RetI w (timL zs) true) := by
  have hlen := hc.len
  have HL := Lib.hid hlen
  obtain ⟨hl1, hl2, ha, _, P1, P2⟩ := sysB_facts hs
  have HA := Lib.hid ha
  obtain ⟨P, hP⟩ : ∃ P : Nat, perI zs = (P : Int) := ⟨(perI zs).toNat, by omega⟩
  have HP := Lib.hid hP
  have hP2 : P ≤ 1000 := by omega
  have hn8 : n ≤ 8 := by omega
  have hcon := c_implSystemPeriod_t s n cap zs hn hs w hc
  rw [hP] at hcon
  clear hlen ha hl1 hl2 hP P1 P2
  obtain ⟨i0, hi, hz0, hz1, hz2⟩ := info_parts infoI
  refine (callsIn_wide (n := 5)).1 ?_
  refine callsIn_of_wp_marks Try.func20 rfl trivial ?_ rfl
  simp only [Try.ntmps20, List.size_toArray, List.length_cons, List.length_nil, Nat.reduceAdd, Nat.reduceSub, Array.replicate_succ, Array.replicate_zero, List.push_toArray, List.append_toArray, List.nil_append, List.cons_append]
  gi_wp2_with (first | (gi_at_make; refine wpListIn_make_full _ rfl _ _ 30 rfl w.heap.size 3 i0 (.int .i64 0) 1 Try.underlying30 hi hz0 hz1 .i64 .i64 _ _ P rfl rfl rfl rfl (by rw [hz2]; omega) (by unfold maxLen; omega) hb2.size ?_; intro w3 hown hgrow) | (refine ⟨trivial, ?_⟩; gi_at_call 18; refine (callsIn_wide.2 hcon).mono ?_; rintro e w2 ⟨rfl, hb2⟩))
  clear hcon
  have hown2 : OwnI (w3.alloc (.cells #[.slice (some ⟨w2.heap.size, 0, none⟩) P P] 30)) w.heap.size 3 (.slice (some ⟨w2.heap.size, 0, none⟩) P P) (tmpL zs P 0 []) := by
    have hown' : w3.ownsRow w.heap.size 3 1 (.slice (some ⟨w2.heap.size, 0, none⟩) P P) P (madeCells #[.int .i64 0] (P * 1)).toList := hown
    rw [madeCells1] at hown'
    unfold OwnI
    rw [tmpL_zero, List.length_replicate]
    exact hown'.alloc _
  have hbx : Boxed (w3.alloc (.cells #[.slice (some ⟨w2.heap.size, 0, none⟩) P P] 30)) w3.heap.size 30 (.slice (some ⟨w2.heap.size, 0, none⟩) P P) := Boxed.new _ _ _
  have hbl : Below w.heap.size w (w3.alloc (.cells #[.slice (some ⟨w2.heap.size, 0, none⟩) P P] 30)) := ba (hb2.grown hgrow hb2.size (fun k h => by cases h)) _
  have hgw := hb2.size
  have hgs := hgrow.size
  have hgl : w2.heap.size < w3.heap.size := by
    have := hown.2
    rcases this with ⟨h1, _⟩ | ⟨g', cap', cur, h1, _, hg, _⟩
    · simp at h1
    · simp only [Value.slice.injEq, Option.some.injEq, Addr.mk.injEq, and_true] at h1
      obtain ⟨rfl, _, _⟩ := h1
      exact block_lt hg
  clear hown
  refine wpIn_loop (fun a wr => ∃ (k : Nat) (Ds : List Nat) (u8 u22 u23 u24 u25 u26 u27 u35 : Value), k ≤ n ∧ OwnI wr w.heap.size 3 (.slice (some ⟨w2.heap.size, 0, none⟩) P P) (tmpL zs P k []) ∧ Boxed wr w3.heap.size 30 (.slice (some ⟨w2.heap.size, 0, none⟩) P P) ∧ MarksOk w3.heap.size Ds wr ∧ Below w.heap.size w wr ∧ a = { tmps := #[.slice s n cap, undef, .slice none 0 0, .bool false, .int .i64 (P : Int), .bool true, .pointer (some ⟨w3.heap.size, 0, none⟩), undef, u8, undef, .tuple #[.int .i64 (P : Int), .bool true], .slice s n cap, .tuple #[.int .i64 (P : Int), .bool true], .int .i64 (P : Int), .bool true, .bool true, .bool false, .int .i64 (P : Int), .slice (some ⟨w2.heap.size, 0, none⟩) P P, .slice s n cap, .int .i64 (n : Int), .int .i64 (k : Int), u22, u23, u24, u25, u26, u27, undef, undef, undef, undef, undef, undef, undef, u35, undef], defers := Ds.map mark }) (fun a _ => n - (intOf (a.tmps.getD 21 undef)).toNat) ?start ?round
  case start => exact ⟨0, [], undef, undef, undef, undef, undef, undef, undef, undef, Nat.zero_le _, hown2, hbx, MarksOk.nil _ _, hbl, rfl⟩
  case round =>
    rintro a wr ⟨k, Ds, u8, u22, u23, u24, u25, u26, u27, u35, hk, hO, hbx, hM, hB, rfl⟩
    clear hown2 hbl
    by_cases hlt : k < n
    · have hib := allB_at HA.out k (by rw [HL.out]; exact hlt)
      obtain ⟨m1, m2, r1, r2⟩ := inB_iff.1 hib
      have HI := Lib.hid hib
      rcases (hc.keep hB).lies with h0 | ⟨b, off, rfl, hb', hcells⟩
      · omega
      obtain ⟨hx, hy⟩ := hcells k hlt
      have hbc := hbx.cell
      clear hcells hib
      gi_wp2_with (refine ⟨trivial, ?_⟩; gi_at_call 57; refine (callsIn_wide.2 (c_numbers _ _ _ _ _)).mono ?_; rintro e w1 ⟨rfl, rfl⟩)
      have hDs : ∀ D ∈ Ds, D < wr.heap.size := fun D hD => (Array.getElem?_eq_some_iff.1 (hM.2 D hD).2).1
      have hwz : w3.heap.size < wr.heap.size := hbx.lt
      obtain ⟨W0, hW0⟩ : ∃ W0, ((((wr.alloc (.cells #[.int .i64 (rAt zs k), .int .i64 (mAt zs k)] 34)).alloc (.cells #[.int .i64 (rAt zs k), .int .i64 (mAt zs k)] 34)).alloc (.cells #[.int .i64 0] 3)).alloc (.cells #[.int .i64 (P : Int)] 3)) = W0 := ⟨_, rfl⟩
      have hsz : W0.heap.size = wr.heap.size + 4 := by rw [← hW0]; simp
      have b0 : W0.cell? ⟨wr.heap.size + 1, 0, none⟩ = some (.int .i64 (rAt zs k)) := by rw [← hW0]; exact keep_alloc (keep_alloc (by simp))
      have b1 : W0.cell? ⟨wr.heap.size + 1, 1, none⟩ = some (.int .i64 (mAt zs k)) := by rw [← hW0]; exact keep_alloc (keep_alloc (by simp))
      have b2 : W0.cell? ⟨wr.heap.size + 1 + 1, 0, none⟩ = some (.int .i64 0) := by rw [← hW0]; exact keep_alloc (cell_new2 _ _ _ _ _)
      have b3 : W0.cell? ⟨wr.heap.size + 1 + 1 + 1, 0, none⟩ = some (.int .i64 (P : Int)) := by rw [← hW0]; exact cell_new3 _ _ _ _ _ _
      have hB0 : Below wr.heap.size wr W0 := by rw [← hW0]; exact ba (ba (ba (ba (Below.refl _ _) _) _) _) _
      have hI0 : (OwnI W0 w.heap.size 3 (.slice (some ⟨w2.heap.size, 0, none⟩) P P) (tmpL zs P k []) ∧ Boxed W0 w3.heap.size 30 (.slice (some ⟨w2.heap.size, 0, none⟩) P P) ∧ MarksOk w3.heap.size Ds W0) ∧ Below w.heap.size w W0 := by
        refine ⟨⟨hO.keep hB0, ?_, ?_⟩, bt2 hB hB0⟩
        · rw [← hW0]; exact (((hbx.alloc _).alloc _).alloc _).alloc _
        · rw [← hW0]; exact (((hM.kept (World.grownBy_alloc _ _ none) (by simp)).kept (World.grownBy_alloc _ _ none) (by simp)).kept (World.grownBy_alloc _ _ none) (by simp)).kept (World.grownBy_alloc _ _ none) (by simp)
      rw [hW0]
      clear hW0 hO hbx hbc hx hy hM
      have HSZ := Lib.hid hsz
      have hNP : ∀ j, numK (rAt zs k) (mAt zs k) 0 j < (P : Int) → j < P := fun j hj => by
        rw [numK_0 r1 r2] at hj
        have := Int.mul_le_mul_of_nonneg_left m1 (Int.natCast_nonneg j)
        omega
      refine wpIn_rangeFunc_ownG rfl (by omega) (gf := 79) (lb := #[.pointer (some ⟨wr.heap.size + 1, 0, none⟩), .pointer (some ⟨wr.heap.size + 1 + 1, 0, none⟩), .pointer (some ⟨wr.heap.size + 1 + 1 + 1, 0, none⟩)]) rfl trivial (enters_of Try.func79 (by kernel_rfl) rfl)
        (num2_stops _ (by omega) (wr.heap.size + 1) (wr.heap.size + 1 + 1) (wr.heap.size + 1 + 1 + 1) P (rAt zs k) (mAt zs k) 0 (P : Int) m1 m2 r1 r2 (by omega) (by omega) (by omega) hNP (Kp3 (wr.heap.size + 1) (wr.heap.size + 1 + 1) (wr.heap.size + 1 + 1 + 1)) (fun W W' h => h) W0 (by rw [hsz]; omega) (by rw [hsz]; omega) (by rw [hsz]; omega) b0 b1 b2 b3) Kp3.t (Kp3.b (by rw [hsz]; omega) (by rw [hsz]; omega) (by rw [hsz]; omega)) (Below.refl _ _) (fun _ => rfl)
        (fun pre W => (OwnI W w.heap.size 3 (.slice (some ⟨w2.heap.size, 0, none⟩) P P) (tmpL zs P k (vals pre)) ∧ Boxed W w3.heap.size 30 (.slice (some ⟨w2.heap.size, 0, none⟩) P P) ∧ MarksOk w3.heap.size Ds W) ∧ Below w.heap.size w W)
        (fun _ _ _ => False)
        (by
          rintro pre X Y rw' ⟨⟨h1, h2, h3⟩, h4⟩ hg hr
          have hne : ∀ j, j < W0.heap.size → some j ≠ rw' := fun j hj e => by have := (hr j e.symm).1; omega
          exact ⟨⟨h1.other hg (.inr (hne w2.heap.size (by rw [hsz]; omega))), h2.kept hg (hne w3.heap.size (by rw [hsz]; omega)), h3.kept hg (fun D hD => hne D (by have := hDs D hD; rw [hsz]; omega))⟩, h4.grown hg h4.size (fun j e => by have := (hr j e).1; rw [hsz] at this; omega)⟩)
        (fun _ _ _ _ _ hs _ _ => hs)
        hI0
        (fun x => { tmps := #[.slice (some ⟨b, off, none⟩) n cap, undef, .slice none 0 0, .bool false, .int .i64 (P : Int), .bool true, .pointer (some ⟨w3.heap.size, 0, none⟩), undef, .pointer (some ⟨wr.heap.size, 0, none⟩), .int .i64 x.1, .tuple #[.int .i64 (P : Int), .bool true], .slice (some ⟨b, off, none⟩) n cap, .tuple #[.int .i64 (P : Int), .bool true], .int .i64 (P : Int), .bool true, .bool true, .bool false, .int .i64 (P : Int), .slice (some ⟨w2.heap.size, 0, none⟩) P P, .slice (some ⟨b, off, none⟩) n cap, .int .i64 (n : Int), .int .i64 (k : Int), .bool true, .pointer (some ⟨b, off + k * 2, none⟩), .agg #[.int .i64 (rAt zs k), .int .i64 (mAt zs k)], .agg #[.int .i64 (rAt zs k), .int .i64 (mAt zs k)], .int .i64 (P : Int), .func (.func 79) #[] #[.pointer (some ⟨wr.heap.size + 1, 0, none⟩), .pointer (some ⟨wr.heap.size + 1 + 1, 0, none⟩), .pointer (some ⟨wr.heap.size + 1 + 1 + 1, 0, none⟩)], .int .i64 x.1, undef, undef, undef, undef, undef, undef, u35, undef], defers := [] }) ?assign ?body ?done ?stop
      case assign =>
        intro l x W K hK
        gi_wp2
        exact hK
      case body =>
        rintro l pre ⟨x, hx0, hxP⟩ W ⟨⟨hO1, hx1, hM1⟩, hB1⟩ hlen
        obtain ⟨j, rfl⟩ := Int.eq_ofNat_of_zero_le hx0
        have hj : j < P := by omega
        have hc1 := hx1.cell
        have hcj := hO1.cell (tmpL_length _ _ _ _) j hj
        rw [tmpL_at _ _ _ _ _ hj] at hcj
        have hfj := hO1.free (tmpL_length _ _ _ _) j
        have hv1 := cntK_bd zs (j : Int) k
        have hv2 := occ_bd (vals pre) (j : Int)
        rw [vals_length] at hv2
        have HT := Lib.hid (tmpL_set zs P k (vals pre) j hj)
        clear hsz b0 b1 b2 b3 hI0 hNP
        dsimp only
        gi_wp2
        have hG := grown_set (World.grownBy.refl W (some w2.heap.size)) j (.int .i64 (cntK zs (j : Int) k + occ (vals pre) (j : Int) + 1))
        have hO2 := hO1.store (tmpL_length _ _ _ _) j (cntK zs (j : Int) k + occ (vals pre) (j : Int) + 1)
        rw [HT.out] at hO2
        have hne : ∀ i, w3.heap.size ≤ i → some i ≠ some w2.heap.size := fun i hi e => by cases e; omega
        exact ⟨(KeepsOthers.setCell _ _ _).from _, Kp3.of (fun i hi => Below.heap_setCell _ _ _ _ (by show i ≠ w2.heap.size; omega)), ⟨by rw [vals_snoc]; exact hO2, hx1.kept hG (hne _ (Nat.le_refl _)), hM1.kept hG (fun D hD => hne D (hM1.2 D hD).1)⟩, hB1.setCell (by show w.heap.size ≤ w2.heap.size; omega) _⟩
      case done =>
        rintro D ys W hD hS ⟨⟨hO1, hx1, hM1⟩, hB1⟩ hK
        rw [tmpL_next HI.out hS] at hO1
        have hDl : wr.heap.size ≤ D := by rw [HSZ.out] at hD; omega
        have hM2 := hM1.cons (D := D) (by omega) hK (fun h => by have := hDs D h; omega)
        clear hsz b0 b1 b2 b3 hI0 hNP
        gi_wp2
        refine ⟨⟨k + 1, D :: Ds, _, _, _, _, _, _, _, _, by omega, hO1, hx1, hM2, hB1, rfl⟩, ?_⟩
        simp [intOf]; omega
      case stop =>
        rintro D c pre W _ _ h _
        exact h.elim
    · have hk' : k = n := by omega
      have hT := tmpL_all HP.out
      rw [HL.out, ← hk'] at hT
      rw [hT] at hO
      have hbc := hbx.cell
      clear hT
      gi_wp2
      refine leaves_marks (B := w3.heap.size) (fun W => OwnI W w.heap.size 3 (.slice (some ⟨w2.heap.size, 0, none⟩) P P) (timL zs) ∧ Below w.heap.size w W) ?_ ?_ Ds _ hM ⟨hO, hB⟩
      · rintro X D hD hX ⟨h1, h2⟩
        exact ⟨h1.other (grownBy_putObj' X D _) (.inr (fun e => by have : w2.heap.size = D := by simpa [Value.ownBlock] using e
                                                                   omega)), h2.grown (grownBy_putObj' X D _) h2.size (fun j e => by cases e; omega)⟩
      · rintro X ⟨h1, h2⟩
        refine ⟨.tuple #[.slice (some ⟨w2.heap.size, 0, none⟩) P P, .bool true], ?_, ⟨_, rfl, h1, h2⟩⟩
        simp [results, Try.f20, go_sem]
theorem c_implSystemTimes (s : Option Addr) (n cap : Nat) (zs : List Cl) (hn : n ≤ 1048576) (w : World) (hc : Cls w s n zs) : Calls Try.prog 20 #[.slice s n cap] w (RetI w (timR zs) (sysB zs)) := by
  cases hs : sysB zs
  · rw [timR_f hs]
    go_enter Try.func20, Try.ntmps20
    go_wp2_with (go_at_call 18; refine (c_implSystemPeriod_f _ _ _ zs hn hs _ hc).mono ?_; rintro e w' ⟨rfl, hb⟩)
    go_ret2
    exact ⟨_, rfl, OwnI.nil _ _ _, hb⟩
  · rw [timR_t hs]
    exact c_implTimes1 s n cap zs hn hs w hc
end Go.Proofs.Ytgdpebnnmklbjaa
