/- Chapter 5, the program: RestDigits. -/
import Derived.Test.YtnbejgbkabaleaaBb
namespace Go.Proofs.Ytnbejgbkabaleaa
open Go.RowKit
def digZ (zs ys : List Int) (i : Nat) : Int := digK (mo zs 0) (mo zs 1) (mo zs 2) (mo zs 3) (zA ys 0) (zA ys 1) (zA ys 2) (zA ys 3) i
def digL (zs ys : List Int) : List Int := four (digZ zs ys) zs.length
def digR (zs ys : List Int) : List Int := bif okZ zs ys then digL zs ys else []
theorem four_set {f : Nat → Int} {n k : Nat} (hn : n ≤ 4) (hk : k < n) : (four f k ++ List.replicate (n - k) 0).set k (f k) = four f (k + 1) ++ List.replicate (n - (k + 1)) 0 := by
  rw [four_succ (by omega), List.set_append_right _ _ (by rw [four_len (by omega)]; exact Nat.le_refl _), four_len (by omega), Nat.sub_self, show n - k = (n - (k + 1)) + 1 by omega, List.replicate_succ]
  simp
theorem at4_get (a b c d : Int) (x : Value) (k : Nat) (hk : k < 4) : [Value.int .i64 a, .int .i64 b, .int .i64 c, .int .i64 d, x][k]? = some (.int .i64 (at4 a b c d k)) := by
  rcases (show k = 0 ∨ k = 1 ∨ k = 2 ∨ k = 3 by omega) with rfl | rfl | rfl | rfl <;> rfl
theorem madeInts (n : Nat) : (madeCells #[Value.int .i64 0] (n * 1)).toList = (List.replicate n (0 : Int)).map (Value.int .i64) := by
  rw [Nat.mul_one, List.map_replicate]
  apply List.ext_getElem?
  intro j
  by_cases hj : j < n
  · simp [madeCells, hj, Nat.mod_one]
  · simp [madeCells, hj]
set_option maxRecDepth 20000 in
set_option maxHeartbeats 4000000 in
theorem c_implRestDigits (s u : Option Addr) (n cap m cap2 : Nat) (zs ys : List Int) (hn : n ≤ 1048576) (hm : m ≤ 1048576) (w : World) (hz : Ints w s n zs) (hy : Ints w u m ys) :
    Calls Try.prog 34 #[.slice s n cap, .slice u m cap2] w (RetJ w (digR zs ys) (okZ zs ys)) := by
  have hcon := c_restsTold s u n cap m cap2 zs ys hn hm w hz hy
  obtain ⟨i0, hi, hz0, hz1, hz2⟩ := info_parts infoJ
  cases hb : okZ zs ys
  · have hr : digR zs ys = [] := by rw [digR, hb]; rfl
    rw [hb] at hcon
    rw [hr]
    simp only [basW, resV, selI_f] at hcon
    clear hb hr
    go_enter Try.func34, Try.ntmps34
    go_wp2_with (first | (go_at_call 55; refine hcon.mono ?_; rintro e w2 ⟨rfl, hb2⟩) | fail)
    go_ret2
    exact ⟨_, rfl, World.ownsRow_nil _ _ _ _, ba (ba hb2 _) _⟩
  · obtain ⟨hl1, hl4⟩ := bas_len (okZ_bas hb)
    have hS := okZ_sys hb
    have hr : digR zs ys = four (digZ zs ys) zs.length := by rw [digR, hb]; rfl
    rw [hb, okZ_bas hb] at hcon
    simp only [basW, resV, selI_t] at hcon
    have hnu := fun w => c_numberOf _ _ _ _ _ _ _ _ zs.length (okZ_sys hb) w
    rw [hr]
    have HQ := Lib.hid (fun k hk => hS.quo k hk)
    have HP := Lib.hid (fun k hk => pK_bd hS.ha hS.hb hS.hc hS.hd k hk)
    have HA := Lib.hid (fun k => at4_mb hS.ha hS.hb hS.hc hS.hd k)
    have HN := Lib.hid (hS.num 4 (by omega))
    have HP4 := Lib.hid (pK_bd hS.ha hS.hb hS.hc hS.hd 4 (by omega))
    have HF := Lib.hid (fun k (hk : k < zs.length) => four_set (f := digZ zs ys) hl4 hk)
    have HD := Lib.hid (fun k => show digK (mo zs 0) (mo zs 1) (mo zs 2) (mo zs 3) (zA ys 0) (zA ys 1) (zA ys 2) (zA ys 3) k = digZ zs ys k from rfl)
    have HL := Lib.hid (fun k (hk : k ≤ zs.length) => show (four (digZ zs ys) k ++ List.replicate (zs.length - k) 0).length = zs.length by rw [List.length_append, four_len (by omega), List.length_replicate]; omega)
    clear hb hr hz hy hS
    generalize digZ zs ys = f at *
    generalize zs.length = N at *
    generalize mo zs 0 = a at *
    generalize mo zs 1 = b at *
    generalize mo zs 2 = c at *
    generalize mo zs 3 = d at *
    generalize zA ys 0 = p at *
    generalize zA ys 1 = q at *
    generalize zA ys 2 = r at *
    generalize zA ys 3 = t at *
    generalize hX : numK a b c d p q r t 4 = X at *
    clear hX
    go_enter Try.func34, Try.ntmps34
    go_wp2_with (first
      | (go_at_call 55; refine hcon.mono ?_; rintro e w2 ⟨rfl, hb2⟩; have hB := ba (ba hb2 (.cells #[.int .i64 a, .int .i64 b, .int .i64 c, .int .i64 d, .int .i64 N] 50)) (.cells #[.int .i64 p, .int .i64 q, .int .i64 r, .int .i64 t] 56); have hM := (Arr.newAt w2 #[.int .i64 a, .int .i64 b, .int .i64 c, .int .i64 d, .int .i64 N] 50 _ rfl).alloc (.cells #[.int .i64 p, .int .i64 q, .int .i64 r, .int .i64 t] 56))
      | (go_at_call 56; refine (hnu _).mono ?_; rintro e w3 ⟨rfl, hb3⟩; have hM := hM.keep hb3; have hB := bt2 hB hb3; have m4 := (Arr.get5 hM).2.2.2.2)
      | (at_make; refine wpList_make_full _ rfl _ _ 23 rfl w.heap.size 3 i0 (.int .i64 0) 1 Try.underlying23 hi hz0 hz1 .i64 .i64 _ _ N rfl rfl rfl rfl (by rw [hz2]; omega) (by unfold maxLen; omega) hB.size ?_; intro w4 hown hgrow)
      | fail)
    have hM := hM.grown hgrow
    have hB4 := hB.grown hgrow hB.size (fun k h => by cases h)
    have hO : OwnI w4 w.heap.size 3 (.slice (some ⟨w3.heap.size, 0, none⟩) N N) (four f 0 ++ List.replicate (N - 0) 0) := by
      have := hown
      show w4.ownsRow _ _ _ _ _ _
      rw [show (four f 0 ++ List.replicate (N - 0) 0) = List.replicate N 0 from rfl, List.length_replicate, ← madeInts]
      exact this
    clear hown hgrow hcon hnu hb2
    have e1 : w3.heap.size ≠ w2.heap.size := by have := hb3.size; simp at this; omega
    have hwl : w.heap.size ≤ w3.heap.size := hB.size
    generalize w2.heap.size = B at *
    generalize w3.heap.size = G at *
    clear hb3 hB
    go_loopw [9, 29] (fun x i wr => ∃ (k : Nat), k ≤ N ∧ i = .int .i64 k ∧ x = .int .i64 (X / pK a b c d k) ∧ OwnI wr w.heap.size 3 (.slice (some ⟨G, 0, none⟩) N N) (four f k ++ List.replicate (N - k) 0) ∧ Arr wr B [.int .i64 a, .int .i64 b, .int .i64 c, .int .i64 d, .int .i64 N] ∧ Below w.heap.size w wr) (fun _ i _ => N - (intOf i).toNat)
    case atStart => exact ⟨0, by omega, rfl, by simp [pK], hO, hM, hB4⟩
    case round =>
      clear hO hM hB4
      obtain ⟨k, hk, rfl, rfl, hO, hM, hBr⟩ := hrel
      by_cases hlt : k < N
      · have hx0 := hM.c k (by simp; omega)
        rw [at4_get a b c d _ k (by omega)] at hx0
        obtain ⟨m1, m2⟩ := HA.out k
        have hk4 : (k : Int) < 4 := by omega
        have HQ1 := Lib.hid (HQ.out k (by omega)).1
        have HQ2 := Lib.hid (HQ.out k (by omega)).2
        have hq := quo_bd (show 0 ≤ X from HN.out.1) (HP.out k (by omega)).1
        have hX8 : X / pK a b c d k ≤ 810000 := by have := HN.out.2; have := HP4.out.2; omega
        have hX0 := hq.1
        have HS := Lib.hid (hO.store (HL.out k hk) k (f k))
        have ho0 := hO.cell (HL.out k hk) k hlt
        have fo := hO.free (HL.out k hk)
        have HF := Lib.hid (HF.out k hlt)
        have HD := Lib.hid (HD.out k)
        have hY := quo_bd hX0 m1
        clear hq
        generalize at4 a b c d k = M at *
        generalize hY2 : X / pK a b c d k = Y at *
        clear hY2
        go_wp2_with (go_at_call 61; refine (c_restOf _ _ m1 (by omega) _).mono ?_; rintro e w1 ⟨rfl, rfl⟩)
        go_roundw
        case rel =>
          refine ⟨k + 1, by omega, by go_num, by rw [HQ2.out], ?_, hM.miss e1 _ _, hBr.setCell hwl _⟩
          rw [HQ1.out, HD.out, ← HF.out]
          exact HS.out
        case measure => simp [intOf]; omega
      · have hk' : k = N := by omega
        subst hk'
        rw [Nat.sub_self, List.replicate_zero, List.append_nil] at hO
        go_wp2_with fail
        go_ret2
        exact ⟨_, rfl, hO, hBr⟩
end Go.Proofs.Ytnbejgbkabaleaa
