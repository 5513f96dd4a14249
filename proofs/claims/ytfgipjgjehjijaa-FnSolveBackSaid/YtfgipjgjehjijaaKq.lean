/- ordersOf: the loop's induction, its end, the join (own text). -/
import Derived.Test.YtfgipjgjehjijaaKp
import Derived.Conc.CrowdMono
namespace Go.Proofs.Ytfgipjgjehjijaa
open Go Go.Conc Go.ConcN Go.RowKit Go.Conc.Lib Go.ConcR.Gen Go.ConcN.Gen
open Go.ConcR (KK wgBlock WgAt stA smA rd wr mk Payload DC0)

theorem goes_join {P : Program} {main : Bool} {R : World → World → Prop} {D : World → World → Array Event → Prop} {S : Goroutine → World → Prop} {m : Nat} (hr : ∀ w, R w w) :
    ∀ {n : Nat} {g : Goroutine} {w : World}, Goes P main R D (fun g w => Goes P main R D S m g w) n g w → Goes P main R D S (m + n) g w
  | 0, g, w, h => h w (hr w)
  | n + 1, g, w, h => by
    rcases h with h | ⟨hs, h⟩
    · exact goes_more _ (h w (hr w))
    · refine .inr ⟨hs, fun w₁ h₁ => ?_⟩
      obtain ⟨g', w', es, e, hx, hn⟩ := goes_elim (h w₁ h₁)
      rw [e]
      exact ⟨hx, goes_join hr hn⟩

theorem chs_succ (N i : Nat) : chs N (i + 1) = chs N i ++ [.chan (some (N + 4 + 4 * i))] := by simp [chs, List.range_succ]

def opsOf : Code → Array Oper
  | .region _ ops _ => ops
  | _ => #[]
/-- The frame of ordersOf as it waits. -/
noncomputable def waitA (lb : Addr) (n cap N : Nat) (m : Int) (xs : Nat → Int) (j : Nat) : Act :=
  ⟨#[.slice (some lb) n cap, .int .i64 m, undef, .pointer (some ⟨N, 0, none⟩), .slice none 0 0, .slice (some ⟨N + 1, 0, none⟩) (j + 1) n, .pointer (some ⟨N + 2, 0, none⟩), undef, (.pointer (some ⟨N + 3 + 4 * j, 0, none⟩)), (.pointer (some ⟨N + 3 + 4 * j + 1 + 1, 0, none⟩)), .slice (some lb) n cap, .int .i64 n, .slice (some ⟨N + 1, 0, none⟩) 0 n,
    .slice (some lb) n cap, .int .i64 n, .int .i64 ((j + 1 : Nat) : Int), .bool false, (.pointer (some (lb.add j))), (.int .i64 (xs j)), (.chan (some (N + 3 + 4 * j + 1))),
    (.slice (some ⟨N + 1, 0, none⟩) j n), (.chan (some (N + 3 + 4 * j + 1))), (.slice (some ⟨N + 3 + 4 * j + 1 + 1 + 1, 0, none⟩) 1 1), (.slice (some ⟨N + 1, 0, none⟩) (j + 1) n), (.tuple #[]),
    (.func (.func 41) #[] #[.pointer (some ⟨N + 2, 0, none⟩), .pointer (some ⟨N + 3 + 4 * j, 0, none⟩), .pointer (some ⟨N, 0, none⟩), .pointer (some ⟨N + 3 + 4 * j + 1 + 1, 0, none⟩)]), (.int .i64 ((j + 1 : Nat) : Int)), undef, undef], []⟩
noncomputable def waitK : List Item := [.code (cR restO)]
noncomputable def waitOps : Array Oper := opsOf (cL restO)

/-- What stays known through Wait. -/
def KnW (n N : Nat) (m : Int) (W : World) : World → Prop := LF N W n (N + 3 + 4 * n) [(N + 1, .cells (chs N n).toArray 36), (N, .cells #[.int .i64 m] 3)]

noncomputable def anchO (Sh : Loc → Prop) (B J0 n N : Nat) (m : Int) (xs : Nat → Int) (W : World) (cs : List Frame) (lb : Addr) (cap : Nat) : Goroutine → World → Prop :=
  Head (opl Sh B J0 n N m xs) Try.link (KnW n N m W) ((base 21).at (waitA lb n cap N m xs (n - 1)) (.inRegion waitOps [0] :: waitK)) cs
/-- Where ordersOf stands once Wait has handed back. -/
noncomputable def backO (n N : Nat) (m : Int) (xs : Nat → Int) (cs : List Frame) (lb : Addr) (cap : Nat) : Goroutine :=
  G ((base 21).at ((waitA lb n cap N m xs (n - 1)).put ((waitOps[0]?).bind (·.dst)) (.tuple #[])) (.inRegion waitOps [] :: waitK)) cs

section
variable {Sh : Loc → Prop} {B J0 n N : Nat} {m : Int} {xs : Nat → Int} {W w w₁ : World} {i sz : Nat} {L L' : List (Nat × Obj)}
set_option maxRecDepth 100000 in
set_option maxHeartbeats 8000000 in
theorem exitK {j : Nat} (hj : j + 1 = n) {lb : Addr} {cap : Nat} {cs : List Frame} (w : World) (hF : KnW n N m W w ∧ WgLive Try.link.tWg (N + 2) w) :
    Goes Try.prog true (RM (opl Sh B J0 n N m xs) n) (DM (opl Sh B J0 n N m xs) n) (MKd (opl Sh B J0 n N m xs) (Head (opl Sh B J0 n N m xs) Try.link (KnW n N m W) ((base 21).at (waitA lb n cap N m xs j) (.inRegion waitOps [0] :: waitK)) cs)) 40 (headS cs lb n cap N m xs j loopO restO) w := by
  have hd : decide (((j + 1 : Nat) : Int) < (n : Int)) = false := by simp; omega
  have hd2 : ¬ ((j : Int) + 1 < (n : Int)) := by omega
  clear hj
  simp only [headS, headO, waitA, waitOps, waitK, opsOf, loopO, restO, bodyO, cR, cL, Try.f21, Option.getD_some]
  ((refine Goes.step rfl (fun _ h₁ => ?_); replace hF := rl hF h₁; clear h₁); rw [stepG_seq]; simp only [goes_go]; refine ⟨by (refine dmx_none ?_; intro e he; simp at he), ?_⟩)
  ((refine Goes.step rfl (fun _ h₁ => ?_); replace hF := rl hF h₁; clear h₁); rw [stepG_region]; simp only [goes_go, List.size_toArray, List.length_cons, List.length_nil, Nat.reduceAdd, Nat.zero_add, List.range, List.range.loop]; refine ⟨by (refine dmx_none ?_; intro e he; simp at he), ?_⟩)
  ((refine Goes.step rfl (fun _ h₁ => ?_); replace hF := rl hF h₁; clear h₁)
   refine goes_oper_k rfl rfl (by k_ne) (fun K hK => ?_)
   go_simp
   refine hK _ _ ⟨?_, ?_⟩
   · refine dmx_none ?_
     intro e he
     have hm := mem_listed he
     simp [go_sem, *] at hm
   clear hK K
   try w_num)
  ((refine Goes.step rfl (fun _ h₁ => ?_); replace hF := rl hF h₁; clear h₁); rw [stepG_region_end]; simp only [goes_go]; refine ⟨by (refine dmx_none ?_; intro e he; simp at he), ?_⟩)
  ((refine Goes.step rfl (fun _ h₁ => ?_); replace hF := rl hF h₁; clear h₁); rw [stepG_seq]; simp only [goes_go]; refine ⟨by (refine dmx_none ?_; intro e he; simp at he), ?_⟩)
  ((refine Goes.step rfl (fun _ h₁ => ?_); replace hF := rl hF h₁; clear h₁); rw [stepG_cond (t := false) rfl]; simp only [goes_go, if_true, if_false, Bool.false_eq_true, ↓reduceIte]; refine ⟨by (refine dmx_none ?_; intro e he; simp at he), ?_⟩)
  ((refine Goes.step rfl (fun _ h₁ => ?_); replace hF := rl hF h₁; clear h₁); refine goes_exit rfl ?_; refine ⟨by (refine dmx_none ?_; intro e he; simp at he), ?_⟩)
  ((refine Goes.step rfl (fun _ h₁ => ?_); replace hF := rl hF h₁; clear h₁); rw [stepG_seq]; simp only [goes_go]; refine ⟨by (refine dmx_none ?_; intro e he; simp at he), ?_⟩)
  ((refine Goes.step rfl (fun _ h₁ => ?_); replace hF := rl hF h₁; clear h₁); rw [stepG_region]; simp only [goes_go, List.size_toArray, List.length_cons, List.length_nil, Nat.reduceAdd, Nat.zero_add, List.range, List.range.loop]; refine ⟨by (refine dmx_none ?_; intro e he; simp at he), ?_⟩)
  (refine Goes.step rfl (fun _ h₁ => ?_); replace hF := rl hF h₁; clear h₁)
  refine goes_call rfl rfl (by k_ne) rfl Try.wgLib.f_wait (nm_wait Try.link) rfl ⟨by (refine dmx_none ?_; intro e he; simp at he), ?_⟩
  walk_nrmf waitFn
  have hA := fun a₀ ops₀ i₀ rest₀ k₀ => waitStart (p := (opl Sh B J0 n N m xs)) (L := Try.link) (F := KnW n N m W) (b₀ := base 21) (cs := cs) (a₀ := a₀) (ops₀ := ops₀) (i₀ := i₀) (rest₀ := rest₀) (k₀ := k₀) Try.wgLib LF.rm
  simp only [body_wait, waitFn, Option.getD_some] at hA
  exact goes_more (m := 10) 20 (hA _ _ _ _ _ _ hF)

theorem starts_zero {p : Plan} {Anch : Goroutine → World → Prop} {k : Nat} {g : Goroutine} {w : World} (h : Goes p.P true (RM p p.n) (DM p p.n) (MKd p Anch) k g w) : Starts p (Into p Anch) 0 g w := ⟨k, h⟩
theorem starts_succ {p : Plan} {Anch : Goroutine → World → Prop} {i r k : Nat} {g : Goroutine} {w : World} (hi : i + (r + 1) = p.n) (h : Goes p.P true (RM p i) (DM p i) (MKdS p i (Starts p (Into p Anch) r)) k g w) : Starts p (Into p Anch) (r + 1) g w := by
  have e : p.n - (r + 1) = i := by omega
  refine ⟨k, ?_⟩
  rw [e]
  exact h

/-- The loop. -/
theorem loopK (Anch : Goroutine → World → Prop) (hSh : ∀ a : Addr, Sh (.cell a) → a.block < N) (hB : N + 7 + 4 * n ≤ B) (hm1 : 1 ≤ m) (hm2 : m ≤ 1000) {lb : Addr} {cap : Nat} {cs : List Frame} (hn : n < 1000000)
    (hl : ∀ k, k < n → W.cell? (lb.add k) = some (.int .i64 (xs k))) (hlN : lb.block < N) (hlS : ∀ k, k < n → ¬ Sh (.cell (lb.add k)))
    (hExit : ∀ (j : Nat) (w : World), j + 1 = n → KnW n N m W w ∧ WgLive Try.link.tWg (N + 2) w → Goes Try.prog true (RM (opl Sh B J0 n N m xs) n) (DM (opl Sh B J0 n N m xs) n) (MKd (opl Sh B J0 n N m xs) Anch) 40 (headS cs lb n cap N m xs j loopO restO) w) :
    ∀ (r i : Nat), i + (r + 1) = n → ∀ (cur : Array Value) (u8 u9 u16 u17 u18 u19 u20 u21 u22 u23 u24 u25 u26 : Value) (w : World), cur.size = n → cur.toList.take i = chs N i →
      LF N W i (N + 3 + 4 * i) [(N + 1, .cells cur 36), (N, .cells #[.int .i64 m] 3)] w ∧ WgLive Try.link.tWg (N + 2) w →
      Goes Try.prog true (RM (opl Sh B J0 n N m xs) i) (DM (opl Sh B J0 n N m xs) i) (MKdS (opl Sh B J0 n N m xs) i (Starts (opl Sh B J0 n N m xs) (Into (opl Sh B J0 n N m xs) Anch) r)) 140 (headO cs lb n cap N m i loopO loopO restO u8 u9 u16 u17 u18 u19 u20 u21 u22 u23 u24 u25 u26) w := by
  intro r
  induction r with
  | zero =>
    intro i hi cur u8 u9 u16 u17 u18 u19 u20 u21 u22 u23 u24 u25 u26 w hcur htk hF
    refine toAdd _ hSh hB hm1 hm2 loopO restO (by omega) hn hl hlN hlS cur hcur (fun cur' g w hc1 hc2 hg => ?_) _ _ _ _ _ _ _ _ _ _ _ _ _ w hF
    have hin : i + 1 = n := by omega
    have hcs : cur' = (chs N n).toArray := by
      have h1 : cur'.toList = chs N n := by rw [← hin, chs_succ, ← htk, ← hc2, List.take_of_length_le (by simp; omega)]
      rw [← h1]
    rw [hin] at hg
    refine starts_zero (k := 40 + 20) (goes_join (fun w => RM.refl w) (goes_mono (fun g' w' h => ?_) hg))
    obtain ⟨rfl, h⟩ := h
    exact hExit i w' hin (by rw [hcs] at h; exact h)
  | succ r ih =>
    intro i hi cur u8 u9 u16 u17 u18 u19 u20 u21 u22 u23 u24 u25 u26 w hcur htk hF
    refine toAdd _ hSh hB hm1 hm2 loopO restO (by omega) hn hl hlN hlS cur hcur (fun cur' g w hc1 hc2 hg => ?_) _ _ _ _ _ _ _ _ _ _ _ _ _ w hF
    refine starts_succ (i := i + 1) (k := 140 + 20) (by show i + 1 + (r + 1) = n; omega) (goes_join (fun w => RM.refl w) (goes_mono (fun g' w' h => ?_) hg))
    obtain ⟨rfl, h⟩ := h
    exact ih (i + 1) (by omega) cur' _ _ _ _ _ _ _ _ _ _ _ _ _ w' hc1 (by rw [hc2, htk, chs_succ]) h

/-- From the head of the loop, none started. -/
theorem startsO (hSh : ∀ a : Addr, Sh (.cell a) → a.block < N) (hB : N + 7 + 4 * n ≤ B) (hm1 : 1 ≤ m) (hm2 : m ≤ 1000) {lb : Addr} {cap : Nat} {cs : List Frame} (hn0 : 0 < n) (hn : n < 1000000)
    (hl : ∀ k, k < n → W.cell? (lb.add k) = some (.int .i64 (xs k))) (hlN : lb.block < N) (hlS : ∀ k, k < n → ¬ Sh (.cell (lb.add k))) (cur : Array Value) (hcur : cur.size = n)
    (u8 u9 u16 u17 u18 u19 u20 u21 u22 u23 u24 u25 u26 : Value) (w : World) (hF : LF N W 0 (N + 3) [(N + 1, .cells cur 36), (N, .cells #[.int .i64 m] 3)] w ∧ WgLive Try.link.tWg (N + 2) w) :
    Starts (opl Sh B J0 n N m xs) (Into (opl Sh B J0 n N m xs) (anchO Sh B J0 n N m xs W cs lb cap)) n (headO cs lb n cap N m 0 loopO loopO restO u8 u9 u16 u17 u18 u19 u20 u21 u22 u23 u24 u25 u26) w := by
  obtain ⟨r, rfl⟩ : ∃ r, n = r + 1 := ⟨n - 1, by omega⟩
  refine starts_succ (i := 0) (k := 140) (by show 0 + (r + 1) = r + 1; omega) ?_
  refine loopK _ hSh hB hm1 hm2 hn hl hlN hlS (fun j w hj h => ?_) r 0 (by omega) cur _ _ _ _ _ _ _ _ _ _ _ _ _ w hcur (by simp [chs]) hF
  have e : j = r := by omega
  subst e
  exact exitK rfl w h

theorem roundO (hSh : ∀ a : Addr, Sh (.cell a) → a.block < N) (hB : N + 7 + 4 * n ≤ B) (hn : n < 1000000) {lb : Addr} {cap : Nat} {cs : List Frame} (g : Goroutine) (w : World) (h : anchO Sh B J0 n N m xs W cs lb cap g w) :
    ∃ k, Goes Try.prog true (RM (opl Sh B J0 n N m xs) n) (DM (opl Sh B J0 n N m xs) n) (MW1 (opl Sh B J0 n N m xs) (Left Try.prog (KnW n N m W) (backO n N m xs cs lb cap)) (anchO Sh B J0 n N m xs W cs lb cap)) k g w :=
  waitRound (p := (opl Sh B J0 n N m xs)) (opl_ok hSh (by omega) (by omega)) Try.wgLib LF.rm g w h
end
end Go.Proofs.Ytfgipjgjehjijaa
