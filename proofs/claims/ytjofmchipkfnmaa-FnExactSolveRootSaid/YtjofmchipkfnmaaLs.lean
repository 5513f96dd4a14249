/- SolveRoot: behind the join, its loop that receives (own text). -/
import Derived.Test.YtjofmchipkfnmaaLr
import Derived.Test.YtjofmchipkfnmaaKta
namespace Go.Proofs.Ytjofmchipkfnmaa
open Go Go.Conc Go.ConcN Go.RowKit Go.Conc.Lib Go.ConcR.Gen Go.ConcN.Gen
open Go.ConcR (KK wgBlock WgAt stA smA rd wr mk Payload DC0)

noncomputable def loopR : Code := cR (cR blkR)
noncomputable def b1R : Code := cR (cL (cR (cR loopR)))
noncomputable def r11R : Code := cR (cR (cR loopR))
noncomputable def ops8R : Array Oper := opsOf (cL (cR b1R))
noncomputable def k9R : Code := cR (cR b1R)
/-- What a channel holds behind its goroutine. -/
def resO (a m : Int) : Obj := if ordX a m ≠ 0 then .chan 1 #[.int .i64 (ordX a m)] true 1 0 false else .chan 1 #[] true 0 0 false

/-- What stands behind the join, the channels before j emptied. -/
structure KnR (n N : Nat) (m : Int) (W : World) (j : Nat) (w : World) : Prop where
  size : w.heap.size = N + 3 + 4 * n
  old : ∀ b, b < N → w.heap[b]? = W.heap[b]?
  arr : w.heap[N + 1]? = some (.cells (chs N n).toArray 29)
  ch : ∀ i, j ≤ i → i < n → w.heap[N + 4 + 4 * i]? = some (resO ((i : Int) + 1) m)
  tape : w.tape = W.tape
  os : w.os = W.os
  output : w.output = W.output
theorem KnR.rely {n N j : Nat} {m : Int} {W w w₁ : World} (h : KnR n N m W j w) (r : AtRel w w₁) : KnR n N m W j w₁ := by
  obtain ⟨d, rfl⟩ := r
  exact ⟨h.size, h.old, h.arr, h.ch, h.tape, h.os, h.output⟩
theorem KnR.chan {n N j : Nat} {m : Int} {W w : World} (h : KnR n N m W j w) {cap s r : Nat} {buf : Array Value} {cl tm : Bool} (d : Nat) : KnR n N m W (j + 1) ((w.setChan (N + 4 + 4 * j) cap buf cl s r tm).at d) := by
  have k : ∀ b, b ≠ N + 4 + 4 * j → ((w.setChan (N + 4 + 4 * j) cap buf cl s r tm).at d).heap[b]? = w.heap[b]? := fun b hb => setChan_ne (w := w) (by omega)
  refine ⟨?_, fun b hb => (k b (by omega)).trans (h.old b hb), (k _ (by omega)).trans h.arr, fun i h1 h2 => (k _ (by omega)).trans (h.ch i (by omega) h2), h.tape, h.os, h.output⟩
  have := h.size
  simpa [World.setChan, World.at] using this
theorem KnR.next {n N j : Nat} {m : Int} {W w : World} (h : KnR n N m W j w) (d : Nat) : KnR n N m W (j + 1) (w.at d) :=
  ⟨h.size, h.old, h.arr, fun i h1 h2 => h.ch i (by omega) h2, h.tape, h.os, h.output⟩

/-- SolveRoot's frame at the head of its loop. -/
noncomputable def headR (cs : List Frame) (m : Int) (C : Nat) (v : Value) (n N i : Nat) (X Y : Code) (v7 v8 v9 v10 v28 v29 v30 v31 v32 v33 v34 v35 v36 v37 v38 v39 v40 v41 v42 v43 v44 v45 v46 v47 : Value) : Goroutine :=
  G ((base 8).at ⟨tmR m C v v7 v8 v9 v10 (.slice (some ⟨N + 1, 0, none⟩) n n) (.int .i64 n) (.int .i64 i) v28 v29 v30 v31 v32 v33 v34 v35 v36 v37 v38 v39 v40 v41 v42 v43 v44 v45 v46 v47, []⟩ [.code X, .inLoop X, .inBlock 0, .code Y]) cs
/-- SolveRoot's frame at its receive. -/
noncomputable def atR (cs : List Frame) (m : Int) (C : Nat) (v : Value) (n N i : Nat) (v9 v10 v32 v34 v35 v36 v37 v38 v39 v40 v41 v42 v43 v44 v45 v46 v47 : Value) : Goroutine :=
  G ((base 8).at ⟨tmR m C v (.int .i64 i) (.chan (some (N + 4 + 4 * i))) v9 v10 (.slice (some ⟨N + 1, 0, none⟩) n n) (.int .i64 n) (.int .i64 i) (.bool true) (.int .i64 i) (.pointer (some ⟨N + 1, i, none⟩)) (.chan (some (N + 4 + 4 * i))) v32 (.chan (some (N + 4 + 4 * i))) v34 v35 v36 v37 v38 v39 v40 v41 v42 v43 v44 v45 v46 v47, []⟩
    [.inRegion ops8R [1, 2, 3, 4, 5, 6], .code k9R, .inBlock 1, .code r11R, .inLoop loopR, .inBlock 0, .code restR]) cs
/-- .. and behind it. -/
noncomputable def gotR (cs : List Frame) (m : Int) (C : Nat) (v : Value) (n N i : Nat) (v9 v10 v32 v34 v35 v36 v37 v38 v39 v40 v41 v42 v43 v44 v45 v46 v47 : Value) : Goroutine :=
  G ((base 8).at ⟨tmR m C v (.int .i64 i) (.chan (some (N + 4 + 4 * i))) v9 v10 (.slice (some ⟨N + 1, 0, none⟩) n n) (.int .i64 n) (.int .i64 i) (.bool true) (.int .i64 i) (.pointer (some ⟨N + 1, i, none⟩)) (.chan (some (N + 4 + 4 * i))) v32 (.chan (some (N + 4 + 4 * i))) v34 v35 v36 v37 v38 v39 v40 v41 v42 v43 v44 v45 v46 v47, []⟩
    [.inRegion ops8R [2, 3, 4, 5, 6], .code k9R, .inBlock 1, .code r11R, .inLoop loopR, .inBlock 0, .code restR]) cs

theorem atR_comm (cs : List Frame) (m : Int) (C : Nat) (v : Value) (n N i : Nat) (v9 v10 v32 v34 v35 v36 v37 v38 v39 v40 v41 v42 v43 v44 v45 v46 v47 : Value) (w : World) :
    stepG Try.prog true (atR cs m C v n N i v9 v10 v32 v34 v35 v36 v37 v38 v39 v40 v41 v42 v43 v44 v45 v46 v47) w = .comm (atR cs m C v n N i v9 v10 v32 v34 v35 v36 v37 v38 v39 v40 v41 v42 v43 v44 v45 v46 v47) #[rcase (N + 4 + 4 * i) (.int .i64 0)] true (.recv true) w #[] := by
  simp only [atR, tmR, ops8R, b1R, loopR, blkR, mainR, bodyR, opsOf, cR, cL, Try.f8, Option.getD_some]
  rw [stepG_comm (cases := #[rcase (N + 4 + 4 * i) (.int .i64 0)]) (blocking := true) (shape := .recv true) (w' := w) rfl (by rfl) (by k_ne) (by simp [go_sem, rcase]), listed_none (by simp [go_sem])]
theorem served_atR (cs : List Frame) (m : Int) (C : Nat) (v : Value) (n N i : Nat) (v9 v10 v32 v34 v35 v36 v37 v38 v39 v40 v41 v42 v43 v44 v45 v46 v47 u : Value) :
    Go.Conc.served (atR cs m C v n N i v9 v10 v32 v34 v35 v36 v37 v38 v39 v40 v41 v42 v43 v44 v45 v46 v47) u = gotR cs m C v n N i v9 v10 v32 u v35 v36 v37 v38 v39 v40 v41 v42 v43 v44 v45 v46 v47 := by
  unfold atR gotR Go.Conc.served
  simp only [G]
  rw [Frame.finish_at]
  rfl

section
variable {Sh : Loc → Prop} {B : Nat} {cs : List Frame}
set_option maxRecDepth 100000 in
set_option maxHeartbeats 8000000 in
/-- From Wait's return to the head of the loop. -/
theorem backRoot (m : Int) (C : Nat) (v : Value) (n N : Nat) (hn : n - 1 + 1 = n) (W : World) (xs : Nat → Int) (lb : Addr) (cap : Nat) (w : World) (hF : KnR n N m W 0 w) :
    Goes Try.prog true AtRel (DE (EvL Sh B)) (fun g w' => g = headR cs m C v n N 0 loopR restR undef undef undef undef undef undef undef undef undef undef undef undef undef undef undef undef undef undef undef undef undef undef undef undef ∧ KnR n N m W 0 w') 60 (backO n N m xs (cFR m C v :: cs) lb cap) w := by
  have hn' : (((n - 1 : Nat) : Int) + 1) = (n : Int) := by omega
  simp only [backO, waitA, waitOps, waitK, opsOf, restO, bodyO, cR, cL, cFR, tmR, opsR, blkR, restR, mainR, bodyR, headR, loopR, hn, Try.f12, Try.f8, Option.getD_some]
  clear hn
  walk_nrm
  u_c stepG_region_end KnR.rely hF
  u_c stepG_seq KnR.rely hF
  u_reg KnR.rely hF
  u_op KnR.rely hF
  u_op KnR.rely hF
  u_c stepG_region_end KnR.rely hF
  u_c stepG_ret' KnR.rely hF
  u_leave1 Try.func12 KnR.rely hF
  u_op KnR.rely hF
  u_op KnR.rely hF
  u_c stepG_region_end KnR.rely hF
  u_c stepG_block KnR.rely hF
  u_c stepG_loop KnR.rely hF
  refine Goes.stop (fun w₉ r₉ => ?_)
  exact ⟨rfl, hF.rely r₉⟩

set_option maxRecDepth 100000 in
set_option maxHeartbeats 8000000 in
/-- From the head of the loop to the receive. -/
theorem toRecv {m : Int} {C : Nat} {v : Value} {n N i : Nat} {W : World} (hi : i < n) (hSh : ¬ Sh (.cell ⟨N + 1, i, none⟩)) (hB : N + 1 < B) (v7 v8 v9 v10 v28 v29 v30 v31 v32 v33 v34 v35 v36 v37 v38 v39 v40 v41 v42 v43 v44 v45 v46 v47 : Value) (w : World) (hF : KnR n N m W i w) :
    Goes Try.prog true AtRel (DE (EvL Sh B)) (fun g w' => g = atR cs m C v n N i v9 v10 v32 v34 v35 v36 v37 v38 v39 v40 v41 v42 v43 v44 v45 v46 v47 ∧ KnR n N m W i w') 60 (headR cs m C v n N i loopR restR v7 v8 v9 v10 v28 v29 v30 v31 v32 v33 v34 v35 v36 v37 v38 v39 v40 v41 v42 v43 v44 v45 v46 v47) w := by
  have hlt : decide ((i : Int) < (n : Int)) = true := by simp; omega
  have hcell : ∀ w, KnR n N m W i w → w.cell? ⟨N + 1, i, none⟩ = some (.chan (some (N + 4 + 4 * i))) := fun w h => by
    simp [World.cell?, h.arr, chs, hi]
  have ev : EvL Sh B ⟨.cell ⟨N + 1, i, none⟩, false, false⟩ := evL_cell _ _ hSh hB
  simp only [headR, atR, tmR, loopR, restR, r11R, ops8R, k9R, b1R, blkR, mainR, bodyR, opsOf, cR, cL, Try.f8, Option.getD_some]
  u_c stepG_seq KnR.rely hF
  u_reg KnR.rely hF
  u_op KnR.rely hF
  u_c stepG_region_end KnR.rely hF
  u_c stepG_seq KnR.rely hF
  u_cond true KnR.rely hF
  u_c stepG_skip KnR.rely hF
  u_c stepG_seq KnR.rely hF
  u_c stepG_block KnR.rely hF
  u_c stepG_seq KnR.rely hF
  u_reg KnR.rely hF
  u_op KnR.rely hF
  u_op KnR.rely hF
  u_in KnR.rely hF
  have hc := hcell _ hF
  refine goes_oper_k rfl rfl (by k_ne) (fun K hK => ?_)
  go_simp
  refine hK _ _ ⟨fun e he => ?_, ?_⟩
  · have hm := mem_listed he
    simp [go_sem, *] at hm
    subst hm
    exact ev
  clear hK K hc
  u_op KnR.rely hF
  u_op KnR.rely hF
  u_c stepG_region_end KnR.rely hF
  u_c stepG_seq KnR.rely hF
  u_reg KnR.rely hF
  u_op KnR.rely hF
  refine Goes.stop (fun w₉ r₉ => ?_)
  exact ⟨rfl, hF.rely r₉⟩

set_option maxRecDepth 100000 in
set_option maxHeartbeats 8000000 in
/-- What was received is not it: on to the next. -/
theorem passOn {m : Int} {C : Nat} {v : Value} {n N i j : Nat} {W : World} (hi : i < n) (hn : n < 1000000) (k : Int) (ok : Bool) (hk : ok = true → k ≠ unQ m) (v9 v10 v32 v35 v36 v37 v38 v39 v40 v41 v42 v43 v44 v45 v46 v47 : Value) (w : World) (hF : KnR n N m W j w) :
    Goes Try.prog true AtRel (DE (EvL Sh B)) (fun g w' => (∃ u7 u8 u9 u10 u28 u29 u30 u31 u32 u33 u34 u35 u36 u37 u38 u39 u40 u41 u42 u43 u44 u45 u46 u47, g = headR cs m C v n N (i + 1) loopR restR u7 u8 u9 u10 u28 u29 u30 u31 u32 u33 u34 u35 u36 u37 u38 u39 u40 u41 u42 u43 u44 u45 u46 u47) ∧ KnR n N m W j w') 60 (gotR cs m C v n N i v9 v10 v32 (.tuple #[.int .i64 k, .bool ok]) v35 v36 v37 v38 v39 v40 v41 v42 v43 v44 v45 v46 v47) w := by
  have hwr : IntKind.i64.wrap ((i : Int) + 1) = ((i + 1 : Nat) : Int) := by rw [IntKind.wrap_i64]; omega
  simp only [headR, gotR, tmR, loopR, restR, r11R, ops8R, k9R, b1R, blkR, mainR, bodyR, opsOf, cR, cL, Try.f8, Option.getD_some]
  u_op KnR.rely hF
  u_op KnR.rely hF
  u_op KnR.rely hF
  u_op KnR.rely hF
  u_op KnR.rely hF
  u_c stepG_region_end KnR.rely hF
  u_c stepG_seq KnR.rely hF
  u_reg KnR.rely hF
  u_op KnR.rely hF
  cases ok with
  | false =>
    u_op KnR.rely hF
    u_skip KnR.rely hF
    u_skip KnR.rely hF
    u_skip KnR.rely hF
    u_op KnR.rely hF
    u_c stepG_region_end KnR.rely hF
    u_cond false KnR.rely hF
    u_c stepG_skip KnR.rely hF
    u_c stepG_inBlock KnR.rely hF
    u_reg KnR.rely hF
    u_op KnR.rely hF
    u_op KnR.rely hF
    u_c stepG_region_end KnR.rely hF
    u_c stepG_inLoop KnR.rely hF
    refine Goes.stop (fun w₉ r₉ => ?_)
    exact ⟨⟨_, _, _, _, _, _, _, _, _, _, _, _, _, _, _, _, _, _, _, _, _, _, _, _, rfl⟩, hF.rely r₉⟩
  | true =>
    have hne : (k == unQ m) = false := by simpa using hk rfl
    u_op KnR.rely hF
    u_op KnR.rely hF
    u_op KnR.rely hF
    u_op KnR.rely hF
    u_op KnR.rely hF
    u_c stepG_region_end KnR.rely hF
    u_cond false KnR.rely hF
    u_c stepG_skip KnR.rely hF
    u_c stepG_inBlock KnR.rely hF
    u_reg KnR.rely hF
    u_op KnR.rely hF
    u_op KnR.rely hF
    u_c stepG_region_end KnR.rely hF
    u_c stepG_inLoop KnR.rely hF
    refine Goes.stop (fun w₉ r₉ => ?_)
    exact ⟨⟨_, _, _, _, _, _, _, _, _, _, _, _, _, _, _, _, _, _, _, _, _, _, _, _, rfl⟩, hF.rely r₉⟩
end

/-- The caller's frame behind its call. -/
noncomputable def retG (b₀ : Frame) (a₀ : Act) (ops₀ : Array Oper) (i₀ : Nat) (rest₀ : List Nat) (k₀ : List Item) (cs : List Frame) (v : Value) : Goroutine :=
  G (b₀.at (a₀.put ((ops₀[i₀]?).bind (·.dst)) v) (.inRegion ops₀ rest₀ :: k₀)) cs
section
variable {Sh : Loc → Prop} {B : Nat} {b₀ : Frame} {a₀ : Act} {ops₀ : Array Oper} {i₀ : Nat} {rest₀ : List Nat} {k₀ : List Item} {cs : List Frame}
set_option maxRecDepth 100000 in
set_option maxHeartbeats 8000000 in
/-- It is it. -/
theorem foundR {m : Int} {C v0 cap : Nat} {n N i j : Nat} {W : World} (hi : i < n) (hlist : W.cell? ⟨v0, i, none⟩ = some (.int .i64 ((i : Int) + 1))) (hv0 : v0 < N) (hSh : ¬ Sh (.cell ⟨v0, i, none⟩)) (hB : v0 < B) (v9 v10 v32 v35 v36 v37 v38 v39 v40 v41 v42 v43 v44 v45 v46 v47 : Value) (w : World) (hF : KnR n N m W j w) :
    Goes Try.prog true AtRel (DE (EvL Sh B)) (fun g w' => g = retG b₀ a₀ ops₀ i₀ rest₀ k₀ cs (.tuple #[.int .i64 ((i : Int) + 1), .bool true]) ∧ KnR n N m W j w') 60
      (gotR (b₀.at a₀ (.inRegion ops₀ (i₀ :: rest₀) :: k₀) :: cs) m C (.slice (some ⟨v0, 0, none⟩) n cap) n N i v9 v10 v32 (.tuple #[.int .i64 (unQ m), .bool true]) v35 v36 v37 v38 v39 v40 v41 v42 v43 v44 v45 v46 v47) w := by
  have hcell : ∀ w, KnR n N m W j w → w.cell? ⟨v0, i, none⟩ = some (.int .i64 ((i : Int) + 1)) := fun w h => (World.cell?_of_block (h.old v0 hv0)).trans hlist
  have ev : EvL Sh B ⟨.cell ⟨v0, i, none⟩, false, false⟩ := evL_cell _ _ hSh hB
  simp only [gotR, tmR, loopR, restR, r11R, ops8R, k9R, b1R, blkR, mainR, bodyR, opsOf, cR, cL, Try.f8, Option.getD_some]
  clear hlist
  u_op KnR.rely hF
  u_op KnR.rely hF
  u_op KnR.rely hF
  u_op KnR.rely hF
  u_op KnR.rely hF
  u_c stepG_region_end KnR.rely hF
  u_c stepG_seq KnR.rely hF
  u_reg KnR.rely hF
  u_op KnR.rely hF
  u_op KnR.rely hF
  u_op KnR.rely hF
  u_op KnR.rely hF
  u_op KnR.rely hF
  u_op KnR.rely hF
  u_c stepG_region_end KnR.rely hF
  u_cond true KnR.rely hF
  u_c stepG_seq KnR.rely hF
  u_reg KnR.rely hF
  u_op KnR.rely hF
  u_op KnR.rely hF
  u_op KnR.rely hF
  u_in KnR.rely hF
  have hc := hcell _ hF
  refine goes_oper_k rfl rfl (by k_ne) (fun K hK => ?_)
  go_simp
  refine hK _ _ ⟨fun e he => ?_, ?_⟩
  · have hm := mem_listed he
    simp [go_sem, *] at hm
    subst hm
    exact ev
  clear hK K hc
  u_op KnR.rely hF
  u_op KnR.rely hF
  u_c stepG_region_end KnR.rely hF
  u_c stepG_ret' KnR.rely hF
  u_in KnR.rely hF
  refine goes_leave2 rfl rfl Try.func8 rfl ⟨by u_nil, ?_⟩
  simp only [List.getElem?_toArray, Array.getD_eq_getD_getElem?, List.getElem?_cons_succ, List.getElem?_cons_zero, Option.getD_some]
  refine Goes.stop (fun w₉ r₉ => ?_)
  exact ⟨rfl, hF.rely r₉⟩

set_option maxRecDepth 100000 in
set_option maxHeartbeats 8000000 in
/-- None is it. -/
theorem noneR {m : Int} {C : Nat} {v : Value} {n N j : Nat} {W : World} (v7 v8 v9 v10 v28 v29 v30 v31 v32 v33 v34 v35 v36 v37 v38 v39 v40 v41 v42 v43 v44 v45 v46 v47 : Value) (w : World) (hF : KnR n N m W j w) :
    Goes Try.prog true AtRel (DE (EvL Sh B)) (fun g w' => g = retG b₀ a₀ ops₀ i₀ rest₀ k₀ cs (.tuple #[.int .i64 0, .bool false]) ∧ KnR n N m W j w') 60
      (headR (b₀.at a₀ (.inRegion ops₀ (i₀ :: rest₀) :: k₀) :: cs) m C v n N n loopR restR v7 v8 v9 v10 v28 v29 v30 v31 v32 v33 v34 v35 v36 v37 v38 v39 v40 v41 v42 v43 v44 v45 v46 v47) w := by
  simp only [headR, tmR, loopR, restR, blkR, mainR, bodyR, cR, cL, Try.f8, Option.getD_some]
  u_c stepG_seq KnR.rely hF
  u_reg KnR.rely hF
  u_op KnR.rely hF
  u_c stepG_region_end KnR.rely hF
  u_c stepG_seq KnR.rely hF
  u_cnd false KnR.rely hF
  u_exit KnR.rely hF
  u_c stepG_seq KnR.rely hF
  u_reg KnR.rely hF
  u_op KnR.rely hF
  u_op KnR.rely hF
  u_c stepG_region_end KnR.rely hF
  u_c stepG_ret' KnR.rely hF
  u_in KnR.rely hF
  refine goes_leave2 rfl rfl Try.func8 rfl ⟨by u_nil, ?_⟩
  simp only [List.getElem?_toArray, Array.getD_eq_getD_getElem?, List.getElem?_cons_succ, List.getElem?_cons_zero, Option.getD_some]
  refine Goes.stop (fun w₉ r₉ => ?_)
  exact ⟨rfl, hF.rely r₉⟩
end
end Go.Proofs.Ytjofmchipkfnmaa
