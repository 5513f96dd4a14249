/- ordersOf: its loop, which starts the goroutines (own text). -/
import Derived.Test.YtjofmchipkfnmaaKo
namespace Go.Proofs.Ytjofmchipkfnmaa
open Go Go.Conc Go.ConcN Go.RowKit Go.Conc.Lib Go.ConcR.Gen Go.ConcN.Gen
open Go.ConcR (KK wgBlock WgAt stA smA rd wr mk Payload DC0)

theorem dmx_none {p : Plan} {j : Nat} {w : World} {es : Array Event} (h : ∀ e ∈ es, False) : DM p j w w es := ⟨⟨rfl, fun _ _ _ _ _ => rfl⟩, fun e he => (h e he).elim⟩
/-- The channels of the first i goroutines. -/
def chs (N i : Nat) : List Value := (List.range i).map fun k => .chan (some (N + 4 + 4 * k))
def newRow (cur : Array Value) (i : Nat) (v : Value) : Array Value := (cur.toList.take i ++ [v] ++ cur.toList.drop (i + [v].length)).toArray
theorem newRow_def (cur : Array Value) (i : Nat) (v : Value) : newRow cur i v = (cur.toList.take i ++ [v] ++ cur.toList.drop (i + [v].length)).toArray := rfl
theorem newRow_size (cur : Array Value) (i : Nat) (v : Value) (h : i < cur.size) : (newRow cur i v).size = cur.size := by simp [newRow]; omega
theorem newRow_take (cur : Array Value) (i : Nat) (v : Value) (h : i < cur.size) : (newRow cur i v).toList.take (i + 1) = cur.toList.take i ++ [v] := by
  have : (cur.toList.take i ++ [v]).length = i + 1 := by simp; omega
  rw [newRow]
  show List.take (i + 1) (cur.toList.take i ++ [v] ++ cur.toList.drop (i + [v].length)) = _
  rw [List.take_append_of_le_length (by omega), List.take_of_length_le (by omega)]
theorem infoInt : (Try.prog.info? 3).map (fun i => (i.zero, i.size, i.bytes)) = some (some (.int .i64 0), 1, 8) := by kernel_rfl

section
variable {Sh : Loc → Prop} {B J0 n N : Nat} {m : Int} {xs : Nat → Int} {W w w₁ : World} {i sz : Nat} {L L' : List (Nat × Obj)}
/-- What the starter knows while i are started, but for the group. -/
structure LF (N : Nat) (W : World) (i sz : Nat) (L : List (Nat × Obj)) (w : World) : Prop where
  fa : Fa N W sz L w
  cold : ∀ q ∈ L, q.1 ≠ N + 2 ∧ (q.1 < N + 3 ∨ N + 3 + 4 * i ≤ q.1)
  room : N + 3 + 4 * i ≤ sz
theorem not_hot {b x : Nat} (hb : b < N + 3 ∨ N + 3 + 4 * i ≤ b) (h2 : x ≤ J0 + i) : ¬ ((opl Sh B J0 n N m xs)).Hot x b := fun h => by
  have h : J0 < x ∧ x ≤ J0 + n ∧ (b = N + 4 + 4 * (x - J0 - 1) ∨ b = N + 5 + 4 * (x - J0 - 1)) := h
  omega
theorem LF.rm (w w₁ : World) (r : RM (opl Sh B J0 n N m xs) i w w₁) (h : LF N W i sz L w) : LF N W i sz L w₁ := by
  have k : ∀ b, b ≠ N + 2 → (b < N + 3 ∨ N + 3 + 4 * i ≤ b) → w₁.heap[b]? = w.heap[b]? := fun b h1 h2 => r.block b h1 fun x _ hx => not_hot h2 hx
  exact ⟨⟨r.size.trans h.fa.size, fun b hb => (k b (by omega) (.inl (by omega))).trans (h.fa.old b hb), fun q hq => (k q.1 (h.cold q hq).1 (h.cold q hq).2).trans (h.fa.blk q hq), r.tape.trans h.fa.tape, r.os.trans h.fa.os, r.output.trans h.fa.output⟩, h.cold, h.room⟩
theorem LF.alloc (h : LF N W i sz L w) (o : Obj) : LF N W i (sz + 1) ((sz, o) :: L) (w.alloc o) := by
  have hr := h.room
  refine ⟨h.fa.alloc (by omega) o, fun q hq => ?_, by omega⟩
  rcases List.mem_cons.1 hq with rfl | hq
  · exact ⟨by show sz ≠ N + 2; omega, .inr hr⟩
  · exact h.cold q hq
theorem LF.set {b k : Nat} {c : Array Value} {ty : TypeId} {v : Value} (h : LF N W i sz ((b, .cells c ty) :: L) w) (hb : N ≤ b) (hL : ∀ q ∈ L, q.1 ≠ b) :
    LF N W i sz ((b, .cells (c.setIfInBounds k v) ty) :: L) (w.setCell ⟨b, k, none⟩ v) := by
  have hc := h.cold _ (List.mem_cons_self ..)
  refine ⟨h.fa.set hb hL, fun q hq => ?_, h.room⟩
  rcases List.mem_cons.1 hq with rfl | hq
  · exact hc
  · exact h.cold q (List.mem_cons_of_mem _ hq)
theorem LF.weak (h : LF N W i sz L w) (hL : ∀ q ∈ L', q ∈ L) : LF N W i sz L' w := ⟨h.fa.weak hL, fun q hq => h.cold q (hL q hq), h.room⟩

theorem LF.size (h : LF N W i sz L w) : w.heap.size = sz := h.fa.size
theorem lf_new (h : LF N W i sz L w ∧ WgLive Try.link.tWg (N + 2) w) (o : Obj) : LF N W i (sz + 1) ((sz, o) :: L) (w.alloc o) ∧ WgLive Try.link.tWg (N + 2) (w.alloc o) := by
  refine ⟨h.1.alloc o, WgLive.of_block h.2 ?_⟩
  have e0 : (w.alloc o).heap = w.heap.push o := rfl
  have := h.1.room
  have hs := h.1.fa.size
  rw [e0, Array.getElem?_push_lt (by omega), Array.getElem?_eq_getElem]
theorem lf_set {b k : Nat} {c : Array Value} {ty : TypeId} {v : Value} (h : LF N W i sz L w ∧ WgLive Try.link.tWg (N + 2) w) (hm : (b, Obj.cells c ty) ∈ L) (hb : N ≤ b) (h2 : b ≠ N + 2) (hL : ∀ q ∈ L', q ∈ L ∧ q.1 ≠ b) :
    LF N W i sz ((b, .cells (c.setIfInBounds k v) ty) :: L') (w.setCell ⟨b, k, none⟩ v) ∧ WgLive Try.link.tWg (N + 2) (w.setCell ⟨b, k, none⟩ v) := by
  refine ⟨LF.set (h.1.weak (L' := (b, .cells c ty) :: L') fun q hq => ?_) hb fun q hq => (hL q hq).2, WgLive.of_block h.2 ((aside_setCell w ⟨b, k, none⟩ v).block _ (fun e => h2 e.symm))⟩
  rcases List.mem_cons.1 hq with rfl | hq
  · exact hm
  · exact (hL q hq).1
theorem lf_set1 (b : Nat) (v : Value) (L' : List (Nat × Obj)) {u : Value} {ty : TypeId} (h : LF N W i sz L w ∧ WgLive Try.link.tWg (N + 2) w) (hm : (b, Obj.cells #[u] ty) ∈ L) (hb : N ≤ b) (h2 : b ≠ N + 2) (hL : ∀ q ∈ L', q ∈ L ∧ q.1 ≠ b) :
    LF N W i sz ((b, .cells #[v] ty) :: L') (w.setCell ⟨b, 0, none⟩ v) ∧ WgLive Try.link.tWg (N + 2) (w.setCell ⟨b, 0, none⟩ v) := by
  have := lf_set (k := 0) (v := v) (L' := L') h hm hb h2 hL
  simpa using this
theorem lf_row (b : Nat) (c' : Array Value) (L' : List (Nat × Obj)) {c : Array Value} {ty : TypeId} (h : LF N W i sz L w ∧ WgLive Try.link.tWg (N + 2) w) (hm : (b, Obj.cells c ty) ∈ L) (hb : N ≤ b) (h2 : b ≠ N + 2) (hL : ∀ q ∈ L', q ∈ L ∧ q.1 ≠ b) :
    LF N W i sz ((b, .cells c' ty) :: L') (w.setRow b c') ∧ WgLive Try.link.tWg (N + 2) (w.setRow b c') := by
  have hc := h.1.cold _ hm
  have k : ∀ b', b' ≠ b → (w.setRow b c').heap[b']? = w.heap[b']? := fun b' hb' => setRow_other w b b' _ hb'
  refine ⟨⟨⟨?_, fun b' hb' => (k b' (by omega)).trans (h.1.fa.old b' hb'), fun q hq => ?_, h.1.fa.tape, h.1.fa.os, h.1.fa.output⟩, fun q hq => ?_, h.1.room⟩, WgLive.of_block h.2 (k _ (fun e => h2 e.symm))⟩
  · have := h.1.fa.size
    simpa [World.setRow] using this
  · rcases List.mem_cons.1 hq with rfl | hq
    · exact setRow_heap w b c _ ty _ (h.1.fa.blk _ hm)
    · exact (k _ (hL q hq).2).trans (h.1.fa.blk q (hL q hq).1)
  · rcases List.mem_cons.1 hq with rfl | hq
    · exact hc
    · exact h.1.cold q (hL q hq).1
theorem rl {w w₁ : World} (h : LF N W i sz L w ∧ WgLive Try.link.tWg (N + 2) w) (r : RM (opl Sh B J0 n N m xs) i w w₁) : LF N W i sz L w₁ ∧ WgLive Try.link.tWg (N + 2) w₁ := ⟨LF.rm w w₁ r h.1, r.live h.2⟩
theorem LF.cellOf (h : LF N W i sz L w) {b k : Nat} {c : Array Value} {ty : TypeId} {v : Value} (hm : (b, Obj.cells c ty) ∈ L) (hv : c[k]? = some v) : w.cell? ⟨b, k, none⟩ = some v := by
  have := h.fa.blk _ hm
  simp [World.cell?, this, hv]
theorem LF.thaw (h : LF N W i sz L w) {b k : Nat} {c : Array Value} {ty : TypeId} (hm : (b, Obj.cells c ty) ∈ L) : w.frozen? ⟨b, k, none⟩ = false := by
  have := h.fa.blk _ hm
  simp [World.frozen?, this]
theorem LF.elder (h : LF N W i sz L w) {a : Addr} {v : Value} (ha : a.block < N) (hv : W.cell? a = some v) : w.cell? a = some v := (World.cell?_of_block (h.fa.old _ ha)).trans hv

/-- A step that leaves the elder blocks. -/
theorem dm_step {w' : World} {es : Array Event} (hB : ∀ b, b = N + 2 ∨ b = N ∨ (N + 3 ≤ b ∧ b < N + 3 + 4 * i) → w'.heap[b]? = w.heap[b]?) (he : ∀ e ∈ es, EvM (opl Sh B J0 n N m xs) i e) : DM (opl Sh B J0 n N m xs) i w w' es := by
  refine ⟨⟨hB _ (.inl rfl), fun x h1 h2 b hb => ?_⟩, he⟩
  have hb : b = N ∨ (J0 < x ∧ x ≤ J0 + n ∧ (b = N + 3 + 4 * (x - J0 - 1) ∨ b = N + 4 + 4 * (x - J0 - 1) ∨ b = N + 5 + 4 * (x - J0 - 1))) := hb
  have h2 : x ≤ J0 + i := h2
  exact hB b (by omega)
theorem dm_alloc (h : LF N W i sz L w) (o : Obj) {es : Array Event} (he : ∀ e ∈ es, EvM (opl Sh B J0 n N m xs) i e) : DM (opl Sh B J0 n N m xs) i w (w.alloc o) es := by
  refine dm_step (fun b hb => ?_) he
  have e0 : (w.alloc o).heap = w.heap.push o := rfl
  have := h.room
  have hs := h.fa.size
  rw [e0, Array.getElem?_push_lt (by omega), Array.getElem?_eq_getElem]
theorem dm_same {es : Array Event} (he : ∀ e ∈ es, EvM (opl Sh B J0 n N m xs) i e) : DM (opl Sh B J0 n N m xs) i w w es := ⟨⟨rfl, fun _ _ _ _ _ => rfl⟩, he⟩
theorem dm_set {a : Addr} {v : Value} {es : Array Event} (hb : N + 3 + 4 * i ≤ a.block) (he : ∀ e ∈ es, EvM (opl Sh B J0 n N m xs) i e) : DM (opl Sh B J0 n N m xs) i w (w.setCell a v) es :=
  dm_step (fun b hb => (aside_setCell w a v).block b (by omega)) he
theorem evM_read {c : Addr} (h1 : ¬ Sh (.cell c)) (h2 : c.block ≠ N + 2) (h3 : c.block < B) : EvM (opl Sh B J0 n N m xs) i ⟨.cell c, false, false⟩ := by
  refine ⟨by simp, by simp, by simp, h3, fun b hb => ?_⟩
  simp only [ofEvent_cell0, MemAct.touch?, Option.some.injEq] at hb
  subst hb
  refine ⟨fun h => ?_, fun h => by cases h⟩
  rcases h with h | ⟨a, e, h⟩ | ⟨x, _, _, e⟩
  · exact absurd h h1
  · cases e; exact absurd h h2
  · cases e
theorem evM_cold (hSh : ∀ a : Addr, Sh (.cell a) → a.block < N) {e : Event} {c : Addr} (he : e.loc = .cell c) (h2 : c.block = N + 1 ∨ N + 3 + 4 * i ≤ c.block) (h3 : c.block < B) : EvM (opl Sh B J0 n N m xs) i e := by
  obtain ⟨l, wr, sy⟩ := e
  cases he
  refine ⟨by simp, by simp, by simp, h3, fun b hb => ?_⟩
  simp only [ofEvent_cell0, MemAct.touch?, Option.some.injEq] at hb
  subst hb
  refine ⟨fun h => ?_, fun _ y hy1 hy2 ⟨a, e, hk⟩ => ?_⟩
  · rcases h with h | ⟨a, e, h⟩ | ⟨x, _, _, e⟩
    · have := hSh c h; omega
    · cases e
      have h : c.block = N + 2 := h
      omega
    · cases e
  · cases e
    have hy2 : y ≤ J0 + i := hy2
    have hk : c.block = N ∨ (J0 < y ∧ y ≤ J0 + n ∧ (c.block = N + 3 + 4 * (y - J0 - 1) ∨ c.block = N + 4 + 4 * (y - J0 - 1) ∨ c.block = N + 5 + 4 * (y - J0 - 1))) := hk
    omega
theorem evM_noRoom : EvM (opl Sh B J0 n N m xs) i ⟨.mark .noRoom, false, true⟩ := ⟨by simp, by simp, by simp, trivial, fun b hb => by simp [MemAct.ofEvent, MemAct.touch?] at hb⟩
theorem evM_write {c : Addr} (hSh : ∀ a : Addr, Sh (.cell a) → a.block < N) (h2 : c.block = N + 1 ∨ N + 3 + 4 * i ≤ c.block) (h3 : c.block < B) : EvM (opl Sh B J0 n N m xs) i ⟨.cell c, true, false⟩ := by
  refine ⟨by simp, by simp, by simp, h3, fun b hb => ?_⟩
  simp only [ofEvent_cell0, MemAct.touch?, Option.some.injEq] at hb
  subst hb
  refine ⟨fun h => ?_, fun _ y hy1 hy2 ⟨a, e, hk⟩ => ?_⟩
  · rcases h with h | ⟨a, e, h⟩ | ⟨x, _, _, e⟩
    · have := hSh c h; omega
    · cases e
      have h : c.block = N + 2 := h
      omega
    · cases e
  · cases e
    have hy2 : y ≤ J0 + i := hy2
    have hk : c.block = N ∨ (J0 < y ∧ y ≤ J0 + n ∧ (c.block = N + 3 + 4 * (y - J0 - 1) ∨ c.block = N + 4 + 4 * (y - J0 - 1) ∨ c.block = N + 5 + 4 * (y - J0 - 1))) := hk
    omega

end
/-! ### the words of the starter's walk -/
section
variable {Sh : Loc → Prop} {B J0 n N : Nat} {m : Int} {xs : Nat → Int} {W w w₁ : World} {i sz : Nat} {L L' : List (Nat × Obj)}
/-- At a 'go'. -/
theorem mgo_of {p : Plan} {j : Nat} {Next : Goroutine → World → Prop} {b : Frame} {a : Act} {k : List Item} {cs : List Frame} {ops : Array Oper} {q : Nat} {rest : List Nat} {o : Oper} {d : Deferred} {f : Fn} {c : Array Value}
    (ho : ops[q]? = some o) (hw : Region.wanted o (yielded ops a.tmps) = true) (hk : b.kind ≠ .early) (hr : (execOp a.eval o).run p.P w = .ok (.spawn d) w) (hd : d.target = .fn f c)
    (he : (execOp a.eval o).events p.P w #[] = #[]) (hc : Ready p (p.J0 + j + 1) (born p.P d) w) (hn : Next (G (b.at (a.put o.dst undef) (.inRegion ops rest :: k)) cs) w) :
    MGo p j Next (G (b.at a (.inRegion ops (q :: rest) :: k)) cs) w :=
  ⟨rfl, _, _, by rw [stepG_spawn ho hw hk hr hd, listed_none he], hc, hn⟩

/-- What the starter awaits where r are still to be started. -/
noncomputable def SS (p : Plan) (Anch : Goroutine → World → Prop) (i : Nat) : Nat → Goroutine → World → Prop
  | 0 => MKd p Anch
  | r + 1 => MKdS p i (Starts p (Into p Anch) r)

/-- .. at its head after j + 1 turns. -/
noncomputable def headS (cs : List Frame) (lb : Addr) (n cap N : Nat) (m : Int) (xs : Nat → Int) (j : Nat) (X Y : Code) : Goroutine :=
  headO cs lb n cap N m (j + 1) X X Y (.pointer (some ⟨N + 3 + 4 * j, 0, none⟩)) (.pointer (some ⟨N + 3 + 4 * j + 1 + 1, 0, none⟩)) (.bool true) (.pointer (some (lb.add j))) (.int .i64 (xs j)) (.chan (some (N + 3 + 4 * j + 1)))
    (.slice (some ⟨N + 1, 0, none⟩) j n) (.chan (some (N + 3 + 4 * j + 1))) (.slice (some ⟨N + 3 + 4 * j + 1 + 1 + 1, 0, none⟩) 1 1) (.slice (some ⟨N + 1, 0, none⟩) (j + 1) n) (.tuple #[])
    (.func (.func 25) #[] #[.pointer (some ⟨N + 2, 0, none⟩), .pointer (some ⟨N + 3 + 4 * j, 0, none⟩), .pointer (some ⟨N, 0, none⟩), .pointer (some ⟨N + 3 + 4 * j + 1 + 1, 0, none⟩)]) (.int .i64 ((j + 1 : Nat) : Int))

set_option maxRecDepth 100000 in
set_option maxHeartbeats 8000000 in
/-- From the head of the loop to the next start. -/
theorem toAdd (Next : Goroutine → World → Prop) (hSh : ∀ a : Addr, Sh (.cell a) → a.block < N) (hB : N + 7 + 4 * n ≤ B) (hm1 : 1 ≤ m) (hm2 : m ≤ 1000) {lb : Addr} {cap : Nat} {cs : List Frame} (X Y : Code) (hin : i < n) (hn : n < 1000000)
    (hl : ∀ k, k < n → W.cell? (lb.add k) = some (.int .i64 (xs k))) (hlN : lb.block < N) (hlS : ∀ k, k < n → ¬ Sh (.cell (lb.add k))) (cur : Array Value) (hcur : cur.size = n)
    (hNext : ∀ (cur' : Array Value) (g : Goroutine) (w : World), cur'.size = n → cur'.toList.take (i + 1) = cur.toList.take i ++ [.chan (some (N + 4 + 4 * i))] →
      Goes Try.prog true (RM (opl Sh B J0 n N m xs) (i + 1)) (DM (opl Sh B J0 n N m xs) (i + 1)) (fun g w => g = headS cs lb n cap N m xs i X Y ∧
        LF N W (i + 1) (N + 3 + 4 * (i + 1)) [(N + 1, .cells cur' 29), (N, .cells #[.int .i64 m] 3)] w ∧ WgLive Try.link.tWg (N + 2) w) 20 g w → Next g w)
    (u8 u9 u16 u17 u18 u19 u20 u21 u22 u23 u24 u25 u26 : Value) (w : World) (hF : LF N W i (N + 3 + 4 * i) [(N + 1, .cells cur 29), (N, .cells #[.int .i64 m] 3)] w ∧ WgLive Try.link.tWg (N + 2) w) :
    Goes Try.prog true (RM (opl Sh B J0 n N m xs) i) (DM (opl Sh B J0 n N m xs) i) (MKdS (opl Sh B J0 n N m xs) i Next) 140 (headO cs lb n cap N m i loopO X Y u8 u9 u16 u17 u18 u19 u20 u21 u22 u23 u24 u25 u26) w := by
  have hlb : ∀ k, (lb.add k).block = lb.block := fun k => by simp [Addr.add]; split <;> rfl
  have hd : decide ((i : Int) < (n : Int)) = true := by simp; omega
  simp only [headO, loopO, bodyO, cR, cL, Try.f12, Option.getD_some]
  ((refine Goes.step rfl (fun _ h₁ => ?_); replace hF := rl hF h₁; clear h₁); rw [stepG_seq]; simp only [goes_go]; refine ⟨by (refine dmx_none ?_; intro e he; simp at he), ?_⟩)
  ((refine Goes.step rfl (fun _ h₁ => ?_); replace hF := rl hF h₁; clear h₁); rw [stepG_region]; simp only [goes_go, List.size_toArray, List.length_cons, List.length_nil, Nat.reduceAdd, Nat.zero_add, List.range, List.range.loop]; refine ⟨by (refine dmx_none ?_; intro e he; simp at he), ?_⟩)
  ((refine Goes.step rfl (fun _ h₁ => ?_); replace hF := rl hF h₁; clear h₁)
   refine goes_oper_k rfl rfl (by k_ne) (fun K hK => ?_)
   go_simp
   refine hK _ _ ⟨?_, ?_⟩
   · refine dmx_none ?_
     intro e he
     have hm := mem_listed he
     simp [go_sem, *] at hm
   clear hK K
   try w_num)
  ((refine Goes.step rfl (fun _ h₁ => ?_); replace hF := rl hF h₁; clear h₁); rw [stepG_region_end]; simp only [goes_go]; refine ⟨by (refine dmx_none ?_; intro e he; simp at he), ?_⟩)
  ((refine Goes.step rfl (fun _ h₁ => ?_); replace hF := rl hF h₁; clear h₁); rw [stepG_seq]; simp only [goes_go]; refine ⟨by (refine dmx_none ?_; intro e he; simp at he), ?_⟩)
  ((refine Goes.step rfl (fun _ h₁ => ?_); replace hF := rl hF h₁; clear h₁); rw [stepG_cond (t := true) rfl]; simp only [goes_go, if_true, if_false, Bool.false_eq_true, ↓reduceIte]; refine ⟨by (refine dmx_none ?_; intro e he; simp at he), ?_⟩)
  ((refine Goes.step rfl (fun _ h₁ => ?_); replace hF := rl hF h₁; clear h₁); rw [stepG_skip]; simp only [goes_go]; refine ⟨by (refine dmx_none ?_; intro e he; simp at he), ?_⟩)
  ((refine Goes.step rfl (fun _ h₁ => ?_); replace hF := rl hF h₁; clear h₁); rw [stepG_seq]; simp only [goes_go]; refine ⟨by (refine dmx_none ?_; intro e he; simp at he), ?_⟩)
  ((refine Goes.step rfl (fun _ h₁ => ?_); replace hF := rl hF h₁; clear h₁); rw [stepG_block]; simp only [goes_go]; refine ⟨by (refine dmx_none ?_; intro e he; simp at he), ?_⟩)
  ((refine Goes.step rfl (fun _ h₁ => ?_); replace hF := rl hF h₁; clear h₁); rw [stepG_seq]; simp only [goes_go]; refine ⟨by (refine dmx_none ?_; intro e he; simp at he), ?_⟩)
  ((refine Goes.step rfl (fun _ h₁ => ?_); replace hF := rl hF h₁; clear h₁); rw [stepG_region]; simp only [goes_go, List.size_toArray, List.length_cons, List.length_nil, Nat.reduceAdd, Nat.zero_add, List.range, List.range.loop]; refine ⟨by (refine dmx_none ?_; intro e he; simp at he), ?_⟩)
  have hi1 : (i : Int) < (n : Int) := by omega
  ((refine Goes.step rfl (fun _ h₁ => ?_); replace hF := rl hF h₁; clear h₁)
   refine goes_oper_k rfl rfl (by k_ne) (fun K hK => ?_)
   go_simp
   refine hK _ _ ⟨?_, ?_⟩
   · refine dmx_none ?_
     intro e he
     have hm := mem_listed he
     simp [go_sem, *] at hm
   clear hK K
   try w_num)
  ((refine Goes.step rfl (fun _ h₁ => ?_); replace hF := rl hF h₁; clear h₁)
   have hc := (hF.1.elder (a := lb.add i) (by rw [hlb]; exact hlN) (hl i hin))
   refine goes_oper_k rfl rfl (by k_ne) (fun K hK => ?_)
   go_simp
   refine hK _ _ ⟨dm_same (fun e he => ?_), ?_⟩
   · have hm := mem_listed he
     simp [go_sem, *] at hm
     subst hm
     exact (evM_read (hlS i hin) (by rw [hlb]; omega) (by rw [hlb]; omega))
   clear hK K hc)
  ((refine Goes.step rfl (fun _ h₁ => ?_); replace hF := rl hF h₁; clear h₁)
   have hs := LF.size (And.left hF)
   refine goes_oper_k rfl rfl (by k_ne) (fun K hK => ?_)
   go_simp
   refine hK _ _ ⟨dm_alloc (And.left hF) _ (fun e he => ?_), ?_⟩
   · have hm := mem_listed he
     simp [go_sem, *] at hm
   clear hK K
   replace hF := lf_new hF (.cells #[.int .i64 0] 3)
   clear hs)
  ((refine Goes.step rfl (fun _ h₁ => ?_); replace hF := rl hF h₁; clear h₁)
   have hc := (hF.1.cellOf (List.mem_cons_self ..) (k := 0) rfl)
   have hz := (hF.1.thaw (k := 0) (List.mem_cons_self ..))
   refine goes_oper_k rfl rfl (by k_ne) (fun K hK => ?_)
   go_simp
   refine hK _ _ ⟨?_, ?_⟩
   · refine dm_set ?_ (fun e he => ?_)
     · first | (simp; done) | (simp; omega) | omega
     · have hm := mem_listed he
       simp [go_sem, *] at hm
       subst hm
       exact evM_write hSh (.inr (by first | (simp; done) | (simp; omega) | omega)) (by first | (simp; done) | (simp; omega) | omega)
   clear hK K hc hz
   replace hF := (fun h => lf_set1 (N + 3 + 4 * i) (.int .i64 (xs i)) [(N + 1, .cells cur 29), (N, .cells #[.int .i64 m] 3)] h (List.mem_cons_self ..) (by omega) (by omega) (by simp <;> omega)) hF)
  ((refine Goes.step rfl (fun _ h₁ => ?_); replace hF := rl hF h₁; clear h₁); rw [stepG_region_end]; simp only [goes_go]; refine ⟨by (refine dmx_none ?_; intro e he; simp at he), ?_⟩)
  ((refine Goes.step rfl (fun _ h₁ => ?_); replace hF := rl hF h₁; clear h₁); rw [stepG_seq]; simp only [goes_go]; refine ⟨by (refine dmx_none ?_; intro e he; simp at he), ?_⟩)
  ((refine Goes.step rfl (fun _ h₁ => ?_); replace hF := rl hF h₁; clear h₁); rw [stepG_region]; simp only [goes_go, List.size_toArray, List.length_cons, List.length_nil, Nat.reduceAdd, Nat.zero_add, List.range, List.range.loop]; refine ⟨by (refine dmx_none ?_; intro e he; simp at he), ?_⟩)
  -- the channel
  obtain ⟨i0, hi0, hz0, hz1, hz2⟩ := info_parts infoInt
  have hmk : ∀ w : World, (Instr.makeChan 51 (.int .i64 1)).run Try.prog w = .ok (.chan (some w.heap.size)) (w.alloc (.chan 1 #[] false 0 0 false)) := fun w => run_makeChan (P := Try.prog) (w := w) Try.underlying51 hi0 .i64 1 (by omega) (by rw [hz2]; omega)
  have hme : ∀ (w : World) (es : Array Event), (Instr.makeChan 51 (.int .i64 1)).events Try.prog w es = es := fun w es => events_makeChan (P := Try.prog) (w := w) Try.underlying51 hi0 .i64 1 (by omega) (by rw [hz2]; omega) es
  ((refine Goes.step rfl (fun _ h₁ => ?_); replace hF := rl hF h₁; clear h₁)
   have hs := LF.size (And.left hF)
   refine goes_oper_k rfl rfl (by k_ne) (fun K hK => ?_)
   go_simp
   refine hK _ _ ⟨dm_alloc (And.left hF) _ (fun e he => ?_), ?_⟩
   · have hm := mem_listed he
     simp [go_sem, *] at hm
   clear hK K
   replace hF := lf_new hF (.chan 1 #[] false 0 0 false)
   clear hs)
  clear hmk hme
  ((refine Goes.step rfl (fun _ h₁ => ?_); replace hF := rl hF h₁; clear h₁)
   have hs := LF.size (And.left hF)
   refine goes_oper_k rfl rfl (by k_ne) (fun K hK => ?_)
   go_simp
   refine hK _ _ ⟨dm_alloc (And.left hF) _ (fun e he => ?_), ?_⟩
   · have hm := mem_listed he
     simp [go_sem, *] at hm
   clear hK K
   replace hF := lf_new hF (.cells #[.chan none] 51)
   clear hs)
  ((refine Goes.step rfl (fun _ h₁ => ?_); replace hF := rl hF h₁; clear h₁)
   have hc := (hF.1.cellOf (List.mem_cons_self ..) (k := 0) rfl)
   have hz := (hF.1.thaw (k := 0) (List.mem_cons_self ..))
   refine goes_oper_k rfl rfl (by k_ne) (fun K hK => ?_)
   go_simp
   refine hK _ _ ⟨?_, ?_⟩
   · refine dm_set ?_ (fun e he => ?_)
     · first | (simp; done) | (simp; omega) | omega
     · have hm := mem_listed he
       simp [go_sem, *] at hm
       subst hm
       exact evM_write hSh (.inr (by first | (simp; done) | (simp; omega) | omega)) (by first | (simp; done) | (simp; omega) | omega)
   clear hK K hc hz
   replace hF := (fun h => lf_set1 (N + 3 + 4 * i + 1 + 1) (.chan (some (N + 3 + 4 * i + 1))) [(N + 3 + 4 * i + 1, .chan 1 #[] false 0 0 false), (N + 3 + 4 * i, .cells #[.int .i64 (xs i)] 3), (N + 1, .cells cur 29), (N, .cells #[.int .i64 m] 3)] h (List.mem_cons_self ..) (by omega) (by omega) (by simp <;> omega)) hF)
  ((refine Goes.step rfl (fun _ h₁ => ?_); replace hF := rl hF h₁; clear h₁); rw [stepG_region_end]; simp only [goes_go]; refine ⟨by (refine dmx_none ?_; intro e he; simp at he), ?_⟩)
  ((refine Goes.step rfl (fun _ h₁ => ?_); replace hF := rl hF h₁; clear h₁); rw [stepG_seq]; simp only [goes_go]; refine ⟨by (refine dmx_none ?_; intro e he; simp at he), ?_⟩)
  ((refine Goes.step rfl (fun _ h₁ => ?_); replace hF := rl hF h₁; clear h₁); rw [stepG_region]; simp only [goes_go, List.size_toArray, List.length_cons, List.length_nil, Nat.reduceAdd, Nat.zero_add, List.range, List.range.loop]; refine ⟨by (refine dmx_none ?_; intro e he; simp at he), ?_⟩)
  ((refine Goes.step rfl (fun _ h₁ => ?_); replace hF := rl hF h₁; clear h₁)
   refine goes_oper_k rfl rfl (by k_ne) (fun K hK => ?_)
   go_simp
   refine hK _ _ ⟨?_, ?_⟩
   · refine dmx_none ?_
     intro e he
     have hm := mem_listed he
     simp [go_sem, *] at hm
   clear hK K
   try w_num)
  ((refine Goes.step rfl (fun _ h₁ => ?_); replace hF := rl hF h₁; clear h₁)
   have hc := (hF.1.cellOf (b := N + 3 + 4 * i + 1 + 1) (k := 0) (List.mem_cons_self ..) rfl)
   refine goes_oper_k rfl rfl (by k_ne) (fun K hK => ?_)
   go_simp
   refine hK _ _ ⟨dm_same (fun e he => ?_), ?_⟩
   · have hm := mem_listed he
     simp [go_sem, *] at hm
     subst hm
     exact (evM_read (fun h => by have := hSh _ h; simp at this; omega) (by simp; omega) (by simp; omega))
   clear hK K hc)
  obtain ⟨i1, hi1', hy0, hy1, hy2⟩ := info_parts infoCh
  ((refine Goes.step rfl (fun _ h₁ => ?_); replace hF := rl hF h₁; clear h₁)
   have hs := LF.size (And.left hF)
   refine goes_oper_k rfl rfl (by k_ne) (fun K hK => ?_)
   go_simp
   refine hK _ _ ⟨dm_alloc (And.left hF) _ (fun e he => ?_), ?_⟩
   · have hm := mem_listed he
     simp [go_sem, *] at hm
   clear hK K
   replace hF := lf_new hF (.cells #[.chan (some (N + 3 + 4 * i + 1))] 29)
   clear hs)
  -- append
  (refine Goes.step rfl (fun _ h₁ => ?_); replace hF := rl hF h₁; clear h₁)
  have hrow := hF.1.fa.blk (N + 1, .cells cur 29) (by simp)
  have hnews : ∀ j u, [Value.chan (some (N + 3 + 4 * i + 1))][j]? = some u → World.cell? ‹World› ((⟨N + 3 + 4 * i + 1 + 1 + 1, 0, none⟩ : Addr).add j) = some u := by
    intro j u hj
    match j, hj with
    | 0, hj => simp at hj; subst hj; simpa [Addr.add] using hF.1.cellOf (b := N + 3 + 4 * i + 1 + 1 + 1) (k := 0) (List.mem_cons_self ..) rfl
  have hown : World.ownsRow ‹World› N 29 1 (.slice (some ⟨N + 1, 0, none⟩) i n) i (cur.toList.take i) :=
    ⟨by simp; omega, .inr ⟨N + 1, n, cur, rfl, by omega, hrow, by omega, by simp only [maxLen]; omega, by omega, by simp⟩⟩
  have hr := run_append_room (P := Try.prog) ‹World› 30 30 29 i1 Try.underlying30 hi1' (N + 1) i n cur hrow ⟨N + 3 + 4 * i + 1 + 1 + 1, 0, none⟩ 1 1 [.chan (some (N + 3 + 4 * i + 1))] (by rw [hy1]; rfl) hnews (by intro u hu; simp at hu; subst hu; rfl) (by omega) (by rw [hy1]; simp; omega)
  have hevs := events_append_where (P := Try.prog) ‹World› N 30 30 29 i1 (.chan none) 1 8 Try.underlying30 hi1' hy0 hy1 hy2 _ i _ hown ⟨N + 3 + 4 * i + 1 + 1 + 1, 0, none⟩ 1 1 [.chan (some (N + 3 + 4 * i + 1))] rfl hnews (by intro u hu; simp at hu; subst hu; rfl) (by simp only [maxLen]; omega) (by omega)
  simp only [hy1, Nat.mul_one] at hr
  rw [← newRow_def] at hr
  refine goes_oper_k rfl rfl (by k_ne) (fun K hK => ?_)
  refine uponK_append (.tmp 20) (.tmp 22) 30 rfl rfl rfl hr (hK _ _ ⟨dm_step (fun b hb => setRow_other _ _ _ _ (by omega)) (fun e he => ?_), ?_⟩)
  · have hm := mem_listed he
    rw [events_append_op (.tmp 20) (.tmp 22) 30 rfl rfl rfl] at hm
    rcases hevs e hm with ⟨ad, h2, h3⟩ | ⟨mm, rfl, hn⟩
    · refine evM_cold hSh h2 ?_ ?_
      · rcases h3 with ⟨_, h3⟩ | h3
        · right; rw [h3]; show _ ≤ N + 3 + 4 * i + 1 + 1 + 1; omega
        · left; simpa [Value.ownBlock] using h3
      · rcases h3 with ⟨_, h3⟩ | h3
        · rw [h3]; show N + 3 + 4 * i + 1 + 1 + 1 < B; omega
        · have : ad.block = N + 1 := by simpa [Value.ownBlock] using h3
          omega
    · cases hn
      exact evM_noRoom
  clear hK K
  replace hF := lf_row (N + 1) (newRow cur i (.chan (some (N + 3 + 4 * i + 1)))) [(N + 3 + 4 * i + 1 + 1, .cells #[.chan (some (N + 3 + 4 * i + 1))] 51), (N + 3 + 4 * i + 1, .chan 1 #[] false 0 0 false), (N + 3 + 4 * i, .cells #[.int .i64 (xs i)] 3), (N, .cells #[.int .i64 m] 3)] hF (c := cur) (ty := 29) (by simp) (by omega) (by omega) (by simp <;> omega)
  have hc1 := newRow_size cur i (.chan (some (N + 3 + 4 * i + 1))) (by omega)
  have hc2 := newRow_take cur i (.chan (some (N + 3 + 4 * i + 1))) (by omega)
  clear hr hevs hnews hown hrow
  generalize newRow cur i (.chan (some (N + 3 + 4 * i + 1))) = cur' at hF hc1 hc2 ⊢
  walk_nrm
  ((refine Goes.step rfl (fun _ h₁ => ?_); replace hF := rl hF h₁; clear h₁)
   refine goes_oper_k rfl rfl (by k_ne) (fun K hK => ?_)
   go_simp
   refine hK _ _ ⟨?_, ?_⟩
   · refine dmx_none ?_
     intro e he
     have hm := mem_listed he
     simp [go_sem, *] at hm
   clear hK K
   try w_num)
  ((refine Goes.step rfl (fun _ h₁ => ?_); replace hF := rl hF h₁; clear h₁); rw [stepG_region_end]; simp only [goes_go]; refine ⟨by (refine dmx_none ?_; intro e he; simp at he), ?_⟩)
  ((refine Goes.step rfl (fun _ h₁ => ?_); replace hF := rl hF h₁; clear h₁); rw [stepG_seq]; simp only [goes_go]; refine ⟨by (refine dmx_none ?_; intro e he; simp at he), ?_⟩)
  ((refine Goes.step rfl (fun _ h₁ => ?_); replace hF := rl hF h₁; clear h₁); rw [stepG_region]; simp only [goes_go, List.size_toArray, List.length_cons, List.length_nil, Nat.reduceAdd, Nat.zero_add, List.range, List.range.loop]; refine ⟨by (refine dmx_none ?_; intro e he; simp at he), ?_⟩)
  (refine Goes.step rfl (fun _ h₁ => ?_); replace hF := rl hF h₁; clear h₁)
  refine goes_call rfl rfl (by k_ne) rfl Try.wgLib.f_add (nm_add Try.link) rfl ⟨by (refine dmx_none ?_; intro e he; simp at he), ?_⟩
  walk_nrmf addFn
  have hA := fun a₀ ops₀ i₀ rest₀ k₀ => addM (p := (opl Sh B J0 n N m xs)) (j := i) (L := Try.link) (F := LF N W i (N + 3 + 4 * i + 1 + 1 + 1 + 1) [(N + 1, .cells cur' 29), (N + 3 + 4 * i + 1 + 1, .cells #[.chan (some (N + 3 + 4 * i + 1))] 51), (N + 3 + 4 * i + 1, .chan 1 #[] false 0 0 false), (N + 3 + 4 * i, .cells #[.int .i64 (xs i)] 3), (N, .cells #[.int .i64 m] 3)]) (mT := 10) (Next := Next) (b₀ := base 12) (cs := cs) (a₀ := a₀) (ops₀ := ops₀) (i₀ := i₀) (rest₀ := rest₀) (k₀ := k₀) (opl_ok hSh (by omega) (by omega)) Try.wgLib LF.rm
  simp only [body_add, addFn, Option.getD_some] at hA
  refine goes_more (m := 60) 47 (hA _ _ _ _ _ (fun w hG hL => ?_) _ hF)
  clear hA
  have hF : LF N W i _ _ w ∧ WgLive Try.link.tWg (N + 2) w := ⟨hG, hL⟩
  clear hG hL
  show Goes Try.prog true (RM (opl Sh B J0 n N m xs) i) (DM (opl Sh B J0 n N m xs) i) (MGo (opl Sh B J0 n N m xs) i Next) 10 _ w
  walk_nrm
  ((refine Goes.step rfl (fun _ h₁ => ?_); replace hF := rl hF h₁; clear h₁); rw [stepG_region_end]; simp only [goes_go]; refine ⟨by (refine dmx_none ?_; intro e he; simp at he), ?_⟩)
  ((refine Goes.step rfl (fun _ h₁ => ?_); replace hF := rl hF h₁; clear h₁); rw [stepG_region]; simp only [goes_go, List.size_toArray, List.length_cons, List.length_nil, Nat.reduceAdd, Nat.zero_add, List.range, List.range.loop]; refine ⟨by (refine dmx_none ?_; intro e he; simp at he), ?_⟩)
  ((refine Goes.step rfl (fun _ h₁ => ?_); replace hF := rl hF h₁; clear h₁)
   refine goes_oper_k rfl rfl (by k_ne) (fun K hK => ?_)
   go_simp
   refine hK _ _ ⟨?_, ?_⟩
   · refine dmx_none ?_
     intro e he
     have hm := mem_listed he
     simp [go_sem, *] at hm
   clear hK K
   try w_num)
  refine Goes.stop (fun w₉ r₉ => ?_)
  replace hF := rl hF r₉
  clear r₉
  refine mgo_of (d := call N i) (f := .func 25) (c := #[.pointer (some ⟨N + 2, 0, none⟩), .pointer (some ⟨N + 3 + 4 * i, 0, none⟩), .pointer (some ⟨N, 0, none⟩), .pointer (some ⟨N + 5 + 4 * i, 0, none⟩)]) rfl rfl (by k_ne) ?_ rfl ?_ ?_ ?_
  · have e : N + 5 + 4 * i = N + 3 + 4 * i + 1 + 1 := by omega
    show (execOp _ _).run Try.prog w₉ = _
    simp [go_sem, call, Deferred.ofValue, e]
  · show (execOp _ _).events Try.prog w₉ _ = _
    simp [go_sem, Deferred.ofValue]
  · show Ready (opl Sh B J0 n N m xs) (J0 + i + 1) _ w₉
    rw [show J0 + i + 1 = J0 + 1 + i by omega]
    have eB : N + 5 + 4 * i = N + 3 + 4 * i + 1 + 1 := by omega
    have eC : N + 4 + 4 * i = N + 3 + 4 * i + 1 := by omega
    refine worker hSh (by omega) hin (by omega) hm1 hm2 (a := xs i) rfl w₉ ⟨?_, ?_, ?_, ?_, hF.2⟩
    · exact hF.1.cellOf (b := N) (k := 0) (c := #[.int .i64 m]) (ty := 3) (by simp) rfl
    · exact hF.1.cellOf (b := N + 3 + 4 * i) (k := 0) (c := #[.int .i64 (xs i)]) (ty := 3) (by simp) rfl
    · rw [eB, eC]
      exact hF.1.cellOf (b := N + 3 + 4 * i + 1 + 1) (k := 0) (c := #[.chan (some (N + 3 + 4 * i + 1))]) (ty := 51) (by simp) rfl
    · rw [eC]
      exact hF.1.fa.blk (N + 3 + 4 * i + 1, _) (by simp)
  · refine hNext cur' _ w₉ (by omega) (by have e4 : N + 3 + 4 * i + 1 = N + 4 + 4 * i := by omega
                                          rw [← e4]; exact hc2) ?_
    have hF' : LF N W (i + 1) (N + 3 + 4 * (i + 1)) [(N + 1, .cells cur' 29), (N, .cells #[.int .i64 m] 3)] w₉ ∧ WgLive Try.link.tWg (N + 2) w₉ := by
      have h1 := hF.1.weak (L' := [(N + 1, .cells cur' 29), (N, .cells #[.int .i64 m] 3)]) (by simp)
      have e : N + 3 + 4 * i + 1 + 1 + 1 + 1 = N + 3 + 4 * (i + 1) := by omega
      rw [e] at h1
      exact ⟨⟨h1.fa, by simp, by omega⟩, hF.2⟩
    clear hF
    have hwr : IntKind.i64.wrap ((i : Int) + 1) = ((i + 1 : Nat) : Int) := by rw [IntKind.wrap_i64]; omega
    walk_nrm
    ((refine Goes.step rfl (fun _ h₁ => ?_); replace hF' := rl hF' h₁; clear h₁); rw [stepG_region_end]; simp only [goes_go]; refine ⟨by (refine dmx_none ?_; intro e he; simp at he), ?_⟩)
    ((refine Goes.step rfl (fun _ h₁ => ?_); replace hF' := rl hF' h₁; clear h₁); rw [stepG_inBlock]; simp only [goes_go]; refine ⟨by (refine dmx_none ?_; intro e he; simp at he), ?_⟩)
    ((refine Goes.step rfl (fun _ h₁ => ?_); replace hF' := rl hF' h₁; clear h₁); rw [stepG_region]; simp only [goes_go, List.size_toArray, List.length_cons, List.length_nil, Nat.reduceAdd, Nat.zero_add, List.range, List.range.loop]; refine ⟨by (refine dmx_none ?_; intro e he; simp at he), ?_⟩)
    ((refine Goes.step rfl (fun _ h₁ => ?_); replace hF' := rl hF' h₁; clear h₁)
     refine goes_oper_k rfl rfl (by k_ne) (fun K hK => ?_)
     go_simp
     refine hK _ _ ⟨?_, ?_⟩
     · refine dmx_none ?_
       intro e he
       have hm := mem_listed he
       simp [go_sem, *] at hm
     clear hK K
     try w_num)
    ((refine Goes.step rfl (fun _ h₁ => ?_); replace hF' := rl hF' h₁; clear h₁)
     refine goes_oper_k rfl rfl (by k_ne) (fun K hK => ?_)
     go_simp
     refine hK _ _ ⟨?_, ?_⟩
     · refine dmx_none ?_
       intro e he
       have hm := mem_listed he
       simp [go_sem, *] at hm
     clear hK K
     try w_num)
    ((refine Goes.step rfl (fun _ h₁ => ?_); replace hF' := rl hF' h₁; clear h₁); rw [stepG_region_end]; simp only [goes_go]; refine ⟨by (refine dmx_none ?_; intro e he; simp at he), ?_⟩)
    ((refine Goes.step rfl (fun _ h₁ => ?_); replace hF' := rl hF' h₁; clear h₁); rw [stepG_inLoop]; simp only [goes_go]; refine ⟨by (refine dmx_none ?_; intro e he; simp at he), ?_⟩)
    try simp only [hwr]
    refine Goes.stop (fun w₉ r₉ => ?_)
    replace hF' := rl hF' r₉
    exact ⟨rfl, hF'⟩
end
end Go.Proofs.Ytjofmchipkfnmaa
