/- Range over a function, for whichever goroutine: the steps (own text). -/
import Derived.Conc.CompanyCalls
import Derived.Conc.CompanyDraw
import Derived.Conc.Own4
import Derived.AtR
import Derived.RangeFuncRecord
import Derived.RangeFuncIn
import Derived.Conc.Listed
namespace Go.Proofs.Ytfgipjgjehjijaa
open Go Go.Conc

section
variable {P : Program} {main : Bool} {b : Frame} {a : Act} {k : List Item} {cs : List Frame} {w : World}

/-! ### a frame of a round -/
theorem rG_seq {x y : Code} : stepG P main (G (b.atR a (.code (.seq x y) :: k)) cs) w = .go (G (b.atR a (.code x :: .code y :: k)) cs) w := by simp [G, stepG, stepG.exec, Frame.atR]
theorem rG_skip : stepG P main (G (b.atR a (.code .skip :: k)) cs) w = .go (G (b.atR a k) cs) w := by simp [G, stepG, stepG.exec, Frame.atR]
theorem rG_inBlock {id : Nat} : stepG P main (G (b.atR a (.inBlock id :: k)) cs) w = .go (G (b.atR a k) cs) w := by simp [G, stepG, stepG.exec, Frame.atR]
theorem rG_block {id : Nat} {c : Code} : stepG P main (G (b.atR a (.code (.block id c) :: k)) cs) w = .go (G (b.atR a (.code c :: .inBlock id :: k)) cs) w := by simp [G, stepG, stepG.exec, Frame.atR]
theorem rG_cond {c : Operand} {x y : Code} {t : Bool} (h : a.eval c = .bool t) :
    stepG P main (G (b.atR a (.code (.cond c x y) :: k)) cs) w = .go (G (b.atR a (.code (if t then x else y) :: k)) cs) w := by
  have := congrFun (Frame.eval_atR b a (.code (.cond c x y) :: k)) c
  simp only [Frame.atR] at this
  simp [G, stepG, stepG.exec, Frame.atR, this, h]
theorem rG_region {id : Nat} {ops : Array Oper} : stepG P main (G (b.atR a (.code (.region id ops false) :: k)) cs) w = .go (G (b.atR a (.inRegion ops (List.range ops.size) :: k)) cs) w := by simp [G, stepG, stepG.exec, Frame.atR]
theorem rG_region_end {ops : Array Oper} : stepG P main (G (b.atR a (.inRegion ops [] :: k)) cs) w = .go (G (b.atR a k) cs) w := by simp [G, stepG, stepG.exec, Frame.atR]
/-- The round begins. -/
theorem rG_begin {l : Nat} {w' : World} (hb : b.roundOf = some l) (hk : b.kind = .normal) (hr : (Instr.beginRound l).run P w = .ok () w') :
    stepG P main (G (b.atR a (.beginRound :: k)) cs) w = .go (G (b.atR a k) cs) w' (seen P b.fn ((Instr.beginRound l).events P w #[])) := by
  simp [G, stepG, stepG.exec, stepG.apply, Frame.atR, hb, hk, Sem.runT_eq, hr, Result.andThen, Frame.finish, GStep.after]
/-- The round ends, and the iterator goes on. -/
theorem rG_end {c : Frame} {l : Nat} {v : Value} {w' : World} (hb : b.roundOf = some l) (hk : b.kind = .normal) (hr : (Instr.endRound l none).run P w = .ok v w') :
    stepG P main (G (b.atR a []) (c :: cs)) w = .go (G (c.finish v) cs) w' (seen P b.fn ((Instr.endRound l none).events P w #[])) := by
  simp [G, stepG, stepG.exec, Frame.atR, hb, hk, Sem.runT_eq, hr, doReturn, GStep.after]
/-- An operation. -/
theorem rG_oper {ops : Array Oper} {i : Nat} {rest : List Nat} {o : Oper} (ho : ops[i]? = some o) (hw : Region.wanted o (yielded ops a.tmps) = true) (hd : ∀ c, o.op ≠ .defer c) :
    stepG P main (G (b.atR a (.inRegion ops (i :: rest) :: k)) cs) w = stepG.apply P true (b.atR a (.inRegion ops (i :: rest) :: k)) cs none (execOp a.eval o) w := by
  have he := Frame.eval_atR b a (.inRegion ops (i :: rest) :: k)
  simp only [Frame.atR] at he
  rw [← Oper.semAt_eq b.roundOf a.eval o hd]
  simp only [G, stepG, stepG.exec, stepG.oper, Frame.oper?, Frame.atR, ho, hw, he, Option.map_some, Option.getD_some, if_true, Oper.semAt]
  cases b.roundOf <;> cases o.op <;> rfl
theorem goes_operR_k {ops : Array Oper} {i : Nat} {rest : List Nat} {o : Oper} {K : Goroutine → World → Array Event → Prop}
    (ho : ops[i]? = some o) (hw : Region.wanted o (yielded ops a.tmps) = true) (hk : b.kind ≠ .early) (hd : ∀ c, o.op ≠ .defer c)
    (h : ∀ K' : Act → World → Prop, (∀ a' w', K (G (b.atR a' (.inRegion ops rest :: k)) cs) w' (listed P b.fn a o w) → K' a' w') → uponK o a K' ((execOp a.eval o).run P w)) :
    (stepG P main (G (b.atR a (.inRegion ops (i :: rest) :: k)) cs) w).goes K := by
  have hk' : (b.kind == CallKind.early) = false := by simpa using hk
  have hfin : ∀ v, (b.atR a (.inRegion ops (i :: rest) :: k)).finish v = b.atR (a.put o.dst v) (.inRegion ops rest :: k) := fun v => by rw [Frame.finish_atR, ho]; rfl
  have := h (fun a' w' => K (G (b.atR a' (.inRegion ops rest :: k)) cs) w' (listed P b.fn a o w)) (fun _ _ x => x)
  rw [rG_oper ho hw hd]
  revert this
  cases hr : (execOp a.eval o).run P w with
  | ok x w' =>
    cases x with
    | value v => 
      intro h
      have e : stepG.apply P true (b.atR a (.inRegion ops (i :: rest) :: k)) cs none (execOp a.eval o) w = .go (G (b.atR (a.put o.dst v) (.inRegion ops rest :: k)) cs) w' (listed P b.fn a o w) := by
        rw [← hfin]
        simp [stepG.apply, hr, G, Frame.atR, hk', GStep.after, listed]
      rw [e]
      exact h
    | skip =>
      intro h
      have e : stepG.apply P true (b.atR a (.inRegion ops (i :: rest) :: k)) cs none (execOp a.eval o) w = .go (G (b.atR (a.put o.dst undef) (.inRegion ops rest :: k)) cs) w' (listed P b.fn a o w) := by
        rw [← hfin]
        simp [stepG.apply, hr, G, Frame.atR, hk', GStep.after, listed]
      rw [e]
      exact h
    | _ => intro h; exact h.elim
  | halt x w' => intro h; exact h.elim

/-! ### what the record's acts list -/
theorem ev_getObj_loop {l : Nat} {r : Loop} (h : w.heap[l]? = some (.loop r)) (es : Array Event) : (getObj l).events P w es = es.push ⟨.obj l, false, false⟩ := by
  simp only [Sem.events, getObj, Sem.runT, h, Obj.isChan]
theorem ev_setObj_loop {l : Nat} {r : Loop} (r' : Loop) (h : w.heap[l]? = some (.loop r)) (es : Array Event) : (setObj l (.loop r')).events P w es = es.push ⟨.obj l, true, false⟩ := by
  simp [setObj, Sem.events, Sem.runT, h, Obj.isChan, -Sem.runT_eq]
theorem ev_getLoop {l : Nat} {r : Loop} (h : w.heap[l]? = some (.loop r)) (es : Array Event) : (Instr.getLoop l).events P w es = es.push ⟨.obj l, false, false⟩ := by
  simp only [Instr.getLoop, Sem.events_bind, ev_getObj_loop h, run_getObj_loop h, Result.evThen, Sem.events_pure]
theorem ev_beginRound {l : Nat} {r : Loop} (h : w.heap[l]? = some (.loop r)) (hr : r.state = .ready) (es : Array Event) : (Instr.beginRound l).events P w es = (es.push ⟨.obj l, false, false⟩).push ⟨.obj l, true, false⟩ := by
  simp only [Instr.beginRound, Sem.events_bind, ev_getLoop h, run_getLoop h, Result.evThen, ev_setObj_loop _ h, run_setObj_loop _ h, hr, Sem.events_pure]
theorem ev_endRound {l : Nat} {r : Loop} (h : w.heap[l]? = some (.loop r)) (es : Array Event) : (Instr.endRound l none).events P w es = (es.push ⟨.obj l, false, false⟩).push ⟨.obj l, true, false⟩ := by
  simp only [Instr.endRound, Sem.events_bind, ev_getLoop h, run_getLoop h, Result.evThen, ev_setObj_loop _ h, run_setObj_loop _ h, Sem.events_pure]
theorem ev_endLoop {l : Nat} {r : Loop} (h : w.heap[l]? = some (.loop r)) (hr : r.state = .ready) (es : Array Event) : (Instr.endLoop l).events P w es = (es.push ⟨.obj l, false, false⟩).push ⟨.obj l, true, false⟩ := by
  simp [Instr.endLoop, Sem.events_bind, ev_getLoop h, run_getLoop h, Result.evThen, ev_setObj_loop _ h, hr]
theorem ev_yield {l : Nat} {r : Loop} {args : Array Value} (h : w.heap[l]? = some (.loop r)) (hs : args.size = r.params.size) (es : Array Event) : (Instr.yield l args).events P w es = es.push ⟨.obj l, false, false⟩ := by
  simp [Instr.yield, Sem.events_bind, ev_getLoop h, run_getLoop h, Result.evThen, hs]
theorem ev_enterLoop (fn : FuncId) (tmps : Array Value) (ps : Array Tmp) (assign body : Code) (es : Array Event) : (Instr.enterLoop fn tmps ps assign body none).events P w es = es := by
  unfold Instr.enterLoop
  simp only [Sem.events_bind, events_newObj, run_newObj_alloc, Result.evThen, Sem.events_pure, Sem.run_pure]

/-! ### the statement's own steps -/
/-- Into the iterator. -/
theorem sG_enter {g : Operand} {ps : Array Tmp} {assign body : Code} {f : FuncId} {fn : Func} {caps : Array Value} (hb : b.kind ≠ .early) (hg : a.eval g = .func (.func f) #[] caps) (hf : P.funcs[f]? = some fn)
    (hn : (fn.name == "runtime.NumGoroutine") = false) (hbody : fn.body.isNone = false) :
    stepG P main (G (b.at a (.code (.rangeFunc g ps assign body) :: k)) cs) w =
      .go (G (Frame.enter P f (#[.func (.yield (w.heap.size + 1)) #[] #[]] ++ caps) .normal) (b.at { a with defers := { target := .collected w.heap.size, args := #[] } :: a.defers } (.inRangeFunc (w.heap.size + 1) :: k) :: cs))
        ((w.alloc (.deferred (some []))).alloc (.loop { state := .ready, pending := none, fn := b.fn, tmps := a.tmps, params := ps, assign, body, defers := w.heap.size })) #[] := by
  have hev := Frame.eval_at' b { a with defers := { target := .collected w.heap.size, args := #[] } :: a.defers } (.inRangeFunc (w.heap.size + 1) :: k)
  simp only [Frame.at] at hev
  have hk' : (b.kind == CallKind.early) = false := by simpa using hb
  have hn2 : ¬ fn.name = "runtime.NumGoroutine" := by simpa using hn
  have hbody2 : ¬ fn.body = none := fun e => by rw [e] at hbody; cases hbody
  have hg' : ({ tmps := a.tmps, defers := { target := .collected w.heap.size, args := #[] } :: a.defers } : Act).eval g = .func (.func f) #[] caps := hg
  simp [G, stepG, stepG.exec, Frame.at, Sem.runT_eq, run_enterLoop_outer, ev_enterLoop, GStep.after, stepG.apply, hev, resolve, hg', Deferred.ofValue, invoke, callFunc, hf, hn2, hbody2, hk', seen]
  simp [Act.eval]
/-- A round. -/
theorem sG_yield {ops : Array Oper} {i : Nat} {rest : List Nat} {o : Oper} {l : Nat} {r : Loop} {c x : Operand} {v : Value} {p : Tmp} (ho : ops[i]? = some o) (hw : Region.wanted o (yielded ops a.tmps) = true) (hk : b.kind ≠ .early)
    (hop : o.op = .call { callee := .value c, args := #[x], argTypes := #[3] }) (hc : a.eval c = .func (.yield l) #[] #[]) (hx : a.eval x = v) (h : w.heap[l]? = some (.loop r)) (hp : r.params = #[p]) :
    stepG P main (G (b.at a (.inRegion ops (i :: rest) :: k)) cs) w =
      .go (G (Frame.round l r.fn (r.tmps.setIfInBounds p v) r.assign r.body .normal) (b.at a (.inRegion ops (i :: rest) :: k) :: cs)) w (listed P b.fn a o w) := by
  have hk' : (b.kind == CallKind.early) = false := by simpa using hk
  rw [stepG_oper ho hw]
  have hr : (execOp a.eval o).run P w = .ok (.round l r.fn (r.tmps.setIfInBounds p v) r.assign r.body) w := by
    simp [execOp, hop, resolve, invoke, callFunc, hc, hx, Deferred.ofValue, run_yield h, hp]
    trace_state
  simp [stepG.apply, hr, G, Frame.at, hk', GStep.after, listed]
/-- The iterator has returned to the statement. -/
theorem finish_inRange (l : Nat) (v : Value) : (b.at a (.inRangeFunc l :: k)).finish v = b.at a (.endRangeFunc l :: k) := by simp [Frame.finish, Frame.at]
/-- Behind the statement. -/
theorem sG_after {l : Nat} {r : Loop} (h : w.heap[l]? = some (.loop r)) (hr : r.state = .ready) (hp : r.pending = none) :
    stepG P main (G (b.at a (.endRangeFunc l :: k)) cs) w = .go (G (b.at a k) cs) (w.putObj l (.loop { r with state := .exhausted })) (seen P b.fn #[⟨.obj l, false, false⟩, ⟨.obj l, true, false⟩]) := by
  have hb : r.state ≠ .busy := by rw [hr]; simp
  simp [G, stepG, stepG.exec, Frame.at, Sem.runT_eq, run_endLoop h hb, ev_endLoop h hr, hp, GStep.after]
theorem ev_takeDeferred {d : Nat} {ds : List Deferred} (h : w.heap[d]? = some (.deferred (some ds))) (es : Array Event) : (Instr.takeDeferred d).events P w es = (es.push ⟨.obj d, false, false⟩).push ⟨.obj d, true, false⟩ := by
  simp [Instr.takeDeferred, Sem.events, getObj, setObj, Sem.runT, bind, Sem.bind, h, Obj.isChan, -Sem.runT_eq]
  rfl
/-- The return collects the rounds' deferred calls: none. -/
theorem sG_collect {d : Nat} {ds : List Deferred} {todo : List Item} (h : w.heap[d]? = some (.deferred (some []))) (hd : a.defers = { target := .collected d, args := #[] } :: ds) :
    stepG P main (G { b.at a todo with mode := .returning } cs) w = .go (G { b.at { a with defers := ds } todo with mode := .returning } cs) (w.putObj d (.deferred none)) (seen P b.fn #[⟨.obj d, false, false⟩, ⟨.obj d, true, false⟩]) := by
  simp [G, stepG, unwind, Frame.at, hd, Sem.runT_eq, run_takeDeferred h, ev_takeDeferred h, GStep.after]
/-- A function's return whose results lie in memory. -/
theorem sG_leave {fn : Func} {todo : List Item} {c : Frame} {v : Value} (hn : b.kind = .normal) (hd : a.defers = []) (hf : P.funcs[b.fn]? = some fn) (hr : (results fn a.tmps).run P w = .ok v w) :
    stepG P main (G { b.at a todo with mode := .returning } (c :: cs)) w = .go (G (c.finish v) cs) w (seen P b.fn ((results fn a.tmps).events P w #[])) := by
  simp [G, stepG, unwind, doReturn, Frame.at, hn, hd, hf, hr, GStep.after]
theorem listed_yield {o : Oper} {l : Nat} {r : Loop} {c x : Operand} {v : Value} {p : Tmp} (hop : o.op = .call { callee := .value c, args := #[x], argTypes := #[3] }) (hc : a.eval c = .func (.yield l) #[] #[]) (hx : a.eval x = v)
    (h : w.heap[l]? = some (.loop r)) (hp : r.params = #[p]) {f : FuncId} {e : Event} (he : e ∈ listed P f a o w) : e = ⟨.obj l, false, false⟩ := by
  have he := mem_seen he
  have hs : #[v].size = r.params.size := by rw [hp]; rfl
  simp [execOp, hop, resolve, invoke, callFunc, hc, hx, Deferred.ofValue, ev_yield h hs] at he
  exact he
/-- A call from a frame of a round. -/
theorem goes_callR {ops : Array Oper} {i : Nat} {rest : List Nat} {o : Oper} {K : Goroutine → World → Array Event → Prop} {f : FuncId} {fn : Func} {c : Code} {args : Array Operand} {ats : Array TypeId}
    (ho : ops[i]? = some o) (hw : Region.wanted o (yielded ops a.tmps) = true) (hk : b.kind = .normal) (hop : o.op = .call { callee := .value (.func f), args, argTypes := ats })
    (hf : P.funcs[f]? = some fn) (hname : (fn.name == "runtime.NumGoroutine") = false) (hb : fn.body = some c)
    (h : K (G ((base f).at { tmps := args.map a.eval ++ Array.replicate (fn.ntmps - (args.map a.eval).size) undef, defers := [] } [.code c]) (b.atR a (.inRegion ops (i :: rest) :: k) :: cs)) w #[]) :
    (stepG P main (G (b.atR a (.inRegion ops (i :: rest) :: k)) cs) w).goes K := by
  have hb' : fn.body.isNone = false := by rw [hb]; rfl
  have hr := run_call_body (w := w) (P := P) (a := a) hop hf hname hb'
  have he : (execOp a.eval o).events P w #[] = #[] := events_call_body hop hf hname hb' _
  have e : stepG P main (G (b.atR a (.inRegion ops (i :: rest) :: k)) cs) w = .go (G (Frame.enter P f (args.map a.eval) .normal) (b.atR a (.inRegion ops (i :: rest) :: k) :: cs)) w #[] := by
    rw [rG_oper ho hw (fun c => by rw [hop]; simp)]
    simp [stepG.apply, hr, he, G, Frame.atR, hk, GStep.after, seen]
  rw [e, enter_at _ hf hb]
  exact h
end
section
variable {P : Program} {main : Bool} {R : World → World → Prop} {D : World → World → Array Event → Prop}
theorem Goes.callR (T : Terms R D) {b : Frame} {a : Act} {k : List Item} {cs : List Frame} {w : World} {ops : Array Oper} {i : Nat} {rest : List Nat} {o : Oper} {f : FuncId} {args : Array Operand} {ats : Array TypeId}
    {nf m : Nat} {Post : Value → World → Prop} {Stop : Goroutine → World → Prop}
    (ho : ops[i]? = some o) (hw : Region.wanted o (yielded ops a.tmps) = true) (hk : b.kind = .normal) (hop : o.op = .call { callee := .value (.func f), args, argTypes := ats })
    (hcall : CallsC P main R D f (args.map a.eval) nf w Post)
    (hnext : ∀ v w', Post v w' → Goes P main R D Stop m (G (b.atR (a.put o.dst v) (.inRegion ops rest :: k)) cs) w') :
    Goes P main R D Stop (m + nf + 3) (G (b.atR a (.inRegion ops (i :: rest) :: k)) cs) w := by
  obtain ⟨fn, c, hf, hname, hbody, hwp⟩ := hcall
  have hfin : ∀ v, (b.atR a (.inRegion ops (i :: rest) :: k)).finish v = b.atR (a.put o.dst v) (.inRegion ops rest :: k) := fun v => by rw [Frame.finish_atR, ho]; rfl
  have hleave : ∀ (a' : Act) (w' : World) (todo : List Item), (a'.defers = [] ∧ ∃ v, ResultsC P fn a'.tmps v ∧ Post v w') →
      Goes P main R D Stop (m + 1) (G { (base f).at a' todo with mode := .returning } (b.atR a (.inRegion ops (i :: rest) :: k) :: cs)) w' := by
    rintro a' w' todo ⟨hd, v, hr, hp⟩
    refine Goes.step rfl fun w₁ h₁ => ?_
    rw [stepG_leave (b := base f) rfl hd hf (hr w₁).1 (hr w₁).2, hfin]
    exact ⟨T.idle _, (hnext v w' hp).rely T.trans h₁⟩
  have hbodyG : Goes P main R D Stop (m + 2 + nf) (G ((base f).at { tmps := args.map a.eval ++ Array.replicate (fn.ntmps - (args.map a.eval).size) undef, defers := [] } [.code c]) (b.atR a (.inRegion ops (i :: rest) :: k) :: cs)) w := by
    refine hwp (base f) [] _ Stop (m + 2) rfl (by simp [base]) fun e a' w' q => ?_
    cases e with
    | normal => exact Goes.step rfl fun w₁ h₁ => by rw [stepG_end]; exact ⟨T.idle _, (hleave a' w' [] q).rely T.trans h₁⟩
    | ret => exact fun todo => (hleave a' w' todo q).more
    | exit id => exact q.elim
    | goto l => exact q.elim
    | panic ch => exact q.elim
    | outgrown => exact q.elim
  have e : m + nf + 3 = (m + 2 + nf) + 1 := by omega
  rw [e]
  exact Goes.step rfl fun w₁ h₁ => goes_callR ho hw hk hop hf hname hbody ⟨T.idle _, hbodyG.rely T.trans h₁⟩
end
end Go.Proofs.Ytfgipjgjehjijaa
