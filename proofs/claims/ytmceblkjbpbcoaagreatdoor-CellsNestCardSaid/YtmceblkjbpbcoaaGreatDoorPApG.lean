/- Contracts of layers below. -/
import Derived.Test.YtmceblkjbpbcoaaGreatDoorPY5
import Derived.Test.YtmceblkjbpbcoaaGreatDoorPRowF
import Derived.Maps.AppendAt
import Derived.OwnWalkIn
import Derived.Test.YtmceblkjbpbcoaaGreatDoorPAr3
import Derived.Test.YtmceblkjbpbcoaaGreatDoorPYLaws
namespace Go.Proofs.YtmceblkjbpbcoaaGreatDoor
open Go.ChangeShapes Go.WideShapes Go.ChangeAt Go.RowKit
section
abbrev Elm := Elh
theorem apG {P : Program} {T E : TypeId} {size bytes : Nat} (hE : Elm P T E size bytes) {ops : Array Oper} {Q : Exit -> Act -> World -> Prop} {a : Act} {w : World} {rest : List Oper} {o1 o2 : Oper} (hg1 : o1.guard = none) (x : Operand) (ho1 : o1.op = .buildSlice T 1 #[(0, x)]) (D : Tmp) (hd1 : o1.dst = some D)
 (hg2 : o2.guard = none) (sl : Operand) (ho2 : o2.op = .call { callee := .builtin .append, args := #[sl, .tmp D], argTypes := #[T, T] }) (val : Value) (cs : Array Value) (hx : a.eval x = val) (hcs : cs.size = size) (h1 : cs.all (·.oneCell') = true)
 (hbs : ∀ w, (Instr.buildSlice T 1 #[(0, val)]).run P w = .ok (.slice (some ⟨w.heap.size, 0, none⟩) 1 1) (w.alloc (.cells cs E)))
 (v : Value) (hs : ∀ u, (a.put (some D) u).eval sl = v) (hD : ∀ u, (a.put (some D) u).eval (.tmp D) = u) (base n : Nat) (xs : List Value) (hown : w.ownsRow base E size v n xs) (hn : n < 4194304) (hbase : base <= w.heap.size)
 (h : ∀ u v' w', w'.ownsRow base E size v' (n + 1) (xs ++ cs.toList) -> Below base w w' -> wpList P ops Q rest ((a.put (some D) u).put o2.dst v') w') : wpList P ops Q (o1 :: o2 :: rest) a w := by
 obtain ⟨z, hi0, hzc⟩ := hE.info
 obtain ⟨i0, hi, hz0, hz1, hz2⟩ := qbl hi0
 have hsm := hE.small
 refine qam (qaa hg1 _) _ hd1 (.slice (some ⟨w.heap.size, 0, none⟩) 1 1) (w.alloc (.cells cs E)) ?_ ?_
 ·unfold execOp
  simp only [ho1, List.map_toArray, List.map_cons, List.map_nil, hx, Sem.run_bind, hbs, Sem.run_pure, Result.andThen_ok]
 ·have B0 := Blk.new w E cs
  refine wpList_append_own _ hg2 sl (.tmp D) T ho2 base E i0 z size bytes hE.und hi hz0 hz1 hz2 hzc hE.pos v n xs (hs _) (hown.alloc _) ⟨w.heap.size, 0, none⟩ 1 1 cs.toList (hD _) (by rw [Array.length_toList, hcs, Nat.one_mul]) (fun j u hu => B0.lies j u (by simpa using hu)) (fun u hu => (Array.all_eq_true_iff_forall_mem.1 h1) u (by simpa using hu)) (by unfold maxLen; omega) (xau (Nat.mul_le_mul (show n + 1 <= 4194304 by omega) hsm) (by omega)) (by simp; omega) ?_
  intro v' w' h1 h2 h3
  refine h _ v' w' h1 (((xar w _).mono hbase).trans (below_grown h2 (by simp; omega) (fun g hg => ?_)))
  rcases hown.2 with ⟨rfl, _⟩ | ⟨g', cap, cur, rfl, hb, _⟩
  ·simp [Value.ownBlock] at hg
  ·have e : g' = g := by simpa [Value.ownBlock] using hg
   omega
end
section
section
variable {P : Program} {ops : Array Oper} {Q : Exit -> Act -> World -> Prop} {md : Region.Mode} {S : World -> Prop} {R : Act -> Prop}
def Closed (md : Region.Mode) (ops : Array Oper) (listed : Array Bool) : Prop :=
 ∀ (j : Nat) (o : Oper), ops[j]? = some o -> listed.getD j false = true -> ∀ e ∈ o.after, Region.binds md e = true -> listed.getD e.on false = true
theorem qbm {xs : Array Bool} {i j : Nat} (h : xs.getD j false = true) : (xs.setIfInBounds i true).getD j false = true := by
 by_cases hj : j < xs.size
 ·by_cases e : i = j
  ·subst e
   simp [hj]
  ·simp [hj, e] at h |-
   exact h
 ·simp [hj] at h
theorem qks {st : Nat} {os : Oper} (hst : ops[st]? = some os) (hlast : ops.size = st + 1)
 (hac : ∀ i o, ops[i]? = some o -> ∀ e ∈ o.after, Region.binds md e = true -> e.on < i)
 (hall : ∀ i, i < st -> (∃ e ∈ os.after, Region.binds md e = true /\ e.on = i) \/ ∃ (j : Nat) (oj : Oper), ops[j]? = some oj /\ (∃ e ∈ os.after, Region.binds md e = true /\ e.on = j) /\ ∃ e ∈ oj.after, Region.binds md e = true /\ e.on = i)
 (hQ : ∀ a w, S w -> R a -> Go.wpOp P ops Q st (fun a' w' => Q .normal a' w') a w) :
 ∀ (fuel : Nat) (listed : Array Bool) (a : Act) (w : World), listed.size = ops.size -> listed.getD st true = false -> Closed md ops listed →
  AllS P md ops S R fuel (listed.setIfInBounds st true) a -> S w -> wpAny P md ops Q (fuel + 1) listed a w := by
 intro fuel
 induction fuel with
 | zero =>
   intro listed a w hsz hun hcl hA hS
   refine ⟨fun h => absurd h (qag hac hsz st hun), fun i hi => ?_⟩
   by_cases e : i = st
   ·subst e
    exact wpOp_mono (fun a' w' h => ⟨hA.1, h⟩) (hQ a w hS hA.2)
   ·have := ready_mono hi e
    rw [hA.1] at this
    cases this
 | succ f ih =>
   intro listed a w hsz hun hcl hA hS
   refine ⟨fun h => absurd h (qag hac hsz st hun), fun i hi => ?_⟩
   obtain ⟨_, oi0, hoi0, hl0⟩ := mem_ready.1 hi
   by_cases e : i = st
   ·subst e
    have hl := hl0
    rw [hst] at hoi0
    injection hoi0 with hoi0
    subst hoi0
    have hnone : Region.ready md ops (listed.setIfInBounds i true) = [] := by
     rw [List.eq_nil_iff_forall_not_mem]
     intro j hj
     obtain ⟨h1, o, ho, _⟩ := mem_ready.1 hj
     have hjs : j < ops.size := (xag ho).1
     have hjl : j < listed.size := by omega
     by_cases ej : j = i
     ·subst ej
      simp [hjl] at h1
     ·have h2 : listed.getD j false = true := by
       rcases hall j (by omega) with ⟨ed, hed, hb, hon⟩ | ⟨k, ok, hk, ⟨ed, hed, hb, hon⟩, e2, he2, hb2, hon2⟩
       ·rw [<- hon]; exact hl ed hed hb
       ·have h3 := hl ed hed hb
        rw [hon] at h3
        rw [<- hon2]
        exact hcl k ok hk h3 e2 he2 hb2
      rw [getD_set_ne true (Ne.symm ej)] at h1
      simp [hjl] at h1 h2
      rw [h1] at h2
      cases h2
    exact wpOp_mono (fun a' w' h => ⟨fun _ => h, fun j hj => by rw [hnone] at hj; cases hj⟩) (hQ a w hS (hA.1 hnone))
   ·obtain ⟨oi, v, ho, hk, hr⟩ := hA.2 i (ready_mono hi e)
    refine hk.step ho hS fun w' hS' => ?_
    refine ih (listed.setIfInBounds i true) _ w' (by simpa using hsz) (by rw [getD_set_ne true e]; exact hun) ?_ ?_ hS'
    ·intro j o hjo hjl ed hed hb
     by_cases ej : j = i
     ·subst ej
      rw [hoi0] at hjo
      injection hjo with hjo
      subst hjo
      exact qbm (hl0 ed hed hb)
     ·rw [getD_set_ne false (Ne.symm ej)] at hjl
      exact qbm (hcl j o hjo hjl ed hed hb)
    ·rw [Array.setIfInBounds_comm _ _ e]
     exact hr
def lastB2 (ops : Array Oper) (st : Nat) : Bool := (List.range st).all fun i => match ops[st]? with
 | some o => o.after.toList.any fun e => Region.binds .any e && (decide (e.on = i) || match ops[e.on]? with
   | some o2 => o2.after.toList.any fun e2 => Region.binds .any e2 && decide (e2.on = i)
   | none => false)
 | none => false
theorem qcs {id : Nat} {a : Act} {w : World} (hm : P.follows .mixedOrders = true) (S : World -> Prop) (h0 : S w.drew) (st : Nat) (hlast : ops.size = st + 1) (hb : qsv ops = true) (hl : lastB2 ops st = true)
 (h : ∀ R : Act -> Prop, Hid (∀ a', (∀ w', S w' -> Go.wpOp P ops Q st (fun a'' w'' => Q .normal a'' w'') a' w') -> R a') -> AllS P .any ops S R st ((Array.replicate ops.size false).setIfInBounds st true) a) : (Code.region id ops true).wp P Q a w := by
 refine wp_region_any hm ?_
 obtain ⟨os, hos⟩ : ∃ os, ops[st]? = some os := ⟨_, Array.getElem?_eq_getElem (by omega)⟩
 have hh := h (fun a' => ∀ w', S w' -> Go.wpOp P ops Q st (fun a'' w'' => Q .normal a'' w'') a' w') (xaa fun _ h => h)
 have hac : ∀ i o, ops[i]? = some o -> ∀ e ∈ o.after, Region.binds .any e = true -> e.on < i := fun i o ho e he _ => by
  have h1 := xam hb i (List.mem_range.2 (xag ho).1)
  rw [ho] at h1
  exact of_decide_eq_true (xam h1 e (by simpa using he))
 have hall : ∀ i, i < st -> (∃ e ∈ os.after, Region.binds .any e = true /\ e.on = i) \/ ∃ (j : Nat) (oj : Oper), ops[j]? = some oj /\ (∃ e ∈ os.after, Region.binds .any e = true /\ e.on = j) /\ ∃ e ∈ oj.after, Region.binds .any e = true /\ e.on = i := fun i hi => by
  have h1 := xam hl i (List.mem_range.2 hi)
  rw [hos] at h1
  obtain ⟨e, he, h2⟩ := List.any_eq_true.1 h1
  simp only [Bool.and_eq_true, Bool.or_eq_true, decide_eq_true_eq] at h2
  obtain ⟨h2, h3 | h3⟩ := h2
  ·exact .inl ⟨e, by simpa using he, h2, h3⟩
  ·cases hj : ops[e.on]? with
   | none => rw [hj] at h3; cases h3
   | some oj =>
     rw [hj] at h3
     obtain ⟨e2, he2, h4⟩ := List.any_eq_true.1 h3
     simp only [Bool.and_eq_true, decide_eq_true_eq] at h4
     exact .inr ⟨e.on, oj, hj, ⟨e, by simpa using he, h2, rfl⟩, e2, by simpa using he2, h4.1, h4.2⟩
 have := qks hos hlast hac hall (Q := Q) (S := S) (R := fun a' => ∀ w', S w' -> Go.wpOp P ops Q st (fun a'' w'' => Q .normal a'' w'') a' w') (fun a w hS hR => hR w hS) st (Array.replicate ops.size false) a w.drew (by simp) (by simp [hlast]) (fun j o hj h => by
  by_cases hjs : j < ops.size
  ·simp [hjs] at h
  ·simp [hjs] at h) hh h0
 rw [hlast]
 rw [hlast] at this
 exact this
end
end
section
open Go.Shelf
theorem qbk {F : Fence} {n : Nat} {P : Program} {α : Type} {g : Operand} {ps : Array Tmp} {assign body : Code} {Q : Exit -> Act -> World -> Prop} {a : Act} {w : World}
 (hro : F.round = none) (h1 : 1 <= n) {gf : Nat} {lb : Array Value} (hg : a.eval g = .func (.func gf) #[] lb) (hFg : F.fn gf) (eg : ∀ args w, (callFunc gf args).run P w = .ok (.enter gf args) w)
 {encs : α -> Array Value} (hps : ∀ x, (encs x).size = ps.size) (I : Obj -> List α -> World -> Prop) (Kp : World -> World -> Prop) (S : List α -> Prop) (N : Nat)
 (hloop : ∀ rdy pre W, I rdy pre W -> W.heap[w.heap.size + 1]? = some rdy)
 (hround : ∀ (rdy bsy : Obj) (m : Nat) (pre : List α) (x : α) (W : World), rdy.isCells = false -> bsy.isCells = false -> I rdy pre W -> pre.length < N →
  assign.wpIn (F.inRound (w.heap.size + 1)) m P (Exit.then (fun a1 W1 => W1.heap[w.heap.size + 1]? = some rdy /\ body.wpIn (F.inRound (w.heap.size + 1)) m P (fun e _ W3 => e = .normal /\ W3.heap[w.heap.size + 1]? = some bsy /\ I rdy (pre ++ [x]) (W3.putObj (w.heap.size + 1) rdy) /\ Kp W (W3.putObj (w.heap.size + 1) rdy)) a1 (W1.putObj (w.heap.size + 1) bsy)) (fun _ _ _ => False))
   { tmps := (ps.zip (encs x)).foldl (fun t (p, v) => t.setIfInBounds p v) a.tmps, defers := [] } W)
 (hiter : ∀ rdy : Obj, rdy.isCells = false -> (∀ (m : Nat) (pre : List α) (x : α) (W : World), I rdy pre W -> pre.length < N -> YieldAt F m P (w.heap.size + 1) (encs x) W fun e W' => e = .returned (.bool true) /\ I rdy (pre ++ [x]) W' /\ Kp W W') →
  CallsIn F (n - 1) P gf (#[.func (.yield (w.heap.size + 1)) #[] #[]] ++ lb) ((w.alloc (.deferred (some []))).alloc rdy) fun e W' => (∃ v, e = .returned v) /\ ∃ xs, S xs /\ I rdy xs W')
 (hdone : ∀ (rdy exh : Obj) (xs : List α) (W : World), rdy.isCells = false -> exh.isCells = false -> S xs -> I rdy xs W -> Q .normal { a with defers := { target := .collected w.heap.size, args := #[] } :: a.defers } (W.putObj (w.heap.size + 1) exh)) :
 (Code.rangeFunc g ps assign body).wpIn F n P Q a w := by
 refine wpIn_rangeFunc ?_
 intro fn hfn
 rw [hro]
 obtain ⟨rec, hrec⟩ : ∃ rec : LoopState -> Loop, rec = fun st => { state := st, pending := none, fn, tmps := a.tmps, params := ps, assign, body, defers := w.heap.size } := ⟨_, rfl⟩
 refine ⟨w.heap.size + 1, [{ target := .collected w.heap.size, args := #[] }], (w.alloc (.deferred (some []))).alloc (.loop (rec .ready)), { target := .fn (.func gf) lb, args := #[.func (.yield (w.heap.size + 1)) #[] #[]] }, (w.alloc (.deferred (some []))).alloc (.loop (rec .ready)), gf,
  #[.func (.yield (w.heap.size + 1)) #[] #[]] ++ lb, (w.alloc (.deferred (some []))).alloc (.loop (rec .ready)), ?_, ?_, ?_, ?_, fun _ => h1, ?_⟩
 ·rw [hrec]; exact run_enterLoop_outer _ _ _ _ _
 ·simp only [resolve, hg]
  simp [go_sem]
 ·intro f' hf'; simp [Target.leads] at hf'; subst hf'; exact hFg
 ·simp [invoke, go_sem, eg]
 ·refine (hiter (.loop (rec .ready)) rfl ?_).mono ?_
  ·intro m pre x W hI hN
   have hl := hloop _ _ _ hI
   have hy := run_yield (P := P) (args := encs x) hl (by rw [hrec]; exact hps x)
   rw [hrec] at hy
   refine ⟨fn, _, assign, body, hy, roundIn_of_wpIn hfn (wpIn_mono (hround (.loop (rec .ready)) (.loop (rec .busy)) m pre x W rfl rfl hI hN) ?_)⟩
   rintro e a1 W1 hp
   cases e with
   | normal =>
     obtain ⟨hl1, hb⟩ := hp
     refine ⟨_, run_beginRound hl1 (by rw [hrec]), ?_⟩
     have e1 : ({ rec .ready with state := .busy } : Loop) = rec .busy := by rw [hrec]
     rw [e1]
     refine wpIn_mono hb ?_
     rintro e a3 W3 ⟨rfl, hl3, hI3, hK3⟩
     have hr := run_endRound (P := P) none hl3
     have e2 : ({ rec .busy with state := if (none : Option Code).isNone then .ready else .done, pending := none } : Loop) = rec .ready := by rw [hrec]; rfl
     rw [e2] at hr
     exact ⟨_, _, hr, rfl, hI3, hK3⟩
   | ret => exact hp.elim
   | exit id => exact hp.elim
   | goto t => exact hp.elim
   | panic ch => exact hp.elim
   | outgrown => exact hp.elim
  ·rintro e W2 ⟨⟨v, rfl⟩, xs, hS, hI⟩
   have hl := hloop _ _ _ hI
   exact ⟨none, _, by have := run_endLoop (P := P) hl (by rw [hrec]; simp); rw [hrec] at this; exact this, hdone _ _ xs _ rfl rfl hS hI⟩
end
section
open Go.Shelf
section
variable {F : Fence} {n : Nat} {P : Program} {ops : Array Oper} {Q : Exit -> Act -> World -> Prop} {a : Act} {w : World} {rest : List Oper} {o o1 o2 : Oper}
theorem wpIn_val (hF : ∀ f, F.fn f) (hd : ∀ c, o.op ≠ .defer c) {v : Value} {w' : World} {K : Act -> World -> Prop} (hrun : (execOp a.eval o).run P w = .ok (.value v) w') (h : K (a.put o.dst v) w') : o.wpIn F n P a w K Q := by
 unfold Oper.wpIn
 rw [Oper.semAt_eq _ _ _ hd, hrun]
 exact ⟨fun f _ => hF f, h⟩
theorem wpListIn_val (hF : ∀ f, F.fn f) (hd : ∀ c, o.op ≠ .defer c) (hg : o.guard = none) (dst : Option Tmp) (hdst : o.dst = dst) (v : Value) (w' : World) (hrun : (execOp a.eval o).run P w = .ok (.value v) w')
 (h : wpListIn F n P ops Q rest (a.put dst v) w') : wpListIn F n P ops Q (o :: rest) a w := by
 subst hdst
 exact wpListIn_plain hg fun K hK => wpIn_val hF hd hrun (hK _ _ h)
theorem wpIn_skp (hF : ∀ f, F.fn f) (hd : ∀ c, o.op ≠ .defer c) {w' : World} {K : Act -> World -> Prop} (hrun : (execOp a.eval o).run P w = .ok .skip w') (h : K (a.put o.dst undef) w') : o.wpIn F n P a w K Q := by
 unfold Oper.wpIn
 rw [Oper.semAt_eq _ _ _ hd, hrun]
 exact ⟨fun f _ => hF f, h⟩
theorem wpListIn_skp (hF : ∀ f, F.fn f) (hd : ∀ c, o.op ≠ .defer c) (hg : o.guard = none) (hdst : o.dst = none) (w' : World) (hrun : (execOp a.eval o).run P w = .ok .skip w')
 (h : wpListIn F n P ops Q rest a w') : wpListIn F n P ops Q (o :: rest) a w :=
 wpListIn_plain hg fun K hK => wpIn_skp hF hd hrun (hK _ _ (by rw [hdst]; exact h))
theorem run_op_new (ty : TypeId) (ho : o.op = .alloc ty) (z : Array Value) (hal : ∀ w, (Instr.alloc ty true (.tuple #[])).run P w = .ok (.pointer (some ⟨w.heap.size, 0, none⟩)) (w.alloc (.cells z ty))) :
 (execOp a.eval o).run P w = .ok (.value (.pointer (some ⟨w.heap.size, 0, none⟩))) (w.alloc (.cells z ty)) := by
 unfold execOp
 simp only [ho, Sem.run_bind, hal, Sem.run_pure, Result.andThen_ok]
theorem run_op_store (ty : TypeId) (x y : Operand) (ho : o.op = .store ty x y) (g off : Nat) (hx : a.eval x = .pointer (some ⟨g, off, none⟩)) (cs : Array Value) (hy : a.eval y = .agg cs)
 (t : TypeId) (old : Array Value) (hB : Blk w g t old) (hi : (P.info? ty).map (·.size) = some cs.size) (hold : off + cs.size <= old.size) (h1 : cs.all (·.oneCell') = true) :
 (execOp a.eval o).run P w = .ok .skip (w.setRow g (spl old off cs.toList)) := by
 have hrun := qap (P := P) g off t cs.toList 0 old w hB (by simpa using hold) (fun v hv => (Array.all_eq_true_iff_forall_mem.1 h1) v (by simpa using hv))
 rw [Nat.add_zero] at hrun
 have hv : (storeVar ty ⟨g, off, none⟩ (.agg cs)).run P w = .ok () (w.setRow g (spl old off cs.toList)) := by
  cases hq : P.info? ty with
  | none => simp [hq] at hi
  | some i =>
    have hs : cs.size = i.size := by simp [hq] at hi; omega
    simp [storeVar, sizeOf, typeInfo, hq, Value.cells, hs, hrun]
 unfold execOp
 simp only [ho, hx, hy, Instr.storeAt, Instr.sureAddr, Sem.run_bind, Sem.run_pure, Result.andThen_ok, hv]
theorem wpListIn_newS (hF : ∀ f, F.fn f) (hg1 : o1.guard = none) (hg2 : o2.guard = none) (ty : TypeId) (D : Tmp) (hd1 : o1.dst = some D) (ho1 : o1.op = .alloc ty) (y : Operand) (ho2 : o2.op = .store ty (.tmp D) y) (hd2 : o2.dst = none)
 (z : Array Value) (hal : ∀ w, (Instr.alloc ty true (.tuple #[])).run P w = .ok (.pointer (some ⟨w.heap.size, 0, none⟩)) (w.alloc (.cells z ty)))
 (cs : Array Value) (hx : ∀ v, (a.put (some D) v).eval (.tmp D) = v) (hy : ∀ v, (a.put (some D) v).eval y = .agg cs)
 (hi : (P.info? ty).map (·.size) = some cs.size) (hold : z.size = cs.size) (h1 : cs.all (·.oneCell') = true)
 (h : ∀ w', Below w.heap.size w w' -> KeepsOthers w w' -> Blk w' w.heap.size ty cs -> wpListIn F n P ops Q rest (a.put (some D) (.pointer (some ⟨w.heap.size, 0, none⟩))) w') : wpListIn F n P ops Q (o1 :: o2 :: rest) a w := by
 refine wpListIn_val hF (by rw [ho1]; intro c hc; cases hc) hg1 _ hd1 _ _ (run_op_new ty ho1 z hal) ?_
 refine wpListIn_skp hF (by rw [ho2]; intro c hc; cases hc) hg2 hd2 _ (run_op_store ty (.tmp D) y ho2 w.heap.size 0 (hx _) cs (hy _) ty z (Blk.new w ty z) hi (by omega) h1) ?_
 have B := setRow_heap (w.alloc (.cells z ty)) w.heap.size z (spl z 0 cs.toList) ty (0, 0) (Blk.new w ty z)
 have e : spl z 0 cs.toList = cs := by
  have hzl : z.toList.length <= 0 + cs.toList.length := by simp; omega
  unfold spl
  rw [List.take_zero, List.nil_append, List.drop_of_length_le hzl, List.append_nil, Array.toArray_toList]
 rw [e] at B |-
 have m := qai (w.alloc (.cells z ty)) w.heap.size cs
 have b1 := xar w (.cells z ty)
 refine h _ (b1.trans (m.below b1.size (fun k hk => by omega))) ?_ B
 refine (KeepsOthers.alloc w _).trans ⟨m.size, fun k o' hk ho => ?_⟩
 by_cases e : k = w.heap.size
 ·subst e
  have := (Blk.new w ty z)
  rw [show (w.alloc (.cells z ty)).heap[w.heap.size]? = _ from this] at hk
  cases hk
  cases ho
 ·rw [m.block k (xag hk).1 e]
  exact hk
end
end
section
section
variable {P : Program} {ops : Array Oper} {Q : Exit -> Act -> World -> Prop} {S : World -> Prop} {Φ : Nat -> Value -> World -> Prop}
def putS (listed : Nat -> Bool) : List Oper -> Nat -> (Nat -> Value) -> Act -> Act
 | [], _, _, a => a
 | o :: l, k, us, a => putS listed l (k + 1) us (if listed k then a.put o.dst (us k) else a)
def qae : List Oper -> Nat -> (Nat -> Value) -> Act -> Act
 | [], _, _, a => a
 | o :: l, k, us, a => qae l (k + 1) us (a.put o.dst (us k))
theorem qd7 {listed : Nat -> Bool} : ∀ (l : List Oper) (k : Nat) (us : Nat -> Value) (a : Act), (∀ m, k <= m -> m < k + l.length -> listed m = true) -> putS listed l k us a = qae l k us a
 | [], _, _, _, _ => rfl
 | o :: l, k, us, a, h => by
   rw [putS, qae, if_pos (h k (xat) (by simp))]
   exact qd7 l (k + 1) us _ fun m h1 h2 => h m (by omega) (by simp at h2 |-; omega)
theorem qcu {listed : Nat -> Bool} : ∀ (l : List Oper) (k : Nat) (us : Nat -> Value) (a : Act), (∀ m, listed m = false) -> putS listed l k us a = a
 | [], _, _, _, _ => rfl
 | o :: l, k, us, a, h => by
   rw [putS, h k]
   exact qcu l (k + 1) us a h
theorem qma {listed : Nat -> Bool} {d : Option Tmp} {u : Value} : ∀ (l : List Oper) (k : Nat) (us : Nat -> Value) (a : Act), (∀ o ∈ l, ∀ e, d = some e -> o.dst ≠ some e) -> putS listed l k us (a.put d u) = (putS listed l k us a).put d u
 | [], _, _, _, _ => rfl
 | o :: l, k, us, a, h => by
   rw [putS, putS]
   have h1 := h o (List.mem_cons_self ..)
   have ih := fun a => qma (listed := listed) (d := d) (u := u) l (k + 1) us a fun o ho => h o (List.mem_cons_of_mem _ ho)
   split
   ·rw [Act.put_comm a u (us k) h1, ih]
   ·exact ih a
def qf0 (listed : Nat -> Bool) (i j : Nat) : Bool := if j = i then true else listed j
def qkn (us : Nat -> Value) (i : Nat) (u : Value) (j : Nat) : Value := if j = i then u else us j
theorem qbe (listed : Nat -> Bool) (i : Nat) : qf0 listed i i = true := if_pos rfl
theorem qaj (listed : Nat -> Bool) {i j : Nat} (h : j ≠ i) : qf0 listed i j = listed j := if_neg h
theorem qb9 (us : Nat -> Value) (i : Nat) (u : Value) : qkn us i u i = u := if_pos rfl
theorem qa3 (us : Nat -> Value) {i j : Nat} (u : Value) (h : j ≠ i) : qkn us i u j = us j := if_neg h
theorem qhe {listed : Nat -> Bool} {i : Nat} {u : Value} : ∀ (l : List Oper) (k : Nat) (us : Nat -> Value) (a : Act), i < k -> putS (qf0 listed i) l k (qkn us i u) a = putS listed l k us a
 | [], _, _, _, _ => rfl
 | o :: l, k, us, a, h => by
   rw [putS, putS, qaj _ (by omega), qa3 _ _ (by omega)]
   exact qhe l (k + 1) us _ (by omega)
def Dist (l : List Oper) : Prop := l.Pairwise fun x y => ∀ e, x.dst = some e -> y.dst ≠ some e
theorem qf5 {listed : Nat -> Bool} {i : Nat} {u : Value} {oi : Oper} (hi : listed i = false) : ∀ (l : List Oper) (k : Nat) (us : Nat -> Value) (a : Act), k <= i -> l[i - k]? = some oi -> Dist l -> putS (qf0 listed i) l k (qkn us i u) a = (putS listed l k us a).put oi.dst u
 | [], _, _, _, _, h, _ => by simp at h
 | o :: l, k, us, a, hk, h, hd => by
   obtain ⟨h1, h2⟩ := List.pairwise_cons.1 hd
   by_cases e : i = k
   ·subst e
    rw [Nat.sub_self] at h
    obtain rfl : o = oi := by simpa using h
    rw [putS, putS, hi, qbe, qb9]
    simp only [if_true, Bool.false_eq_true, if_false]
    rw [qhe l (i + 1) us _ (by omega), qma l (i + 1) us a fun x hx e he => h1 x hx e he]
   ·rw [putS, putS, qaj _ (fun h => e h.symm), qa3 _ _ (fun h => e h.symm)]
    refine qf5 hi l (k + 1) us _ (by omega) ?_ h2
    rw [show i - k = (i - (k + 1)) + 1 by omega] at h
    simpa using h
structure SameTo (ops : Array Oper) (o : Oper) (a b : Act) : Prop where
 size : a.tmps.size = b.tmps.size
 at_ : ∀ d ∈ o.looksAt ops, a.tmps[d]? = b.tmps[d]?
theorem SameTo.put {o : Oper} {a b : Act} (h : SameTo ops o a b) (d : Option Tmp) (u : Value) : SameTo ops o (a.put d u) (b.put d u) := by
 cases d with
 | none => exact h
 | some d =>
   refine ⟨by simp [Act.put, h.size], fun e he => ?_⟩
   simp only [Act.put, Array.getElem?_setIfInBounds]
   rw [h.size, h.at_ e he]
theorem SameTo.right {o : Oper} {a b : Act} (h : SameTo ops o a b) {d : Option Tmp} (u : Value) (hd : ∀ e, d = some e -> e ∉ o.looksAt ops) : SameTo ops o a (b.put d u) := by
 cases d with
 | none => exact h
 | some d =>
   refine ⟨by simp [Act.put, h.size], fun e he => ?_⟩
   have hne : d ≠ e := fun x => hd d rfl (x ▸ he)
   simp only [Act.put, Array.getElem?_setIfInBounds_ne hne]
   exact h.at_ e he
theorem qcp {listed : Nat -> Bool} {o : Oper} {us : Nat -> Value} : ∀ (l : List Oper) (k : Nat) (a b : Act), SameTo ops o a b -> (∀ m o', l[m]? = some o' -> listed (k + m) = false -> ∀ e, o'.dst = some e -> e ∉ o.looksAt ops) -> SameTo ops o (putS listed l k us a) (qae l k us b)
 | [], _, _, _, h, _ => h
 | x :: l, k, a, b, h, hn => by
   rw [putS, qae]
   refine qcp l (k + 1) _ _ ?_ fun m o' ho hm => hn (m + 1) o' (by simpa using ho) (by rw [show k + (m + 1) = k + 1 + m by omega]; exact hm)
   cases hk : listed k with
   | true => exact h.put _ _
   | false => exact h.right _ (hn 0 x rfl hk)
theorem SameTo.exec {o : Oper} {a b : Act} (h : SameTo ops o a b) (hs : ∀ cs c, o.op ≠ .select cs c) : execOp a.eval o = execOp b.eval o :=
 execOp_congr o hs fun x hx => by
  cases x with
  | tmp t =>
    have := h.at_ t (List.mem_append_left _ (List.mem_filterMap.2 ⟨.tmp t, by simpa using hx, rfl⟩))
    simp [Act.eval, this]
  | _ => rfl
theorem SameTo.wanted {o : Oper} {a b : Act} (h : SameTo ops o a b) : Region.wanted o (yielded ops a.tmps) = Region.wanted o (yielded ops b.tmps) := by
 unfold Region.wanted
 cases hg : o.guard with
 | none => rfl
 | some gw =>
   obtain ⟨g, want⟩ := gw
   have hy : yielded ops a.tmps g = yielded ops b.tmps g := by
    unfold yielded
    cases ht : (ops[g]?).bind (·.dst) with
    | none => rfl
    | some t =>
      have := h.at_ t (by simp [Oper.looksAt, hg, ht])
      simp [this]
   simp only [hy]
def GivesP (P : Program) (Φ : Nat -> Value -> World -> Prop) (i : Nat) (w : World) (r : Result Next) : Prop :=
 (∃ u w', r = .ok (.value u) w' /\ Below w.heap.size w w' /\ Φ i u w') ∨
 (∃ f args, r = .ok (.enter f args) w /\ Calls P f args w fun e w' => ∃ u, e = .returned u /\ Below w.heap.size w w' /\ Φ i u w')
def qi1 (P : Program) (ops : Array Oper) (Φ : Nat -> Value -> World -> Prop) (i : Nat) (o : Oper) (a : Act) (w : World) : Prop :=
 (Region.wanted o (yielded ops a.tmps) = true /\ GivesP P Φ i w ((execOp a.eval o).run P w)) \/ (Region.wanted o (yielded ops a.tmps) = false /\ Φ i undef w)
theorem qi1.step {i : Nat} {o : Oper} {a : Act} {K : Act -> World -> Prop} {w : World} (hi : ops[i]? = some o) (hy : qi1 P ops Φ i o a w)
 (h : ∀ u w', Below w.heap.size w w' -> Φ i u w' -> K (a.put o.dst u) w') : Go.wpOp P ops Q i K a w := by
 unfold Go.wpOp
 simp only [hi]
 rcases hy with ⟨hw, ⟨u, w', hr, hb, hp⟩ | ⟨f, args, hr, hc⟩⟩ | ⟨hw, hp⟩
 ·rw [if_pos hw]
  left
  simp only [Oper.wp, hr, Oper.upon]
  exact h u w' hb hp
 ·rw [if_pos hw]
  left
  simp only [Oper.wp, hr, Oper.upon]
  refine Calls.mono hc ?_
  rintro e w'' ⟨u, rfl, hb, hp⟩
  exact h u w'' hb hp
 ·rw [if_neg (by simp [hw])]
  exact h undef w (xas) hp
def waits (ops : Array Oper) (i j : Nat) : Bool := match ops[i]? with
 | some o => o.after.toList.any fun e => Region.binds .any e && e.on == j
 | none => false
def qol (ops : Array Oper) : Bool := decide ((ops.toList.filterMap (·.dst)).Nodup)
def qhj (ops : Array Oper) : Bool := (List.range ops.size).all fun i => (List.range ops.size).all fun j => match ops[i]?, ops[j]? with
 | some o, some o' => (match o'.dst with | some d => !(o.looksAt ops).contains d || waits ops i j | none => true)
 | _, _ => true
theorem qeu : ∀ {l : List Oper}, (l.filterMap (·.dst)).Nodup -> Dist l
 | [], _ => List.Pairwise.nil
 | o :: l, h => by
   refine List.pairwise_cons.2 ⟨fun y hy e he hye => ?_, ?_⟩
   ·rw [List.filterMap_cons, he] at h
    exact (List.nodup_cons.1 h).1 (List.mem_filterMap.2 ⟨y, hy, hye⟩)
   ·rw [List.filterMap_cons] at h
    split at h
    ·exact qeu h
    ·exact qeu (List.nodup_cons.1 h).2
def unl (listed : Array Bool) (n : Nat) : Nat := (List.range n).countP fun j => !listed.getD j true
theorem qff {listed : Array Bool} {n : Nat} (h : unl listed n = 0) : ∀ j, j < n -> listed.getD j true = true := fun j hj => by
 have := List.countP_eq_zero.1 h j (List.mem_range.2 hj)
 simpa using this
theorem qhq {p q : Nat -> Bool} {i : Nat} (hp : p i = true) (hq : q i = false) (hs : ∀ j, j ≠ i -> q j = p j) : ∀ L : List Nat, L.Nodup -> L.countP q + (if i ∈ L then 1 else 0) = L.countP p
 | [], _ => rfl
 | x :: L, h => by
   obtain ⟨h1, h2⟩ := List.nodup_cons.1 h
   have ih := qhq hp hq hs L h2
   rw [List.countP_cons, List.countP_cons]
   by_cases e : x = i
   ·subst e
    rw [if_neg h1] at ih
    simp [hp, hq]
    omega
   ·rw [hs x e]
    have : (i ∈ x :: L) ↔ i ∈ L := by
     rw [List.mem_cons]
     exact ⟨fun h => h.resolve_left fun h => e h.symm, .inr⟩
    simp only [this]
    omega
theorem qh3 {listed : Array Bool} {n i : Nat} (hi : i < n) (hs : listed.size = n) (h : listed.getD i true = false) : unl (listed.setIfInBounds i true) n + 1 = unl listed n := by
 have := qhq (p := fun j => !listed.getD j true) (q := fun j => !(listed.setIfInBounds i true).getD j true) (i := i) (by simp at h |-; exact h) (by simp [hs, hi]) (fun j hj => by simp only [getD_set_ne true (Ne.symm hj)]) (List.range n) List.nodup_range
 rw [if_pos (List.mem_range.2 hi)] at this
 exact this
theorem qnx (hS : ∀ w w', S w -> Below w.heap.size w w' -> S w') (hΦ : ∀ j u w w', Φ j u w -> Below w.heap.size w w' -> Φ j u w') {a : Act}
 (hd : Dist ops.toList) (hlk : ∀ i o j o' d, ops[i]? = some o -> ops[j]? = some o' -> o'.dst = some d -> d ∈ o.looksAt ops -> waits ops i j = true)
 (hac : ∀ i o, ops[i]? = some o -> ∀ e ∈ o.after, Region.binds .any e = true -> e.on < i) (hsel : ∀ (j : Nat) (o : Oper) cs b, ops[j]? = some o -> o.op ≠ .select cs b)
 (hstep : ∀ i o, ops[i]? = some o -> ∀ us w, S w -> (∀ j, waits ops i j = true -> Φ j (us j) w) -> qi1 P ops Φ i o (qae ops.toList 0 us a) w)
 (hdone : ∀ us w, S w -> (∀ j, j < ops.size -> Φ j (us j) w) -> Q .normal (qae ops.toList 0 us a) w) :
 ∀ (fuel : Nat) (listed : Array Bool) (us : Nat -> Value) (w : World), listed.size = ops.size -> unl listed ops.size <= fuel -> S w -> (∀ j, listed.getD j false = true -> Φ j (us j) w) -> wpAny P .any ops Q fuel listed (putS (fun j => listed.getD j false) ops.toList 0 us a) w := by
 have hall : ∀ (listed : Array Bool) (us : Nat -> Value) (w : World), listed.size = ops.size -> (∀ j, j < ops.size -> listed.getD j true = true) -> S w -> (∀ j, listed.getD j false = true -> Φ j (us j) w) -> Q .normal (putS (fun j => listed.getD j false) ops.toList 0 us a) w := by
  intro listed us w hs hl hw hp
  have hl2 : ∀ j, j < ops.size -> listed.getD j false = true := fun j hj => by
   have h1 : j < listed.size := by omega
   have := hl j hj
   simp [h1] at this |-
   exact this
  rw [qd7 _ _ _ _ fun m _ h => hl2 m (by simpa using h)]
  exact hdone us w hw fun j hj => hp j (hl2 j hj)
 intro fuel
 induction fuel with
 | zero =>
   intro listed us w hs hu hw hp
   have hz := qff (Nat.le_zero.1 hu)
   refine ⟨?_, hall listed us w hs hz hw hp⟩
   rw [List.eq_nil_iff_forall_not_mem]
   intro j hj
   obtain ⟨h1, o, ho, _⟩ := mem_ready.1 hj
   have := hz j (xag ho).1
   rw [h1] at this
   cases this
 | succ fuel ih =>
   intro listed us w hs hu hw hp
   refine ⟨fun h0 => hall listed us w hs (fun j _ => ?_) hw hp, fun i hi => ?_⟩
   ·cases hj : listed.getD j true with
    | true => rfl
    | false => exact absurd h0 (qag hac hs j hj)
   ·obtain ⟨h1, o, ho, hdep⟩ := mem_ready.1 hi
    have hin : i < ops.size := (xag ho).1
    have h1f : listed.getD i false = false := by
     have : i < listed.size := by omega
     simp [this] at h1 |-
     exact h1
    have hw2 : ∀ j, waits ops i j = true -> listed.getD j false = true := fun j hj => by
     unfold waits at hj
     rw [ho] at hj
     obtain ⟨e, he, hb⟩ := List.any_eq_true.1 hj
     simp only [Bool.and_eq_true, beq_iff_eq] at hb
     rw [<- hb.2]
     exact hdep e (by simpa using he) hb.1
    have hst := hstep i o ho us w hw fun j hj => hp j (hw2 j hj)
    have hsame : SameTo ops o (putS (fun j => listed.getD j false) ops.toList 0 us a) (qae ops.toList 0 us a) := by
     refine qcp _ 0 _ _ ⟨rfl, fun _ _ => rfl⟩ fun m o' ho' hm e he hle => ?_
     rw [Nat.zero_add] at hm
     have := hw2 m (hlk i o m o' e ho (by simpa using ho') he hle)
     rw [hm] at this
     cases this
    have hst2 : qi1 P ops Φ i o (putS (fun j => listed.getD j false) ops.toList 0 us a) w := by
     unfold qi1 at hst |-
     rw [hsame.exec (hsel i o · · ho), hsame.wanted]
     exact hst
    refine hst2.step ho fun u w' hb hpi => ?_
    have e1 : (fun j => (listed.setIfInBounds i true).getD j false) = qf0 (fun j => listed.getD j false) i := by
     funext j
     unfold qf0
     by_cases e : j = i
     ·subst e
      have : j < listed.size := by omega
      simp [this]
     ·rw [if_neg e, getD_set_ne false (Ne.symm e)]
    have hput := qf5 (u := u) (listed := fun j => listed.getD j false) h1f ops.toList 0 us a (Nat.zero_le _) (by simpa using ho) hd
    rw [<- hput, <- e1]
    refine ih _ _ w' (by simpa using hs) (by have := qh3 hin hs h1; omega) (hS w w' hw hb) fun j hj => ?_
    unfold qkn
    by_cases e : j = i
    ·subst e
     rw [if_pos rfl]
     exact hpi
    ·rw [if_neg e]
     rw [getD_set_ne false (Ne.symm e)] at hj
     exact hΦ _ _ _ _ (hp j hj) hb
theorem ql6 {id : Nat} {a : Act} {w : World} (hm : P.follows .mixedOrders = true) (S : World -> Prop) (hS : ∀ w w', S w -> Below w.heap.size w w' -> S w') (Φ : Nat -> Value -> World -> Prop) (hΦ : ∀ j u w w', Φ j u w -> Below w.heap.size w w' -> Φ j u w') (h0 : S w.drew)
 (hd : qol ops = true) (hlk : qhj ops = true) (hb : qsv ops = true) (hs : Region.noSelect ops = true)
 (hstep : ∀ us w, S w -> ∀ i o, ops[i]? = some o -> (∀ j, waits ops i j = true -> Φ j (us j) w) -> qi1 P ops Φ i o (qae ops.toList 0 us a) w)
 (hdone : ∀ us w, S w -> (∀ j, j < ops.size -> Φ j (us j) w) -> Q .normal (qae ops.toList 0 us a) w) : (Code.region id ops true).wp P Q a w := by
 refine wp_region_any hm ?_
 have hac : ∀ i o, ops[i]? = some o -> ∀ e ∈ o.after, Region.binds .any e = true -> e.on < i := fun i o ho e he _ => by
  have h1 := xam hb i (List.mem_range.2 (xag ho).1)
  rw [ho] at h1
  exact of_decide_eq_true (xam h1 e (by simpa using he))
 have hl : ∀ i o j o' d, ops[i]? = some o -> ops[j]? = some o' -> o'.dst = some d -> d ∈ o.looksAt ops -> waits ops i j = true := fun i o j o' d ho ho' hd' hx => by
  have h1 := xam (xam hlk i (List.mem_range.2 (xag ho).1)) j (List.mem_range.2 (xag ho').1)
  simp only [ho, ho', hd'] at h1
  simpa [hx] using h1
 have := qnx (P := P) (Q := Q) (a := a) hS hΦ (qeu (of_decide_eq_true hd)) hl hac (Region.noSelect_spec hs) (fun i o ho us w hw hx => hstep us w hw i o ho hx) hdone ops.size (Array.replicate ops.size false) (fun _ => undef) w.drew (by simp) (xau List.countP_le_length (by simp)) h0 (fun j hj => by
  by_cases h : j < ops.size
  ·simp [h] at hj
  ·simp [h] at hj)
 rw [qcu] at this
 ·exact this
 ·intro m
  by_cases h : m < ops.size
  ·simp [h]
  ·simp [h]
end
end
section
open Go.Shelf
theorem qyt (cur : Array Value) (i : Nat) (u : Value) (h : i < cur.size) : spl cur i [u] = cur.setIfInBounds i u := by
 apply Array.ext'
 unfold spl
 rw [Array.toList_setIfInBounds, List.set_eq_take_append_cons_drop, if_pos (by simpa using h)]
 simp
section
variable {P : Program} {a : Act} {w : World} {o : Oper}
theorem qa7 (ty : TypeId) (x y : Operand) (ho : o.op = .store ty x y) (g off : Nat) (hx : a.eval x = .pointer (some ⟨g, off, none⟩)) (u : Value) (hy : a.eval y = u) (hone : u.oneCell' = true) (hcl : u.cells = #[u])
 (hi : (P.info? ty).map (·.size) = some 1) (t : TypeId) (old : Array Value) (hB : Blk w g t old) (hold : off < old.size) :
 (execOp a.eval o).run P w = .ok .skip (w.setRow g (old.setIfInBounds off u)) := by
 have hrun := qap (P := P) g off t [u] 0 old w hB (by simp only [List.length_cons, List.length_nil]; omega) (fun v hv => by rw [List.mem_singleton] at hv; rw [hv]; exact hone)
 rw [Nat.add_zero, qyt old off u hold] at hrun
 have hv : (storeVar ty ⟨g, off, none⟩ u).run P w = .ok () (w.setRow g (old.setIfInBounds off u)) := by
  cases hq : P.info? ty with
  | none => simp [hq] at hi
  | some i =>
    have hs : i.size = 1 := by simpa [hq] using hi
    simp [storeVar, sizeOf, typeInfo, hq, hs, hcl, hrun]
 unfold execOp
 simp only [ho, hx, hy, Instr.storeAt, Instr.sureAddr, Sem.run_bind, Sem.run_pure, Result.andThen_ok, hv]
variable {ops : Array Oper} {Q : Exit -> Act -> World -> Prop} {rest : List Oper}
theorem qna (hg : o.guard = none) (hd : o.dst = none) (w' : World) (hrun : (execOp a.eval o).run P w = .ok .skip w') (h : wpList P ops Q rest a w') : wpList P ops Q (o :: rest) a w := by
 refine wpList_plain hg fun K hK => ?_
 unfold Oper.wp
 rw [hrun]
 show K (a.put o.dst undef) _
 rw [hd]
 exact hK _ _ h
theorem qbr (hg : o.guard = none) (ty : TypeId) (x y : Operand) (ho : o.op = .store ty x y) (hd : o.dst = none) (g off : Nat) (hx : a.eval x = .pointer (some ⟨g, off, none⟩)) (u : Value) (hy : a.eval y = u) (hone : u.oneCell' = true) (hcl : u.cells = #[u])
 (hi : (P.info? ty).map (·.size) = some 1) (t : TypeId) (old : Array Value) (hB : Blk w g t old) (hold : off < old.size)
 (h : ∀ w', Mod (fun k => k = g) w w' -> Blk w' g t (old.setIfInBounds off u) -> wpList P ops Q rest a w') : wpList P ops Q (o :: rest) a w :=
 qna hg hd _ (qa7 ty x y ho g off hx u hy hone hcl hi t old hB hold) (h _ (qai _ _ _) (setRow_heap _ _ _ _ _ _ hB))
end
end
end Go.Proofs.YtmceblkjbpbcoaaGreatDoor
