/- Inside a round of a range over a function: a region that draws its order, of operations that each yield one value in every world that meets S: one order stands for all; and one whose last operation is a store that waits for all others. A range over a function whose rounds run loops of their own. For any layer. No walk. -/
import Derived.Test.YtnoenccpbbkdeaaGK
import Derived.RangeFuncNested
import Derived.RangeFuncBound
import Derived.RangeFuncCalls
import Derived.RangeFuncLeaves
import Derived.RangeFuncBox
import Derived.Shelf.Abstract
import Derived.Shelf.RegionOpen
import Derived.OwnWalkIn
import Derived.TacticsInMore
import Derived.LoopNIn
import Derived.LoopIn
import Derived.Sort.QuietIn
import Derived.Test.YtnoenccpbbkdeaaGE
namespace Go.Proofs.Ytnoenccpbbkdeaa
open Go.ChangeShapes Go.WideShapes Go.ChangeAt Go.RowKit Go.Shelf

section
variable {P : Program} {ops : Array Oper} {Q : Exit → Act → World → Prop} {md : Region.Mode} {S : World → Prop} {R : Act → Prop} {n l : Nat}

def noDeferB (ops : Array Oper) : Bool := ops.toList.all fun o => match o.op with | .defer _ => false | _ => true
theorem noDefer_of (h : noDeferB ops = true) {i : Nat} {o : Oper} (hi : ops[i]? = some o) : ∀ c, o.op ≠ .defer c := fun c hc => by
  have h1 := List.all_eq_true.1 h o (by simpa using Array.mem_of_getElem? hi)
  rw [hc] at h1
  cases h1
theorem KeepsIf.stepIn {i : Nat} {o : Oper} {v : Value} {a : Act} {K : Act → World → Prop} {w : World} (hd : ∀ c, o.op ≠ .defer c) (hi : ops[i]? = some o) (hy : KeepsIf P ops S o v a) (hS : S w)
    (h : ∀ w', S w' → K (a.put o.dst v) w') : wpOpIn (Fence.wide.inRound l) n P ops Q i K a w := by
  unfold wpOpIn
  simp only [hi]
  rcases hy with ⟨hw, hv⟩ | ⟨hw, rfl⟩
  · rw [if_pos hw]
    unfold Oper.wpIn
    rw [Oper.semAt_eq _ _ _ hd]
    refine ⟨fun _ _ => trivial, ?_⟩
    rcases hv w hS with ⟨w', hr, hS'⟩ | ⟨f, args, w', hr, hc⟩
    · rw [hr]
      exact h w' hS'
    · rw [hr]
      rw [Oper.uponIn_enter]
      refine ⟨fun h0 => (by cases h0), CallsIn.inRound l (CallsIn.mono (callsIn_wide.2 hc) ?_)⟩
      rintro e w'' ⟨rfl, hS'⟩
      exact h w'' hS'
  · rw [if_neg (by simp [hw])]
    exact ⟨fun _ _ => trivial, h w hS⟩

theorem AllS.soundIn (hnd : noDeferB ops = true) (hQ : ∀ a w, S w → R a → Q .normal a w) : ∀ (fuel : Nat) (listed : Array Bool) (a : Act) (w : World), AllS P md ops S R fuel listed a → S w → wpAnyIn (Fence.wide.inRound l) n P md ops Q fuel listed a w
  | 0, _, _, w, h, hS => ⟨h.1, hQ _ w hS h.2⟩
  | fuel + 1, _, _, w, h, hS => ⟨fun h0 => hQ _ w hS (h.1 h0), fun i hi => by
    obtain ⟨oi, v, ho, hk, hr⟩ := h.2 i hi
    exact hk.stepIn (noDefer_of hnd ho) ho hS fun w' hS' => AllS.soundIn hnd hQ fuel _ _ w' hr hS'⟩
theorem region_anyIn {id : Nat} {a : Act} {w : World} (hm : P.follows .mixedOrders = true) (S : World → Prop) (h0 : S w.drew) (hnd : noDeferB ops = true)
    (h : ∀ R : Act → Prop, Hid (∀ a', (∀ w', S w' → Q .normal a' w') → R a') → AllS P .any ops S R ops.size (Array.replicate ops.size false) a) : (Code.region id ops true).wpIn (Fence.wide.inRound l) n P Q a w :=
  wpIn_region_any hm (AllS.soundIn hnd (R := fun a' => ∀ w', S w' → Q .normal a' w') (fun _ w' hS hR => hR w' hS) _ _ _ _ (h _ (Lib.hid fun _ h => h)) h0)

theorem tail_soundIn (hnd : noDeferB ops = true) {st : Nat} {os : Oper} (hst : ops[st]? = some os) (hlast : ops.size = st + 1)
    (hac : ∀ i o, ops[i]? = some o → ∀ e ∈ o.after, Region.binds md e = true → e.on < i)
    (hall : ∀ i, i < st → ∃ e ∈ os.after, Region.binds md e = true ∧ e.on = i)
    (hQ : ∀ a w, S w → R a → wpOpIn (Fence.wide.inRound l) n P ops Q st (fun a' w' => Q .normal a' w') a w) :
    ∀ (fuel : Nat) (listed : Array Bool) (a : Act) (w : World), listed.size = ops.size → listed.getD st true = false →
      AllS P md ops S R fuel (listed.setIfInBounds st true) a → S w → wpAnyIn (Fence.wide.inRound l) n P md ops Q (fuel + 1) listed a w := by
  intro fuel
  induction fuel with
  | zero =>
    intro listed a w hsz hun hA hS
    refine ⟨fun h => absurd h (unlisted_ready hac hsz st hun), fun i hi => ?_⟩
    by_cases e : i = st
    · subst e
      exact wpOpIn_mono (fun a' w' h => ⟨hA.1, h⟩) (hQ a w hS hA.2)
    · have := ready_mono hi e
      rw [hA.1] at this
      cases this
  | succ f ih =>
    intro listed a w hsz hun hA hS
    refine ⟨fun h => absurd h (unlisted_ready hac hsz st hun), fun i hi => ?_⟩
    by_cases e : i = st
    · subst e
      obtain ⟨_, o2, ho2, hl⟩ := mem_ready.1 hi
      rw [hst] at ho2
      injection ho2 with ho2
      subst ho2
      have hnone : Region.ready md ops (listed.setIfInBounds i true) = [] := by
        rw [List.eq_nil_iff_forall_not_mem]
        intro j hj
        obtain ⟨h1, o, ho, _⟩ := mem_ready.1 hj
        have hjs : j < ops.size := (Array.getElem?_eq_some_iff.1 ho).1
        by_cases ej : j = i
        · subst ej
          have hjl : j < listed.size := by omega
          simp [hjl] at h1
        · obtain ⟨ed, hed, hb, hon⟩ := hall j (by omega)
          have h2 := hl ed hed hb
          rw [hon] at h2
          rw [getD_set_ne true (Ne.symm ej)] at h1
          have hjl : j < listed.size := by omega
          simp [hjl] at h1 h2
          rw [h1] at h2
          cases h2
      exact wpOpIn_mono (fun a' w' h => ⟨fun _ => h, fun j hj => by rw [hnone] at hj; cases hj⟩) (hQ a w hS (hA.1 hnone))
    · obtain ⟨oi, v, ho, hk, hr⟩ := hA.2 i (ready_mono hi e)
      refine hk.stepIn (noDefer_of hnd ho) ho hS fun w' hS' => ?_
      refine ih (listed.setIfInBounds i true) _ w' (by simpa using hsz) (by rw [getD_set_ne true e]; exact hun) ?_ hS'
      rw [Array.setIfInBounds_comm _ _ e]
      exact hr
theorem wpOpIn_of {F : Fence} {i : Nat} {o : Oper} {a : Act} {w : World} {K : Act → World → Prop} (hi : ops[i]? = some o) (hg : o.guard = none) (h : o.wpIn F n P a w K Q) : wpOpIn F n P ops Q i K a w := by
  unfold wpOpIn
  simp only [hi]
  rw [if_pos (wanted_none hg _)]
  exact h
/-- THE REGION in a round: the store st last -/
theorem region_tailIn {id : Nat} {a : Act} {w : World} (hm : P.follows .mixedOrders = true) (S : World → Prop) (h0 : S w.drew) (hnd : noDeferB ops = true) (st : Nat) (hlast : ops.size = st + 1) (hb : backB ops = true) (hl : lastB ops st = true)
    (h : ∀ R : Act → Prop, Hid (∀ a', (∀ w', S w' → wpOpIn (Fence.wide.inRound l) n P ops Q st (fun a'' w'' => Q .normal a'' w'') a' w') → R a') → AllS P .any ops S R st ((Array.replicate ops.size false).setIfInBounds st true) a) : (Code.region id ops true).wpIn (Fence.wide.inRound l) n P Q a w := by
  refine wpIn_region_any hm ?_
  obtain ⟨os, hos⟩ : ∃ os, ops[st]? = some os := ⟨_, Array.getElem?_eq_getElem (by omega)⟩
  have hh := h (fun a' => ∀ w', S w' → wpOpIn (Fence.wide.inRound l) n P ops Q st (fun a'' w'' => Q .normal a'' w'') a' w') (Lib.hid fun _ h => h)
  have hac : ∀ i o, ops[i]? = some o → ∀ e ∈ o.after, Region.binds .any e = true → e.on < i := fun i o ho e he _ => by
    have h1 := List.all_eq_true.1 hb i (List.mem_range.2 (Array.getElem?_eq_some_iff.1 ho).1)
    rw [ho] at h1
    exact of_decide_eq_true (List.all_eq_true.1 h1 e (by simpa using he))
  have hall : ∀ i, i < st → ∃ e ∈ os.after, Region.binds .any e = true ∧ e.on = i := fun i hi => by
    have h1 := List.all_eq_true.1 hl i (List.mem_range.2 hi)
    rw [hos] at h1
    obtain ⟨e, he, h2⟩ := List.any_eq_true.1 h1
    simp only [Bool.and_eq_true, decide_eq_true_eq] at h2
    exact ⟨e, by simpa using he, h2⟩
  have := tail_soundIn hnd hos hlast hac hall (Q := Q) (S := S) (R := fun a' => ∀ w', S w' → wpOpIn (Fence.wide.inRound l) n P ops Q st (fun a'' w'' => Q .normal a'' w'') a' w') (fun a w hS hR => hR w hS) st (Array.replicate ops.size false) a w.drew (by simp) (by simp [hlast]) hh h0
  rw [hlast]
  rw [hlast] at this
  exact this
end

/-! ### what a round keeps -/
/-- the blocks of K lie as they lay -/
def KeepB (K : Nat → Prop) (W W' : World) : Prop := ∀ k, K k → W'.heap[k]? = W.heap[k]?
theorem KeepB.refl (K : Nat → Prop) (W : World) : KeepB K W W := fun _ _ => rfl
theorem KeepB.trans {K : Nat → Prop} {X Y Z : World} (h : KeepB K X Y) (k : KeepB K Y Z) : KeepB K X Z := fun i hi => (k i hi).trans (h i hi)
theorem KeepB.obj {K : Nat → Prop} {w : World} (hK : ∀ k, K k → k < w.heap.size) (W : World) (l : Nat) (o o' : Obj) (hl : w.heap.size ≤ l) (_ : W.heap[l]? = some o) (_ : o.isCells = false) (_ : o.isWalk = false) : KeepB K W (W.putObj l o') :=
  fun k hk => World.putObj_heap_other (by have := hK k hk; omega)
theorem KeepB.set_ {K : Nat → Prop} {b : Nat} (hb : ¬ K b) (W : World) (v : Value) : KeepB K W (W.setCell ⟨b, 0, none⟩ v) :=
  fun k hk => Below.heap_setCell _ _ _ k (fun e => hb (by
    have e' : k = b := by first | exact e | exact e.symm
    exact e' ▸ hk))
theorem KeepB.below {K : Nat → Prop} {W W' : World} (b : Below W.heap.size W W') (hK : ∀ k, K k → k < W.heap.size) : KeepB K W W' := fun k hk => b.block k (hK k hk)
theorem grown_of_below {w w' : World} (h : Below w.heap.size w w') : w.grownBy w' none := ⟨h.os, h.tape, h.output, h.size, fun k hk _ => h.block k hk⟩
end Go.Proofs.Ytnoenccpbbkdeaa

/- Inside a round, and at the wide fence: one operation that yields a value, walked by its run; new variables and stores of structs as arms (the generic part of XArOpIn). For any layer. No walk. -/
namespace Go.Proofs.Ytnoenccpbbkdeaa
open Go.ChangeShapes Go.WideShapes Go.ChangeAt Go.RowKit Go.Shelf

section
variable {F : Fence} {n : Nat} {P : Program} {ops : Array Oper} {Q : Exit → Act → World → Prop} {a : Act} {w : World} {rest : List Oper} {o o1 o2 : Oper}

theorem wpIn_val (hF : ∀ f, F.fn f) (hd : ∀ c, o.op ≠ .defer c) {v : Value} {w' : World} {K : Act → World → Prop} (hrun : (execOp a.eval o).run P w = .ok (.value v) w') (h : K (a.put o.dst v) w') : o.wpIn F n P a w K Q := by
  unfold Oper.wpIn
  rw [Oper.semAt_eq _ _ _ hd, hrun]
  exact ⟨fun f _ => hF f, h⟩
theorem wpListIn_val (hF : ∀ f, F.fn f) (hd : ∀ c, o.op ≠ .defer c) (hg : o.guard = none) (dst : Option Tmp) (hdst : o.dst = dst) (v : Value) (w' : World) (hrun : (execOp a.eval o).run P w = .ok (.value v) w')
    (h : wpListIn F n P ops Q rest (a.put dst v) w') : wpListIn F n P ops Q (o :: rest) a w := by
  subst hdst
  exact wpListIn_plain hg fun K hK => wpIn_val hF hd hrun (hK _ _ h)

theorem wpIn_skp (hF : ∀ f, F.fn f) (hd : ∀ c, o.op ≠ .defer c) {w' : World} {K : Act → World → Prop} (hrun : (execOp a.eval o).run P w = .ok .skip w') (h : K (a.put o.dst undef) w') : o.wpIn F n P a w K Q := by
  unfold Oper.wpIn
  rw [Oper.semAt_eq _ _ _ hd, hrun]
  exact ⟨fun f _ => hF f, h⟩
theorem wpListIn_skp (hF : ∀ f, F.fn f) (hd : ∀ c, o.op ≠ .defer c) (hg : o.guard = none) (hdst : o.dst = none) (w' : World) (hrun : (execOp a.eval o).run P w = .ok .skip w')
    (h : wpListIn F n P ops Q rest a w') : wpListIn F n P ops Q (o :: rest) a w :=
  wpListIn_plain hg fun K hK => wpIn_skp hF hd hrun (hK _ _ (by rw [hdst]; exact h))

theorem run_op_new (ty : TypeId) (ho : o.op = .alloc ty) (z : Array Value) (hal : ∀ w, (Instr.alloc ty true (.tuple #[])).run P w = .ok (.pointer (some ⟨w.heap.size, 0, none⟩)) (w.alloc (.cells z ty))) :
    (execOp a.eval o).run P w = .ok (.value (.pointer (some ⟨w.heap.size, 0, none⟩))) (w.alloc (.cells z ty)) := by
  unfold execOp
  simp only [ho, Sem.run_bind, hal, Sem.run_pure, Result.andThen_ok]
theorem run_op_store (ty : TypeId) (x y : Operand) (ho : o.op = .store ty x y) (g off : Nat) (hx : a.eval x = .pointer (some ⟨g, off, none⟩)) (cs : Array Value) (hy : a.eval y = .agg cs)
    (t : TypeId) (old : Array Value) (hB : Blk w g t old) (hi : (P.info? ty).map (·.size) = some cs.size) (hold : off + cs.size ≤ old.size) (h1 : cs.all (·.oneCell') = true) :
    (execOp a.eval o).run P w = .ok .skip (w.setRow g (spl old off cs.toList)) := by
  have hrun := run_storeCells_off (P := P) g off t cs.toList 0 old w hB (by simpa using hold) (fun v hv => (Array.all_eq_true_iff_forall_mem.1 h1) v (by simpa using hv))
  rw [Nat.add_zero] at hrun
  have hv : (storeVar ty ⟨g, off, none⟩ (.agg cs)).run P w = .ok () (w.setRow g (spl old off cs.toList)) := by
    cases hq : P.info? ty with
    | none => simp [hq] at hi
    | some i =>
      have hs : cs.size = i.size := by simp [hq] at hi; omega
      simp [storeVar, sizeOf, typeInfo, hq, Value.cells, hs, hrun]
  unfold execOp
  simp only [ho, hx, hy, Instr.storeAt, Instr.sureAddr, Sem.run_bind, Sem.run_pure, Result.andThen_ok, hv]
/-- a new variable that a struct is stored into at once -/
theorem wpListIn_newS (hF : ∀ f, F.fn f) (hg1 : o1.guard = none) (hg2 : o2.guard = none) (ty : TypeId) (D : Tmp) (hd1 : o1.dst = some D) (ho1 : o1.op = .alloc ty) (y : Operand) (ho2 : o2.op = .store ty (.tmp D) y) (hd2 : o2.dst = none)
    (z : Array Value) (hal : ∀ w, (Instr.alloc ty true (.tuple #[])).run P w = .ok (.pointer (some ⟨w.heap.size, 0, none⟩)) (w.alloc (.cells z ty)))
    (cs : Array Value) (hx : ∀ v, (a.put (some D) v).eval (.tmp D) = v) (hy : ∀ v, (a.put (some D) v).eval y = .agg cs)
    (hi : (P.info? ty).map (·.size) = some cs.size) (hold : z.size = cs.size) (h1 : cs.all (·.oneCell') = true)
    (h : ∀ w', Below w.heap.size w w' → KeepsOthers w w' → Blk w' w.heap.size ty cs → wpListIn F n P ops Q rest (a.put (some D) (.pointer (some ⟨w.heap.size, 0, none⟩))) w') : wpListIn F n P ops Q (o1 :: o2 :: rest) a w := by
  refine wpListIn_val hF (by rw [ho1]; intro c hc; cases hc) hg1 _ hd1 _ _ (run_op_new ty ho1 z hal) ?_
  refine wpListIn_skp hF (by rw [ho2]; intro c hc; cases hc) hg2 hd2 _ (run_op_store ty (.tmp D) y ho2 w.heap.size 0 (hx _) cs (hy _) ty z (Blk.new w ty z) hi (by omega) h1) ?_
  have B := setRow_heap (w.alloc (.cells z ty)) w.heap.size z (spl z 0 cs.toList) ty (0, 0) (Blk.new w ty z)
  have e : spl z 0 cs.toList = cs := by
    have hzl : z.toList.length ≤ 0 + cs.toList.length := by simp; omega
    unfold spl
    rw [List.take_zero, List.nil_append, List.drop_of_length_le hzl, List.append_nil, Array.toArray_toList]
  rw [e] at B ⊢
  have m := mod_setRow (w.alloc (.cells z ty)) w.heap.size cs
  have b1 := below_alloc w (.cells z ty)
  refine h _ (b1.trans (m.below b1.size (fun k hk => by omega))) ?_ B
  refine (KeepsOthers.alloc w _).trans ⟨m.size, fun k o' hk ho => ?_⟩
  by_cases e : k = w.heap.size
  · subst e
    have := (Blk.new w ty z)
    rw [show (w.alloc (.cells z ty)).heap[w.heap.size]? = _ from this] at hk
    cases hk
    cases ho
  · rw [m.block k (Array.getElem?_eq_some_iff.1 hk).1 e]
    exact hk
end
end Go.Proofs.Ytnoenccpbbkdeaa

/- A range over a function whose iterator is known by a contract at THIS loop (its record, its rounds): for iterators that hold loops over functions themselves, or call themselves. The rounds only go on. For any layer. No walk. -/
namespace Go.Proofs.Ytnoenccpbbkdeaa
open Go.ChangeShapes Go.WideShapes Go.ChangeAt Go.RowKit Go.Shelf

theorem rangeFunc_here {F : Fence} {n : Nat} {P : Program} {α : Type} {g : Operand} {ps : Array Tmp} {assign body : Code} {Q : Exit → Act → World → Prop} {a : Act} {w : World}
    (hro : F.round = none) (h1 : 1 ≤ n) {gf : Nat} {lb : Array Value} (hg : a.eval g = .func (.func gf) #[] lb) (hFg : F.fn gf) (eg : ∀ args w, (callFunc gf args).run P w = .ok (.enter gf args) w)
    {encs : α → Array Value} (hps : ∀ x, (encs x).size = ps.size) (I : Obj → List α → World → Prop) (Kp : World → World → Prop) (S : List α → Prop) (N : Nat)
    (hloop : ∀ rdy pre W, I rdy pre W → W.heap[w.heap.size + 1]? = some rdy)
    (hround : ∀ (rdy bsy : Obj) (m : Nat) (pre : List α) (x : α) (W : World), rdy.isCells = false → bsy.isCells = false → I rdy pre W → pre.length < N →
      assign.wpIn (F.inRound (w.heap.size + 1)) m P (Exit.then (fun a1 W1 => W1.heap[w.heap.size + 1]? = some rdy ∧ body.wpIn (F.inRound (w.heap.size + 1)) m P (fun e _ W3 => e = .normal ∧ W3.heap[w.heap.size + 1]? = some bsy ∧ I rdy (pre ++ [x]) (W3.putObj (w.heap.size + 1) rdy) ∧ Kp W (W3.putObj (w.heap.size + 1) rdy)) a1 (W1.putObj (w.heap.size + 1) bsy)) (fun _ _ _ => False))
        { tmps := (ps.zip (encs x)).foldl (fun t (p, v) => t.setIfInBounds p v) a.tmps, defers := [] } W)
    (hiter : ∀ rdy : Obj, rdy.isCells = false → (∀ (m : Nat) (pre : List α) (x : α) (W : World), I rdy pre W → pre.length < N → YieldAt F m P (w.heap.size + 1) (encs x) W fun e W' => e = .returned (.bool true) ∧ I rdy (pre ++ [x]) W' ∧ Kp W W') →
      CallsIn F (n - 1) P gf (#[.func (.yield (w.heap.size + 1)) #[] #[]] ++ lb) ((w.alloc (.deferred (some []))).alloc rdy) fun e W' => (∃ v, e = .returned v) ∧ ∃ xs, S xs ∧ I rdy xs W')
    (hdone : ∀ (rdy exh : Obj) (xs : List α) (W : World), rdy.isCells = false → exh.isCells = false → S xs → I rdy xs W → Q .normal { a with defers := { target := .collected w.heap.size, args := #[] } :: a.defers } (W.putObj (w.heap.size + 1) exh)) :
    (Code.rangeFunc g ps assign body).wpIn F n P Q a w := by
  refine wpIn_rangeFunc ?_
  intro fn hfn
  rw [hro]
  obtain ⟨rec, hrec⟩ : ∃ rec : LoopState → Loop, rec = fun st => { state := st, pending := none, fn, tmps := a.tmps, params := ps, assign, body, defers := w.heap.size } := ⟨_, rfl⟩
  refine ⟨w.heap.size + 1, [{ target := .collected w.heap.size, args := #[] }], (w.alloc (.deferred (some []))).alloc (.loop (rec .ready)), { target := .fn (.func gf) lb, args := #[.func (.yield (w.heap.size + 1)) #[] #[]] }, (w.alloc (.deferred (some []))).alloc (.loop (rec .ready)), gf,
    #[.func (.yield (w.heap.size + 1)) #[] #[]] ++ lb, (w.alloc (.deferred (some []))).alloc (.loop (rec .ready)), ?_, ?_, ?_, ?_, fun _ => h1, ?_⟩
  · rw [hrec]; exact run_enterLoop_outer _ _ _ _ _
  · simp only [resolve, hg]
    simp [go_sem]
  · intro f' hf'; simp [Target.leads] at hf'; subst hf'; exact hFg
  · simp [invoke, go_sem, eg]
  · refine (hiter (.loop (rec .ready)) rfl ?_).mono ?_
    · intro m pre x W hI hN
      have hl := hloop _ _ _ hI
      have hy := run_yield (P := P) (args := encs x) hl (by rw [hrec]; exact hps x)
      rw [hrec] at hy
      refine ⟨fn, _, assign, body, hy, roundIn_of_wpIn hfn (wpIn_mono (hround (.loop (rec .ready)) (.loop (rec .busy)) m pre x W rfl rfl hI hN) ?_)⟩
      rintro e a1 W1 hp
      cases e with
      | normal =>
        obtain ⟨hl1, hb⟩ := hp
        refine ⟨_, run_beginRound hl1 (by rw [hrec]), ?_⟩
        have e1 : ({ rec .ready with state := .busy } : Loop) = rec .busy := by rw [hrec]
        rw [e1]
        refine wpIn_mono hb ?_
        rintro e a3 W3 ⟨rfl, hl3, hI3, hK3⟩
        have hr := run_endRound (P := P) none hl3
        have e2 : ({ rec .busy with state := if (none : Option Code).isNone then .ready else .done, pending := none } : Loop) = rec .ready := by rw [hrec]; rfl
        rw [e2] at hr
        exact ⟨_, _, hr, rfl, hI3, hK3⟩
      | ret => exact hp.elim
      | exit id => exact hp.elim
      | goto t => exact hp.elim
      | panic ch => exact hp.elim
      | outgrown => exact hp.elim
    · rintro e W2 ⟨⟨v, rfl⟩, xs, hS, hI⟩
      have hl := hloop _ _ _ hI
      exact ⟨none, _, by have := run_endLoop (P := P) hl (by rw [hrec]; simp); rw [hrec] at this; exact this, hdone _ _ xs _ rfl rfl hS hI⟩
end Go.Proofs.Ytnoenccpbbkdeaa

/- As XRegK, inside a round of a range over a function. For any layer. No walk. -/
namespace Go.Proofs.Ytnoenccpbbkdeaa
open Go.ChangeShapes Go.WideShapes Go.ChangeAt Go.RowKit Go.Shelf

section
variable {P : Program} {ops : Array Oper} {Q : Exit → Act → World → Prop} {S : World → Prop} {Φ : Nat → Value → World → Prop} {kill : Nat → Nat → Bool} {L N : Nat}

theorem StepK.stepIn {us : Nat → Value} {i : Nat} {o : Oper} {a : Act} {K : Act → World → Prop} {w : World} (hd : ∀ c, o.op ≠ .defer c) (hi : ops[i]? = some o) (hS : S w) (hy : StepK P ops S Φ kill us i o a w)
    (h : ∀ u w', S w' → Φ i u w' → (∀ j, j ≠ i → kill i j = false → Φ j (us j) w → Φ j (us j) w') → K (a.put o.dst u) w') : wpOpIn (Fence.wide.inRound L) N P ops Q i K a w := by
  unfold wpOpIn
  simp only [hi]
  rcases hy with ⟨hw, hv⟩ | ⟨hw, hp⟩
  · rw [if_pos hw]
    unfold Oper.wpIn
    rw [Oper.semAt_eq _ _ _ hd]
    refine ⟨fun _ _ => trivial, ?_⟩
    rcases hv with ⟨u, w', hr, h1, h2, h3⟩ | ⟨f, args, hr, hc⟩
    · rw [hr]
      exact h u w' h1 h2 h3
    · rw [hr]
      rw [Oper.uponIn_enter]
      refine ⟨fun h0 => (by cases h0), CallsIn.inRound L (CallsIn.mono (callsIn_wide.2 hc) ?_)⟩
      rintro e w'' ⟨u, rfl, h1, h2, h3⟩
      exact h u w'' h1 h2 h3
  · rw [if_neg (by simp [hw])]
    exact ⟨fun _ _ => trivial, h undef w hS hp fun _ _ _ h => h⟩

theorem regK_soundIn {a : Act} (hnd : noDeferB ops = true)
    (hd : Dist ops.toList) (hlk : ∀ i o j o' d, ops[i]? = some o → ops[j]? = some o' → o'.dst = some d → d ∈ o.looksAt ops → waits ops i j = true)
    (hac : ∀ i o, ops[i]? = some o → ∀ e ∈ o.after, Region.binds .any e = true → e.on < i) (hsel : ∀ (j : Nat) (o : Oper) cs b, ops[j]? = some o → o.op ≠ .select cs b)
    (hk1 : ∀ i j, i < ops.size → j < ops.size → kill i j = true → reach ops ops.size i j = true → ∀ k, k < ops.size → waits ops k j = true → k = i ∨ reach ops ops.size i k = true ∨ reach ops ops.size k i = true)
    (hk2 : ∀ i j, i < ops.size → j < ops.size → kill i j = true → reach ops ops.size i j = false → reach ops ops.size j i = true)
    (hstep : ∀ i o, ops[i]? = some o → ∀ us w, S w → (∀ j, givenB ops kill i j = true → Φ j (us j) w) → StepK P ops S Φ kill us i o (putAll ops.toList 0 us a) w)
    (hdone : ∀ us w, S w → (∀ j, j < ops.size → (∀ i, i < ops.size → kill i j = true → reach ops ops.size i j = true → False) → Φ j (us j) w) → Q .normal (putAll ops.toList 0 us a) w) :
    ∀ (fuel : Nat) (listed : Array Bool) (us : Nat → Value) (w : World), listed.size = ops.size → unl listed ops.size ≤ fuel → S w → InvK ops Φ kill (fun j => listed.getD j false) us w → wpAnyIn (Fence.wide.inRound L) N P .any ops Q fuel listed (putS (fun j => listed.getD j false) ops.toList 0 us a) w := by
  have hlt : ∀ (listed : Array Bool) j, listed.size = ops.size → listed.getD j false = true → j < ops.size := fun listed j hs h => by
    by_cases e : j < listed.size
    · omega
    · simp [e] at h
  have hall : ∀ (listed : Array Bool) (us : Nat → Value) (w : World), listed.size = ops.size → (∀ j, j < ops.size → listed.getD j true = true) → S w → InvK ops Φ kill (fun j => listed.getD j false) us w → Q .normal (putS (fun j => listed.getD j false) ops.toList 0 us a) w := by
    intro listed us w hs hl hw hp
    have hl2 : ∀ j, j < ops.size → listed.getD j false = true := fun j hj => by
      have h1 : j < listed.size := by omega
      have := hl j hj
      simp [h1] at this ⊢
      exact this
    rw [putS_all _ _ _ _ fun m _ h => hl2 m (by simpa using h)]
    exact hdone us w hw fun j hj hk => hp.fact j (hl2 j hj) fun i hi => hk i (hlt listed i hs hi)
  intro fuel
  induction fuel with
  | zero =>
    intro listed us w hs hu hw hp
    have hz := unl_zero (Nat.le_zero.1 hu)
    refine ⟨?_, hall listed us w hs hz hw hp⟩
    rw [List.eq_nil_iff_forall_not_mem]
    intro j hj
    obtain ⟨h1, o, ho, _⟩ := mem_ready.1 hj
    have := hz j (Array.getElem?_eq_some_iff.1 ho).1
    rw [h1] at this
    cases this
  | succ fuel ih =>
    intro listed us w hs hu hw hp
    refine ⟨fun h0 => hall listed us w hs (fun j _ => ?_) hw hp, fun i hi => ?_⟩
    · cases hj : listed.getD j true with
      | true => rfl
      | false => exact absurd h0 (unlisted_ready hac hs j hj)
    · obtain ⟨h1, o, ho, hdep⟩ := mem_ready.1 hi
      have hin : i < ops.size := (Array.getElem?_eq_some_iff.1 ho).1
      have h1f : listed.getD i false = false := by
        have : i < listed.size := by omega
        simp [this] at h1 ⊢
        exact h1
      have hw2 : ∀ j, waits ops i j = true → listed.getD j false = true := fun j hj => by
        unfold waits at hj
        rw [ho] at hj
        obtain ⟨e, he, hb⟩ := List.any_eq_true.1 hj
        simp only [Bool.and_eq_true, beq_iff_eq] at hb
        rw [← hb.2]
        exact hdep e (by simpa using he) hb.1
      have hreach : ∀ k, listed.getD k false = true → reach ops ops.size k i = true → False := fun k hk hr => by
        have := reach_listed (listed := fun j => listed.getD j false) hp.cl ops.size k i hk hr
        simp only [h1f] at this
        cases this
      have hst := hstep i o ho us w hw fun j hg => by
        obtain ⟨hj, hng⟩ : waits ops i j = true ∧ _ := by
          unfold givenB at hg
          rw [Bool.and_eq_true] at hg
          exact hg
        refine hp.fact j (hw2 j hj) fun k hk hkill hr => ?_
        rcases hk1 k j (hlt listed k hs hk) (hlt listed j hs (hw2 j hj)) hkill hr i hin hj with e | e | e
        · subst e
          simp only [h1f] at hk
          cases hk
        · exact hreach k hk e
        · have := List.all_eq_true.1 hng k (List.mem_range.2 (hlt listed k hs hk))
          rw [hkill, hr, e] at this
          cases this
      have hsame : SameTo ops o (putS (fun j => listed.getD j false) ops.toList 0 us a) (putAll ops.toList 0 us a) := by
        refine same_puts _ 0 _ _ ⟨rfl, fun _ _ => rfl⟩ fun m o' ho' hm e he hle => ?_
        rw [Nat.zero_add] at hm
        have := hw2 m (hlk i o m o' e ho (by simpa using ho') he hle)
        rw [hm] at this
        cases this
      have hst2 : StepK P ops S Φ kill us i o (putS (fun j => listed.getD j false) ops.toList 0 us a) w := by
        unfold StepK at hst ⊢
        rw [hsame.exec (hsel i o · · ho), hsame.wanted]
        exact hst
      refine hst2.stepIn (noDefer_of hnd ho) ho hw fun u w' hSw' hpi hkeep => ?_
      have e1 : (fun j => (listed.setIfInBounds i true).getD j false) = updB (fun j => listed.getD j false) i := by
        funext j
        unfold updB
        by_cases e : j = i
        · subst e
          have : j < listed.size := by omega
          simp [this]
        · rw [if_neg e, getD_set_ne false (Ne.symm e)]
      have hput := putS_in (u := u) (listed := fun j => listed.getD j false) h1f ops.toList 0 us a (Nat.zero_le _) (by simpa using ho) hd
      rw [← hput, ← e1]
      refine ih _ _ w' (by simpa using hs) (by have := unl_set hin hs h1; omega) hSw' ?_
      rw [e1]
      refine ⟨fun k m hk hkm => ?_, fun j hj hnk => ?_⟩
      · by_cases e2 : k = i
        · subst e2
          by_cases e3 : m = k
          · rw [e3, updB_eq]
          · rw [updB_ne _ e3]; exact hw2 m hkm
        · rw [updB_ne _ e2] at hk
          by_cases e3 : m = i
          · rw [e3, updB_eq]
          · rw [updB_ne _ e3]; exact hp.cl k m hk hkm
      · by_cases e : j = i
        · subst e
          rw [updU_eq]
          exact hpi
        · rw [updU_ne _ _ e]
          rw [updB_ne _ e] at hj
          have hjn := hlt listed j hs hj
          have hfj := hp.fact j hj fun k hk hkill hr => hnk k (by
            by_cases e2 : k = i
            · rw [e2, updB_eq]
            · rw [updB_ne _ e2]; exact hk) hkill hr
          cases hkij : kill i j with
          | false => exact hkeep j e hkij hfj
          | true =>
            cases hr : reach ops ops.size i j with
            | true => exact (hnk i (updB_eq _ _) hkij hr).elim
            | false => exact (hreach j hj (hk2 i j hin hjn hkij hr)).elim

/-- THE REGION -/
theorem region_KIn {id : Nat} {a : Act} {w : World} (hm : P.follows .mixedOrders = true) (hnd : noDeferB ops = true) (S : World → Prop) (Φ : Nat → Value → World → Prop) (kill : Nat → Nat → Bool) (h0 : S w.drew)
    (hd : distB ops = true) (hlk : looksB ops = true) (hb : backB2 ops = true) (hs : Region.noSelect ops = true) (hkl : killB ops kill = true)
    (hstep : ∀ us w, S w → ∀ i o, ops[i]? = some o → (∀ j, givenB ops kill i j = true → Φ j (us j) w) → StepK P ops S Φ kill us i o (putAll ops.toList 0 us a) w)
    (hdone : ∀ us w, S w → (∀ j, j < ops.size → (∀ i, i < ops.size → kill i j = true → reach ops ops.size i j = true → False) → Φ j (us j) w) → Q .normal (putAll ops.toList 0 us a) w) : (Code.region id ops true).wpIn (Fence.wide.inRound L) N P Q a w := by
  refine wpIn_region_any hm ?_
  have hac : ∀ i o, ops[i]? = some o → ∀ e ∈ o.after, Region.binds .any e = true → e.on < i := fun i o ho e he hbe => by
    have h1 := List.all_eq_true.1 hb i (List.mem_range.2 (Array.getElem?_eq_some_iff.1 ho).1)
    rw [ho] at h1
    have h2 := List.all_eq_true.1 h1 e (by simpa using he)
    rw [hbe] at h2
    exact of_decide_eq_true (by simpa using h2)
  have hl : ∀ i o j o' d, ops[i]? = some o → ops[j]? = some o' → o'.dst = some d → d ∈ o.looksAt ops → waits ops i j = true := fun i o j o' d ho ho' hd' hx => by
    have h1 := List.all_eq_true.1 (List.all_eq_true.1 hlk i (List.mem_range.2 (Array.getElem?_eq_some_iff.1 ho).1)) j (List.mem_range.2 (Array.getElem?_eq_some_iff.1 ho').1)
    simp only [ho, ho', hd'] at h1
    simpa [hx] using h1
  have hkk : ∀ i j, i < ops.size → j < ops.size → kill i j = true → (if reach ops ops.size i j then (List.range ops.size).all fun k => !waits ops k j || k == i || reach ops ops.size i k || reach ops ops.size k i else reach ops ops.size j i) = true := fun i j hi hj hk => by
    have := List.all_eq_true.1 (List.all_eq_true.1 hkl i (List.mem_range.2 hi)) j (List.mem_range.2 hj)
    rw [hk] at this
    simpa using this
  have := regK_soundIn (P := P) (Q := Q) (a := a) (L := L) (N := N) hnd (dist_of (of_decide_eq_true hd)) hl hac (Region.noSelect_spec hs)
    (fun i j hi hj hk hr k hkn hw => by
      have h1 := hkk i j hi hj hk
      rw [if_pos hr] at h1
      have h2 := List.all_eq_true.1 h1 k (List.mem_range.2 hkn)
      rw [hw] at h2
      simp only [Bool.not_true, Bool.false_or, Bool.or_eq_true, beq_iff_eq, or_assoc] at h2
      exact h2)
    (fun i j hi hj hk hr => by
      have h1 := hkk i j hi hj hk
      rw [if_neg (by simp [hr])] at h1
      exact h1)
    (fun i o ho us w hw hx => hstep us w hw i o ho hx) hdone ops.size (Array.replicate ops.size false) (fun _ => undef) w.drew (by simp) (Nat.le_trans List.countP_le_length (by simp)) h0
    ⟨fun k m hk _ => by
      by_cases h : k < ops.size
      · simp [h] at hk
      · simp [h] at hk, fun j hj _ => by
      by_cases h : j < ops.size
      · simp [h] at hj
      · simp [h] at hj⟩
  rw [putS_none] at this
  · exact this
  · intro m
    by_cases h : m < ops.size
    · simp [h]
    · simp [h]
end
end Go.Proofs.Ytnoenccpbbkdeaa
