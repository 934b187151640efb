/- Contracts of layers below. -/
import Derived.Test.YtmceblkjbpbcoaaGreatDoorPRegK
import Derived.Test.YtmceblkjbpbcoaaGreatDoorPApG
import Derived.Test.YtmceblkjbpbcoaaGreatDoorPAr3
namespace Go.Proofs.YtmceblkjbpbcoaaGreatDoor
open Go.ChangeShapes Go.WideShapes Go.ChangeAt Go.RowKit
section
section
variable {P : Program} {ops : Array Oper} {Q : Exit -> Act -> World -> Prop} {J : (Nat -> Bool) -> (Nat -> Value) -> World -> Prop}
def GivesJ (P : Program) (J : (Nat -> Bool) -> (Nat -> Value) -> World -> Prop) (listed : Nat -> Bool) (us : Nat -> Value) (i : Nat) (w : World) (r : Result Next) : Prop :=
 (∃ u w', r = .ok (.value u) w' /\ J (qf0 listed i) (qkn us i u) w') \/ (∃ w', r = .ok .skip w' /\ J (qf0 listed i) (qkn us i undef) w') ∨
 (∃ f args, r = .ok (.enter f args) w /\ Calls P f args w fun e w' => ∃ u, e = .returned u /\ J (qf0 listed i) (qkn us i u) w')
def qlr (P : Program) (ops : Array Oper) (J : (Nat -> Bool) -> (Nat -> Value) -> World -> Prop) (listed : Nat -> Bool) (us : Nat -> Value) (i : Nat) (o : Oper) (a : Act) (w : World) : Prop :=
 (Region.wanted o (yielded ops a.tmps) = true /\ GivesJ P J listed us i w ((execOp a.eval o).run P w)) \/ (Region.wanted o (yielded ops a.tmps) = false /\ J (qf0 listed i) (qkn us i undef) w)
theorem qlr.step {listed : Nat -> Bool} {us : Nat -> Value} {i : Nat} {o : Oper} {a : Act} {K : Act -> World -> Prop} {w : World} (hi : ops[i]? = some o) (hy : qlr P ops J listed us i o a w)
 (h : ∀ u w', J (qf0 listed i) (qkn us i u) w' -> K (a.put o.dst u) w') : Go.wpOp P ops Q i K a w := by
 unfold Go.wpOp
 simp only [hi]
 rcases hy with ⟨hw, ⟨u, w', hr, h1⟩ | ⟨w', hr, h1⟩ | ⟨f, args, hr, hc⟩⟩ | ⟨hw, hp⟩
 ·rw [if_pos hw]
  left
  simp only [Oper.wp, hr, Oper.upon]
  exact h u w' h1
 ·rw [if_pos hw]
  left
  simp only [Oper.wp, hr, Oper.upon]
  exact h undef w' h1
 ·rw [if_pos hw]
  left
  simp only [Oper.wp, hr, Oper.upon]
  refine Calls.mono hc ?_
  rintro e w'' ⟨u, rfl, h1⟩
  exact h u w'' h1
 ·rw [if_neg (by simp [hw])]
  exact h undef w hp
theorem qnz {a : Act}
 (hd : Dist ops.toList) (hlk : ∀ i o j o' d, ops[i]? = some o -> ops[j]? = some o' -> o'.dst = some d -> d ∈ o.looksAt ops -> waits ops i j = true)
 (hac : ∀ i o, ops[i]? = some o -> ∀ e ∈ o.after, Region.binds .any e = true -> e.on < i) (hsel : ∀ (j : Nat) (o : Oper) cs b, ops[j]? = some o -> o.op ≠ .select cs b)
 (hstep : ∀ i o, ops[i]? = some o -> ∀ listed us w, J listed us w -> listed i = false -> (∀ j, waits ops i j = true -> listed j = true) -> (∀ k m, listed k = true -> waits ops k m = true -> listed m = true) -> qlr P ops J listed us i o (qae ops.toList 0 us a) w)
 (hdone : ∀ listed us w, (∀ j, j < ops.size -> listed j = true) -> J listed us w -> Q .normal (qae ops.toList 0 us a) w) :
 ∀ (fuel : Nat) (listed : Array Bool) (us : Nat -> Value) (w : World), listed.size = ops.size -> unl listed ops.size <= fuel -> (∀ k m, listed.getD k false = true -> waits ops k m = true -> listed.getD m false = true) -> J (fun j => listed.getD j false) us w -> wpAny P .any ops Q fuel listed (putS (fun j => listed.getD j false) ops.toList 0 us a) w := by
 have hall : ∀ (listed : Array Bool) (us : Nat -> Value) (w : World), listed.size = ops.size -> (∀ j, j < ops.size -> listed.getD j true = true) -> J (fun j => listed.getD j false) us w -> Q .normal (putS (fun j => listed.getD j false) ops.toList 0 us a) w := by
  intro listed us w hs hl hp
  have hl2 : ∀ j, j < ops.size -> listed.getD j false = true := fun j hj => by
   have h1 : j < listed.size := by omega
   have := hl j hj
   simp [h1] at this |-
   exact this
  rw [qd7 _ _ _ _ fun m _ h => hl2 m (by simpa using h)]
  exact hdone _ us w hl2 hp
 intro fuel
 induction fuel with
 | zero =>
   intro listed us w hs hu hcl hp
   have hz := qff (Nat.le_zero.1 hu)
   refine ⟨?_, hall listed us w hs hz hp⟩
   rw [List.eq_nil_iff_forall_not_mem]
   intro j hj
   obtain ⟨h1, o, ho, _⟩ := mem_ready.1 hj
   have := hz j (xag ho).1
   rw [h1] at this
   cases this
 | succ fuel ih =>
   intro listed us w hs hu hcl hp
   refine ⟨fun h0 => hall listed us w hs (fun j _ => ?_) hp, fun i hi => ?_⟩
   ·cases hj : listed.getD j true with
    | true => rfl
    | false => exact absurd h0 (qag hac hs j hj)
   ·obtain ⟨h1, o, ho, hdep⟩ := mem_ready.1 hi
    have hin : i < ops.size := (xag ho).1
    have h1f : listed.getD i false = false := by
     have : i < listed.size := by omega
     simp [this] at h1 |-
     exact h1
    have hw2 : ∀ j, waits ops i j = true -> listed.getD j false = true := fun j hj => by
     unfold waits at hj
     rw [ho] at hj
     obtain ⟨e, he, hb⟩ := List.any_eq_true.1 hj
     simp only [Bool.and_eq_true, beq_iff_eq] at hb
     rw [<- hb.2]
     exact hdep e (by simpa using he) hb.1
    have hst := hstep i o ho _ us w hp h1f hw2 hcl
    have hsame : SameTo ops o (putS (fun j => listed.getD j false) ops.toList 0 us a) (qae ops.toList 0 us a) := by
     refine qcp _ 0 _ _ ⟨rfl, fun _ _ => rfl⟩ fun m o' ho' hm e he hle => ?_
     rw [Nat.zero_add] at hm
     have := hw2 m (hlk i o m o' e ho (by simpa using ho') he hle)
     rw [hm] at this
     cases this
    have hst2 : qlr P ops J (fun j => listed.getD j false) us i o (putS (fun j => listed.getD j false) ops.toList 0 us a) w := by
     unfold qlr at hst |-
     rw [hsame.exec (hsel i o · · ho), hsame.wanted]
     exact hst
    refine hst2.step ho fun u w' hJ => ?_
    have e1 : (fun j => (listed.setIfInBounds i true).getD j false) = qf0 (fun j => listed.getD j false) i := by
     funext j
     unfold qf0
     by_cases e : j = i
     ·subst e
      have : j < listed.size := by omega
      simp [this]
     ·rw [if_neg e, getD_set_ne false (Ne.symm e)]
    have hput := qf5 (u := u) (listed := fun j => listed.getD j false) h1f ops.toList 0 us a (Nat.zero_le _) (by simpa using ho) hd
    rw [<- hput, <- e1]
    refine ih _ _ w' (by simpa using hs) (by have := qh3 hin hs h1; omega) ?_ (by rw [e1]; exact hJ)
    intro k m hk hkm
    have e1' : ∀ j, (listed.setIfInBounds i true).getD j false = qf0 (fun j => listed.getD j false) i j := fun j => congrFun e1 j
    rw [e1'] at hk |-
    by_cases e3 : m = i
    ·rw [e3, qbe]
    ·rw [qaj _ e3]
     by_cases e2 : k = i
     ·subst e2
      exact hw2 m hkm
     ·rw [qaj _ e2] at hk
      exact hcl k m hk hkm
theorem qie {id : Nat} {a : Act} {w : World} (hm : P.follows .mixedOrders = true) (J : (Nat -> Bool) -> (Nat -> Value) -> World -> Prop) (h0 : J (fun _ => false) (fun _ => undef) w.drew)
 (hd : qol ops = true) (hlk : qhj ops = true) (hb : qki ops = true) (hs : Region.noSelect ops = true)
 (hstep : ∀ listed us w, J listed us w -> ∀ i o, ops[i]? = some o -> listed i = false -> (∀ j, waits ops i j = true -> listed j = true) -> (∀ k m, listed k = true -> waits ops k m = true -> listed m = true) -> qlr P ops J listed us i o (qae ops.toList 0 us a) w)
 (hdone : ∀ listed us w, (∀ j, j < ops.size -> listed j = true) -> J listed us w -> Q .normal (qae ops.toList 0 us a) w) : (Code.region id ops true).wp P Q a w := by
 refine wp_region_any hm ?_
 have hac : ∀ i o, ops[i]? = some o -> ∀ e ∈ o.after, Region.binds .any e = true -> e.on < i := fun i o ho e he hbe => by
  have h1 := xam hb i (List.mem_range.2 (xag ho).1)
  rw [ho] at h1
  have h2 := xam h1 e (by simpa using he)
  rw [hbe] at h2
  exact of_decide_eq_true (by simpa using h2)
 have hl : ∀ i o j o' d, ops[i]? = some o -> ops[j]? = some o' -> o'.dst = some d -> d ∈ o.looksAt ops -> waits ops i j = true := fun i o j o' d ho ho' hd' hx => by
  have h1 := xam (xam hlk i (List.mem_range.2 (xag ho).1)) j (List.mem_range.2 (xag ho').1)
  simp only [ho, ho', hd'] at h1
  simpa [hx] using h1
 have hz : ∀ j, (Array.replicate ops.size false).getD j false = false := fun j => by
  by_cases h : j < ops.size
  ·simp [h]
  ·simp [h]
 have ez : (fun j => (Array.replicate ops.size false).getD j false) = fun _ => false := funext hz
 have := qnz (P := P) (Q := Q) (a := a) (J := J) (qeu (of_decide_eq_true hd)) hl hac (Region.noSelect_spec hs)
  (fun i o ho listed us w hJ h1 h2 h3 => hstep listed us w hJ i o ho h1 h2 h3) hdone ops.size (Array.replicate ops.size false) (fun _ => undef) w.drew (by simp) (xau List.countP_le_length (by simp)) (fun k m hk => by rw [hz] at hk; cases hk) (by rw [ez]; exact h0)
 rw [qcu] at this
 ·exact this
 ·exact hz
end
end
section
open Go.Shelf
structure JN (w : World) (ty : TypeId) (z cs : Array Value) (st : Nat) (vals : Nat -> Value) (listed : Nat -> Bool) (us : Nat -> Value) (W : World) : Prop where
 bel : Below w.heap.size w W
 val : ∀ j, j < st -> listed j = true -> us j = vals j
 new : listed st = true -> ∃ g, us st = .pointer (some ⟨g, 0, none⟩) /\ w.heap.size <= g /\ (listed (st + 1) = false -> Blk W g ty z) /\ (listed (st + 1) = true -> Blk W g ty cs)
theorem ql7 {P : Program} {ops : Array Oper} {Q : Exit -> Act -> World -> Prop} {id : Nat} {a : Act} {w : World} (hm : P.follows .mixedOrders = true) (ty : TypeId) (z cs : Array Value) (st : Nat) (D : Tmp) (y : Operand) (vals : Nat -> Value)
 (hlast : ops.size = st + 2) (hal : ∀ w, (Instr.alloc ty true (.tuple #[])).run P w = .ok (.pointer (some ⟨w.heap.size, 0, none⟩)) (w.alloc (.cells z ty)))
 (oa os : Oper) (hoa : ops[st]? = some oa) (hga : oa.guard = none) (hopa : oa.op = .alloc ty) (hos : ops[st + 1]? = some os) (hgs : os.guard = none) (hops : os.op = .store ty (.tmp D) y)
 (hi : (P.info? ty).map (·.size) = some cs.size) (hz : z.size = cs.size) (h1 : cs.all (·.oneCell') = true)
 (hd : qol ops = true) (hlk : qhj ops = true) (hb : qki ops = true) (hs : Region.noSelect ops = true) (hw : ((List.range (st + 1)).all fun i => waits ops (st + 1) i) = true)
 (hstep : ∀ us W, Below w.heap.size w W -> ∀ i o, i < st -> ops[i]? = some o -> (∀ j, j < st -> waits ops i j = true -> us j = vals j) -> o.guard = none /\ (execOp (qae ops.toList 0 us a).eval o).run P W = .ok (.value (vals i)) W)
 (hy : ∀ us g, (∀ j, j < st -> us j = vals j) -> us st = .pointer (some ⟨g, 0, none⟩) -> (qae ops.toList 0 us a).eval (.tmp D) = .pointer (some ⟨g, 0, none⟩) /\ (qae ops.toList 0 us a).eval y = .agg cs)
 (hdone : ∀ us g W, (∀ j, j < st -> us j = vals j) -> us st = .pointer (some ⟨g, 0, none⟩) -> w.heap.size <= g -> Below w.heap.size w W -> Blk W g ty cs -> Q .normal (qae ops.toList 0 us a) W) : (Code.region id ops true).wp P Q a w := by
 have hwt : ∀ i, i < st + 1 -> waits ops (st + 1) i = true := fun i hi => xam hw i (List.mem_range.2 hi)
 refine qie hm (JN w ty z cs st vals) ⟨below_drewN (xas) 1, fun _ _ h => (by cases h), fun h => (by cases h)⟩ hd hlk hb hs ?_ ?_
 ·intro listed us W hJ i o ho hun hwi hcl
  have hil : i < st + 2 := by rw [<- hlast]; exact (xag ho).1
  by_cases h : i < st
  ·obtain ⟨hg, hrun⟩ := hstep us W hJ.bel i o h ho fun j hj hwj => hJ.val j hj (hwi j hwj)
   refine .inl ⟨qaa hg _, .inl ⟨_, _, hrun, hJ.bel, fun j hj e => ?_, fun e => ?_⟩⟩
   ·by_cases ej : j = i
    ·subst ej; rw [qb9]
    ·rw [qaj _ ej] at e; rw [qa3 _ _ ej]; exact hJ.val j hj e
   ·rw [qaj _ (by omega)] at e
    rw [qa3 _ _ (by omega), qaj _ (by omega)]
    exact hJ.new e
  ·by_cases h2 : i = st
   ·subst h2
    rw [hoa] at ho
    injection ho with ho
    subst ho
    have hl2 : listed (i + 1) = false := by
     cases e : listed (i + 1) with
     | false => rfl
     | true => have := hcl _ i e (hwt i (by omega)); rw [hun] at this; cases this
    refine .inl ⟨qaa hga _, .inl ⟨_, _, run_op_new ty hopa z hal, hJ.bel.trans ((xar W _).mono hJ.bel.size), fun j hj e => ?_, fun _ => ⟨W.heap.size, qb9 .., hJ.bel.size, fun _ => Blk.new _ _ _, fun e => ?_⟩⟩⟩
    ·rw [qaj _ (by omega)] at e; rw [qa3 _ _ (by omega)]; exact hJ.val j hj e
    ·rw [qaj _ (by omega), hl2] at e; cases e
   ·obtain rfl : i = st + 1 := by omega
    rw [hos] at ho
    injection ho with ho
    subst ho
    obtain ⟨g, hu, hg, hB, _⟩ := hJ.new (hwi st (hwt st (by omega)))
    obtain ⟨e1, e2⟩ := hy us g (fun j hj => hJ.val j hj (hwi j (hwt j (by omega)))) hu
    have hrun := run_op_store (P := P) (w := W) (o := os) ty (.tmp D) y hops g 0 e1 cs e2 ty z (hB hun) hi (by omega) h1
    have e : spl z 0 cs.toList = cs := by
     have hzl : z.toList.length <= 0 + cs.toList.length := by simp; omega
     unfold spl
     rw [List.take_zero, List.nil_append, List.drop_of_length_le hzl, List.append_nil, Array.toArray_toList]
    rw [e] at hrun
    have hB2 := setRow_heap W g z cs ty (0, 0) (hB hun)
    have m := qai W g cs
    refine .inl ⟨qaa hgs _, .inr (.inl ⟨_, hrun, hJ.bel.trans (m.below hJ.bel.size fun k hk => by omega), fun j hj e => ?_, fun _ => ⟨g, ?_, hg, fun e => ?_, fun _ => hB2⟩⟩)⟩
    ·rw [qaj _ (by omega)] at e; rw [qa3 _ _ (by omega)]; exact hJ.val j hj e
    ·rw [qa3 _ _ (by omega)]; exact hu
    ·rw [qbe] at e; cases e
 ·intro listed us W hal hJ
  have hv : ∀ j, j < st -> us j = vals j := fun j hj => hJ.val j hj (hal j (by omega))
  obtain ⟨g, hu, hg, _, hB⟩ := hJ.new (hal st (by omega))
  exact hdone us g W hv hu hg hJ.bel (hB (hal _ (by omega)))
end
section
section
variable {P : Program} {ops : Array Oper} {Q : Exit -> Act -> World -> Prop} {md : Region.Mode} {S : World -> Prop} {R : Act -> Prop}
theorem qpx {k m : Nat} : waits ops k m = true ↔ ∃ o, ops[k]? = some o /\ ∃ e ∈ o.after, Region.binds .any e = true /\ e.on = m := by
 unfold waits
 cases hk : ops[k]? with
 | none => simp
 | some o =>
   constructor
   ·intro h
    obtain ⟨e, he, h2⟩ := List.any_eq_true.1 h
    obtain ⟨h3, h4⟩ := Bool.and_eq_true_iff.1 h2
    exact ⟨o, rfl, e, by simpa using he, h3, by simpa using h4⟩
   ·rintro ⟨o', ho, e, he, h3, h4⟩
    injection ho with ho
    subst ho
    exact List.any_eq_true.2 ⟨e, by simpa using he, by rw [h3, h4]; simp⟩
theorem qif {i : Nat} {listed : Array Bool} (h : ∀ k m, (k = i \/ listed.getD k false = true) -> waits ops k m = true -> listed.getD m false = true) :
 ∀ f k j, (k = i \/ listed.getD k false = true) -> reach ops f k j = true -> listed.getD j false = true := by
 intro f
 induction f with
 | zero => intro k j _ hr; cases hr
 | succ f ih =>
   intro k j hk hr
   unfold reach at hr
   rcases Bool.or_eq_true_iff.1 hr with h1 | h1
   ·exact h k j hk h1
   ·obtain ⟨m, _, hm⟩ := List.any_eq_true.1 h1
    obtain ⟨h2, h3⟩ := Bool.and_eq_true_iff.1 hm
    exact ih m j (.inr (h k m hk h2)) h3
theorem qkr {st : Nat} {os : Oper} (hst : ops[st]? = some os) (hlast : ops.size = st + 1)
 (hac : ∀ i o, ops[i]? = some o -> ∀ e ∈ o.after, Region.binds md e = true -> e.on < i)
 (hmd : md = .any) (hall : ∀ i, i < st -> reach ops ops.size st i = true)
 (hQ : ∀ a w, S w -> R a -> Go.wpOp P ops Q st (fun a' w' => Q .normal a' w') a w) :
 ∀ (fuel : Nat) (listed : Array Bool) (a : Act) (w : World), listed.size = ops.size -> listed.getD st true = false -> Closed md ops listed →
  AllS P md ops S R fuel (listed.setIfInBounds st true) a -> S w -> wpAny P md ops Q (fuel + 1) listed a w := by
 intro fuel
 induction fuel with
 | zero =>
   intro listed a w hsz hun hcl hA hS
   refine ⟨fun h => absurd h (qag hac hsz st hun), fun i hi => ?_⟩
   by_cases e : i = st
   ·subst e
    exact wpOp_mono (fun a' w' h => ⟨hA.1, h⟩) (hQ a w hS hA.2)
   ·have := ready_mono hi e
    rw [hA.1] at this
    cases this
 | succ f ih =>
   intro listed a w hsz hun hcl hA hS
   refine ⟨fun h => absurd h (qag hac hsz st hun), fun i hi => ?_⟩
   obtain ⟨_, oi0, hoi0, hl0⟩ := mem_ready.1 hi
   by_cases e : i = st
   ·subst e
    have hl := hl0
    rw [hst] at hoi0
    injection hoi0 with hoi0
    subst hoi0
    have hnone : Region.ready md ops (listed.setIfInBounds i true) = [] := by
     rw [List.eq_nil_iff_forall_not_mem]
     intro j hj
     obtain ⟨h1, o, ho, _⟩ := mem_ready.1 hj
     have hjs : j < ops.size := (xag ho).1
     have hjl : j < listed.size := by omega
     by_cases ej : j = i
     ·subst ej
      simp [hjl] at h1
     ·have h2 : listed.getD j false = true := by
       refine qif (ops := ops) (i := i) (listed := listed) (fun k m hk hkm => ?_) ops.size i j (.inl rfl) (hall j (by omega))
       subst hmd
       obtain ⟨ok, hok, ed, hed, hb, hon⟩ := qpx.1 hkm
       rcases hk with rfl | hk
       ·rw [hst] at hok
        injection hok with hok
        subst hok
        rw [<- hon]; exact hl ed hed hb
       ·rw [<- hon]; exact hcl k ok hok hk ed hed hb
      rw [getD_set_ne true (Ne.symm ej)] at h1
      simp [hjl] at h1 h2
      rw [h1] at h2
      cases h2
    exact wpOp_mono (fun a' w' h => ⟨fun _ => h, fun j hj => by rw [hnone] at hj; cases hj⟩) (hQ a w hS (hA.1 hnone))
   ·obtain ⟨oi, v, ho, hk, hr⟩ := hA.2 i (ready_mono hi e)
    refine hk.step ho hS fun w' hS' => ?_
    refine ih (listed.setIfInBounds i true) _ w' (by simpa using hsz) (by rw [getD_set_ne true e]; exact hun) ?_ ?_ hS'
    ·intro j o hjo hjl ed hed hb
     by_cases ej : j = i
     ·subst ej
      rw [hoi0] at hjo
      injection hjo with hjo
      subst hjo
      exact qbm (hl0 ed hed hb)
     ·rw [getD_set_ne false (Ne.symm ej)] at hjl
      exact qbm (hcl j o hjo hjl ed hed hb)
    ·rw [Array.setIfInBounds_comm _ _ e]
     exact hr
def lastB3 (ops : Array Oper) (st : Nat) : Bool := (List.range st).all fun i => reach ops ops.size st i
theorem qez {id : Nat} {a : Act} {w : World} (hm : P.follows .mixedOrders = true) (S : World -> Prop) (h0 : S w.drew) (st : Nat) (hlast : ops.size = st + 1) (hb : qsv ops = true) (hl : lastB3 ops st = true)
 (h : ∀ R : Act -> Prop, Hid (∀ a', (∀ w', S w' -> Go.wpOp P ops Q st (fun a'' w'' => Q .normal a'' w'') a' w') -> R a') -> AllS P .any ops S R st ((Array.replicate ops.size false).setIfInBounds st true) a) : (Code.region id ops true).wp P Q a w := by
 refine wp_region_any hm ?_
 obtain ⟨os, hos⟩ : ∃ os, ops[st]? = some os := ⟨_, Array.getElem?_eq_getElem (by omega)⟩
 have hh := h (fun a' => ∀ w', S w' -> Go.wpOp P ops Q st (fun a'' w'' => Q .normal a'' w'') a' w') (xaa fun _ h => h)
 have hac : ∀ i o, ops[i]? = some o -> ∀ e ∈ o.after, Region.binds .any e = true -> e.on < i := fun i o ho e he _ => by
  have h1 := xam hb i (List.mem_range.2 (xag ho).1)
  rw [ho] at h1
  exact of_decide_eq_true (xam h1 e (by simpa using he))
 have hall : ∀ i, i < st -> reach ops ops.size st i = true := fun i hi => xam hl i (List.mem_range.2 hi)
 have := qkr hos hlast hac rfl hall (Q := Q) (S := S) (R := fun a' => ∀ w', S w' -> Go.wpOp P ops Q st (fun a'' w'' => Q .normal a'' w'') a' w') (fun a w hS hR => hR w hS) st (Array.replicate ops.size false) a w.drew (by simp) (by simp [hlast]) (fun j o hj h => by
  by_cases hjs : j < ops.size
  ·simp [hjs] at h
  ·simp [hjs] at h) hh h0
 rw [hlast]
 rw [hlast] at this
 exact this
end
end
section
open Go.Shelf
section
variable {P : Program} {ops : Array Oper} {Q : Exit -> Act -> World -> Prop} {md : Region.Mode} {S : World -> Prop} {R : Act -> Prop} {n : Nat}
theorem qaf.stepW {i : Nat} {o : Oper} {v : Value} {a : Act} {K : Act -> World -> Prop} {w : World} (hd : ∀ c, o.op ≠ .defer c) (hi : ops[i]? = some o) (hy : qaf P ops S o v a) (hS : S w)
 (h : ∀ w', S w' -> K (a.put o.dst v) w') : wpOpIn Fence.wide n P ops Q i K a w := by
 unfold wpOpIn
 simp only [hi]
 rcases hy with ⟨hw, hv⟩ | ⟨hw, rfl⟩
 ·rw [if_pos hw]
  unfold Oper.wpIn
  rw [Oper.semAt_eq _ _ _ hd]
  refine ⟨fun _ _ => trivial, ?_⟩
  rcases hv w hS with ⟨w', hr, hS'⟩ | ⟨f, args, w', hr, hc⟩
  ·rw [hr]
   exact h w' hS'
  ·rw [hr]
   rw [Oper.uponIn_enter]
   refine ⟨fun h0 => (by cases h0), CallsIn.mono (callsIn_wide.2 hc) ?_⟩
   rintro e w'' ⟨rfl, hS'⟩
   exact h w'' hS'
 ·rw [if_neg (by simp [hw])]
  exact ⟨fun _ _ => trivial, h w hS⟩
theorem AllS.qw4 (hnd : qce ops = true) (hQ : ∀ a w, S w -> R a -> Q .normal a w) : ∀ (fuel : Nat) (listed : Array Bool) (a : Act) (w : World), AllS P md ops S R fuel listed a -> S w -> wpAnyIn Fence.wide n P md ops Q fuel listed a w
 | 0, _, _, w, h, hS => ⟨h.1, hQ _ w hS h.2⟩
 | fuel + 1, _, _, w, h, hS => ⟨fun h0 => hQ _ w hS (h.1 h0), fun i hi => by
   obtain ⟨oi, v, ho, hk, hr⟩ := h.2 i hi
   exact hk.stepW (qem hnd ho) ho hS fun w' hS' => AllS.qw4 hnd hQ fuel _ _ w' hr hS'⟩
theorem qf3 {id : Nat} {a : Act} {w : World} (hm : P.follows .mixedOrders = true) (S : World -> Prop) (h0 : S w.drew) (hnd : qce ops = true)
 (h : ∀ R : Act -> Prop, Hid (∀ a', (∀ w', S w' -> Q .normal a' w') -> R a') -> AllS P .any ops S R ops.size (Array.replicate ops.size false) a) : (Code.region id ops true).wpIn Fence.wide n P Q a w :=
 wpIn_region_any hm (AllS.qw4 hnd (R := fun a' => ∀ w', S w' -> Q .normal a' w') (fun _ w' hS hR => hR w' hS) _ _ _ _ (h _ (xaa fun _ h => h)) h0)
end
end
end Go.Proofs.YtmceblkjbpbcoaaGreatDoor
