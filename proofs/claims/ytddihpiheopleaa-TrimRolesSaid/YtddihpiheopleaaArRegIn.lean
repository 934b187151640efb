/- Inside a round of a range over a function: a region that draws its order, of operations that each yield one value in every world that meets S: one order stands for all; and one whose last operation is a store that waits for all others. A range over a function whose rounds run loops of their own. For any layer. No walk. -/
import Derived.Test.YtddihpiheopleaaYTail
import Derived.RangeFuncNested
import Derived.RangeFuncBound
import Derived.RangeFuncCalls
import Derived.RangeFuncLeaves
import Derived.RangeFuncBox
import Derived.Shelf.Abstract
import Derived.Shelf.RegionOpen
import Derived.OwnWalkIn
import Derived.TacticsInMore
import Derived.LoopNIn
import Derived.LoopIn
import Derived.Sort.QuietIn
namespace Go.Proofs.Ytddihpiheopleaa
open Go.ChangeShapes Go.WideShapes Go.ChangeAt Go.RowKit Go.Shelf

section
variable {P : Program} {ops : Array Oper} {Q : Exit → Act → World → Prop} {md : Region.Mode} {S : World → Prop} {R : Act → Prop} {n l : Nat}

def noDeferB (ops : Array Oper) : Bool := ops.toList.all fun o => match o.op with | .defer _ => false | _ => true
theorem noDefer_of (h : noDeferB ops = true) {i : Nat} {o : Oper} (hi : ops[i]? = some o) : ∀ c, o.op ≠ .defer c := fun c hc => by
  have h1 := List.all_eq_true.1 h o (by simpa using Array.mem_of_getElem? hi)
  rw [hc] at h1
  cases h1
theorem KeepsIf.stepIn {i : Nat} {o : Oper} {v : Value} {a : Act} {K : Act → World → Prop} {w : World} (hd : ∀ c, o.op ≠ .defer c) (hi : ops[i]? = some o) (hy : KeepsIf P ops S o v a) (hS : S w)
    (h : ∀ w', S w' → K (a.put o.dst v) w') : wpOpIn (Fence.wide.inRound l) n P ops Q i K a w := by
  unfold wpOpIn
  simp only [hi]
  rcases hy with ⟨hw, hv⟩ | ⟨hw, rfl⟩
  · rw [if_pos hw]
    unfold Oper.wpIn
    rw [Oper.semAt_eq _ _ _ hd]
    refine ⟨fun _ _ => trivial, ?_⟩
    rcases hv w hS with ⟨w', hr, hS'⟩ | ⟨f, args, w', hr, hc⟩
    · rw [hr]
      exact h w' hS'
    · rw [hr]
      rw [Oper.uponIn_enter]
      refine ⟨fun h0 => (by cases h0), CallsIn.inRound l (CallsIn.mono (callsIn_wide.2 hc) ?_)⟩
      rintro e w'' ⟨rfl, hS'⟩
      exact h w'' hS'
  · rw [if_neg (by simp [hw])]
    exact ⟨fun _ _ => trivial, h w hS⟩

theorem AllS.soundIn (hnd : noDeferB ops = true) (hQ : ∀ a w, S w → R a → Q .normal a w) : ∀ (fuel : Nat) (listed : Array Bool) (a : Act) (w : World), AllS P md ops S R fuel listed a → S w → wpAnyIn (Fence.wide.inRound l) n P md ops Q fuel listed a w
  | 0, _, _, w, h, hS => ⟨h.1, hQ _ w hS h.2⟩
  | fuel + 1, _, _, w, h, hS => ⟨fun h0 => hQ _ w hS (h.1 h0), fun i hi => by
    obtain ⟨oi, v, ho, hk, hr⟩ := h.2 i hi
    exact hk.stepIn (noDefer_of hnd ho) ho hS fun w' hS' => AllS.soundIn hnd hQ fuel _ _ w' hr hS'⟩
theorem region_anyIn {id : Nat} {a : Act} {w : World} (hm : P.follows .mixedOrders = true) (S : World → Prop) (h0 : S w.drew) (hnd : noDeferB ops = true)
    (h : ∀ R : Act → Prop, Hid (∀ a', (∀ w', S w' → Q .normal a' w') → R a') → AllS P .any ops S R ops.size (Array.replicate ops.size false) a) : (Code.region id ops true).wpIn (Fence.wide.inRound l) n P Q a w :=
  wpIn_region_any hm (AllS.soundIn hnd (R := fun a' => ∀ w', S w' → Q .normal a' w') (fun _ w' hS hR => hR w' hS) _ _ _ _ (h _ (Lib.hid fun _ h => h)) h0)

theorem tail_soundIn (hnd : noDeferB ops = true) {st : Nat} {os : Oper} (hst : ops[st]? = some os) (hlast : ops.size = st + 1)
    (hac : ∀ i o, ops[i]? = some o → ∀ e ∈ o.after, Region.binds md e = true → e.on < i)
    (hall : ∀ i, i < st → ∃ e ∈ os.after, Region.binds md e = true ∧ e.on = i)
    (hQ : ∀ a w, S w → R a → wpOpIn (Fence.wide.inRound l) n P ops Q st (fun a' w' => Q .normal a' w') a w) :
    ∀ (fuel : Nat) (listed : Array Bool) (a : Act) (w : World), listed.size = ops.size → listed.getD st true = false →
      AllS P md ops S R fuel (listed.setIfInBounds st true) a → S w → wpAnyIn (Fence.wide.inRound l) n P md ops Q (fuel + 1) listed a w := by
  intro fuel
  induction fuel with
  | zero =>
    intro listed a w hsz hun hA hS
    refine ⟨fun h => absurd h (unlisted_ready hac hsz st hun), fun i hi => ?_⟩
    by_cases e : i = st
    · subst e
      exact wpOpIn_mono (fun a' w' h => ⟨hA.1, h⟩) (hQ a w hS hA.2)
    · have := ready_mono hi e
      rw [hA.1] at this
      cases this
  | succ f ih =>
    intro listed a w hsz hun hA hS
    refine ⟨fun h => absurd h (unlisted_ready hac hsz st hun), fun i hi => ?_⟩
    by_cases e : i = st
    · subst e
      obtain ⟨_, o2, ho2, hl⟩ := mem_ready.1 hi
      rw [hst] at ho2
      injection ho2 with ho2
      subst ho2
      have hnone : Region.ready md ops (listed.setIfInBounds i true) = [] := by
        rw [List.eq_nil_iff_forall_not_mem]
        intro j hj
        obtain ⟨h1, o, ho, _⟩ := mem_ready.1 hj
        have hjs : j < ops.size := (Array.getElem?_eq_some_iff.1 ho).1
        by_cases ej : j = i
        · subst ej
          have hjl : j < listed.size := by omega
          simp [hjl] at h1
        · obtain ⟨ed, hed, hb, hon⟩ := hall j (by omega)
          have h2 := hl ed hed hb
          rw [hon] at h2
          rw [getD_set_ne true (Ne.symm ej)] at h1
          have hjl : j < listed.size := by omega
          simp [hjl] at h1 h2
          rw [h1] at h2
          cases h2
      exact wpOpIn_mono (fun a' w' h => ⟨fun _ => h, fun j hj => by rw [hnone] at hj; cases hj⟩) (hQ a w hS (hA.1 hnone))
    · obtain ⟨oi, v, ho, hk, hr⟩ := hA.2 i (ready_mono hi e)
      refine hk.stepIn (noDefer_of hnd ho) ho hS fun w' hS' => ?_
      refine ih (listed.setIfInBounds i true) _ w' (by simpa using hsz) (by rw [getD_set_ne true e]; exact hun) ?_ hS'
      rw [Array.setIfInBounds_comm _ _ e]
      exact hr
theorem wpOpIn_of {F : Fence} {i : Nat} {o : Oper} {a : Act} {w : World} {K : Act → World → Prop} (hi : ops[i]? = some o) (hg : o.guard = none) (h : o.wpIn F n P a w K Q) : wpOpIn F n P ops Q i K a w := by
  unfold wpOpIn
  simp only [hi]
  rw [if_pos (wanted_none hg _)]
  exact h
/-- THE REGION in a round: the store st last -/
theorem region_tailIn {id : Nat} {a : Act} {w : World} (hm : P.follows .mixedOrders = true) (S : World → Prop) (h0 : S w.drew) (hnd : noDeferB ops = true) (st : Nat) (hlast : ops.size = st + 1) (hb : backB ops = true) (hl : lastB ops st = true)
    (h : ∀ R : Act → Prop, Hid (∀ a', (∀ w', S w' → wpOpIn (Fence.wide.inRound l) n P ops Q st (fun a'' w'' => Q .normal a'' w'') a' w') → R a') → AllS P .any ops S R st ((Array.replicate ops.size false).setIfInBounds st true) a) : (Code.region id ops true).wpIn (Fence.wide.inRound l) n P Q a w := by
  refine wpIn_region_any hm ?_
  obtain ⟨os, hos⟩ : ∃ os, ops[st]? = some os := ⟨_, Array.getElem?_eq_getElem (by omega)⟩
  have hh := h (fun a' => ∀ w', S w' → wpOpIn (Fence.wide.inRound l) n P ops Q st (fun a'' w'' => Q .normal a'' w'') a' w') (Lib.hid fun _ h => h)
  have hac : ∀ i o, ops[i]? = some o → ∀ e ∈ o.after, Region.binds .any e = true → e.on < i := fun i o ho e he _ => by
    have h1 := List.all_eq_true.1 hb i (List.mem_range.2 (Array.getElem?_eq_some_iff.1 ho).1)
    rw [ho] at h1
    exact of_decide_eq_true (List.all_eq_true.1 h1 e (by simpa using he))
  have hall : ∀ i, i < st → ∃ e ∈ os.after, Region.binds .any e = true ∧ e.on = i := fun i hi => by
    have h1 := List.all_eq_true.1 hl i (List.mem_range.2 hi)
    rw [hos] at h1
    obtain ⟨e, he, h2⟩ := List.any_eq_true.1 h1
    simp only [Bool.and_eq_true, decide_eq_true_eq] at h2
    exact ⟨e, by simpa using he, h2⟩
  have := tail_soundIn hnd hos hlast hac hall (Q := Q) (S := S) (R := fun a' => ∀ w', S w' → wpOpIn (Fence.wide.inRound l) n P ops Q st (fun a'' w'' => Q .normal a'' w'') a' w') (fun a w hS hR => hR w hS) st (Array.replicate ops.size false) a w.drew (by simp) (by simp [hlast]) hh h0
  rw [hlast]
  rw [hlast] at this
  exact this
end

/-! ### what a round keeps -/
/-- the blocks of K lie as they lay -/
def KeepB (K : Nat → Prop) (W W' : World) : Prop := ∀ k, K k → W'.heap[k]? = W.heap[k]?
theorem KeepB.refl (K : Nat → Prop) (W : World) : KeepB K W W := fun _ _ => rfl
theorem KeepB.trans {K : Nat → Prop} {X Y Z : World} (h : KeepB K X Y) (k : KeepB K Y Z) : KeepB K X Z := fun i hi => (k i hi).trans (h i hi)
theorem KeepB.obj {K : Nat → Prop} {w : World} (hK : ∀ k, K k → k < w.heap.size) (W : World) (l : Nat) (o o' : Obj) (hl : w.heap.size ≤ l) (_ : W.heap[l]? = some o) (_ : o.isCells = false) (_ : o.isWalk = false) : KeepB K W (W.putObj l o') :=
  fun k hk => World.putObj_heap_other (by have := hK k hk; omega)
theorem KeepB.set_ {K : Nat → Prop} {b : Nat} (hb : ¬ K b) (W : World) (v : Value) : KeepB K W (W.setCell ⟨b, 0, none⟩ v) :=
  fun k hk => Below.heap_setCell _ _ _ k (fun e => hb (by
    have e' : k = b := by first | exact e | exact e.symm
    exact e' ▸ hk))
theorem KeepB.below {K : Nat → Prop} {W W' : World} (b : Below W.heap.size W W') (hK : ∀ k, K k → k < W.heap.size) : KeepB K W W' := fun k hk => b.block k (hK k hk)
theorem grown_of_below {w w' : World} (h : Below w.heap.size w w') : w.grownBy w' none := ⟨h.os, h.tape, h.output, h.size, fun k hk _ => h.block k hk⟩
end Go.Proofs.Ytddihpiheopleaa
