/- As XYTail: a region that draws and whose last operation, a store, waits for all others, some of them by way of another one. For any layer. No walk. -/
import Derived.Test.YtejcfhfmdijimaaDoorYTail
namespace Go.Proofs.YtejcfhfmdijimaaDoor
open Go.ChangeShapes Go.WideShapes Go.ChangeAt Go.RowKit

section
variable {P : Program} {ops : Array Oper} {Q : Exit → Act → World → Prop} {md : Region.Mode} {S : World → Prop} {R : Act → Prop}

/-- what has come up has come up behind what it waits for -/
def Closed (md : Region.Mode) (ops : Array Oper) (listed : Array Bool) : Prop :=
  ∀ (j : Nat) (o : Oper), ops[j]? = some o → listed.getD j false = true → ∀ e ∈ o.after, Region.binds md e = true → listed.getD e.on false = true
theorem getD_set_false {xs : Array Bool} {i j : Nat} (h : xs.getD j false = true) : (xs.setIfInBounds i true).getD j false = true := by
  by_cases hj : j < xs.size
  · by_cases e : i = j
    · subst e
      simp [hj]
    · simp [hj, e] at h ⊢
      exact h
  · simp [hj] at h

theorem tail_sound2 {st : Nat} {os : Oper} (hst : ops[st]? = some os) (hlast : ops.size = st + 1)
    (hac : ∀ i o, ops[i]? = some o → ∀ e ∈ o.after, Region.binds md e = true → e.on < i)
    (hall : ∀ i, i < st → (∃ e ∈ os.after, Region.binds md e = true ∧ e.on = i) ∨ ∃ (j : Nat) (oj : Oper), ops[j]? = some oj ∧ (∃ e ∈ os.after, Region.binds md e = true ∧ e.on = j) ∧ ∃ e ∈ oj.after, Region.binds md e = true ∧ e.on = i)
    (hQ : ∀ a w, S w → R a → Go.wpOp P ops Q st (fun a' w' => Q .normal a' w') a w) :
    ∀ (fuel : Nat) (listed : Array Bool) (a : Act) (w : World), listed.size = ops.size → listed.getD st true = false → Closed md ops listed →
      AllS P md ops S R fuel (listed.setIfInBounds st true) a → S w → wpAny P md ops Q (fuel + 1) listed a w := by
  intro fuel
  induction fuel with
  | zero =>
    intro listed a w hsz hun hcl hA hS
    refine ⟨fun h => absurd h (unlisted_ready hac hsz st hun), fun i hi => ?_⟩
    by_cases e : i = st
    · subst e
      exact wpOp_mono (fun a' w' h => ⟨hA.1, h⟩) (hQ a w hS hA.2)
    · have := ready_mono hi e
      rw [hA.1] at this
      cases this
  | succ f ih =>
    intro listed a w hsz hun hcl hA hS
    refine ⟨fun h => absurd h (unlisted_ready hac hsz st hun), fun i hi => ?_⟩
    obtain ⟨_, oi0, hoi0, hl0⟩ := mem_ready.1 hi
    by_cases e : i = st
    · subst e
      have hl := hl0
      rw [hst] at hoi0
      injection hoi0 with hoi0
      subst hoi0
      have hnone : Region.ready md ops (listed.setIfInBounds i true) = [] := by
        rw [List.eq_nil_iff_forall_not_mem]
        intro j hj
        obtain ⟨h1, o, ho, _⟩ := mem_ready.1 hj
        have hjs : j < ops.size := (Array.getElem?_eq_some_iff.1 ho).1
        have hjl : j < listed.size := by omega
        by_cases ej : j = i
        · subst ej
          simp [hjl] at h1
        · have h2 : listed.getD j false = true := by
            rcases hall j (by omega) with ⟨ed, hed, hb, hon⟩ | ⟨k, ok, hk, ⟨ed, hed, hb, hon⟩, e2, he2, hb2, hon2⟩
            · rw [← hon]; exact hl ed hed hb
            · have h3 := hl ed hed hb
              rw [hon] at h3
              rw [← hon2]
              exact hcl k ok hk h3 e2 he2 hb2
          rw [getD_set_ne true (Ne.symm ej)] at h1
          simp [hjl] at h1 h2
          rw [h1] at h2
          cases h2
      exact wpOp_mono (fun a' w' h => ⟨fun _ => h, fun j hj => by rw [hnone] at hj; cases hj⟩) (hQ a w hS (hA.1 hnone))
    · obtain ⟨oi, v, ho, hk, hr⟩ := hA.2 i (ready_mono hi e)
      refine hk.step ho hS fun w' hS' => ?_
      refine ih (listed.setIfInBounds i true) _ w' (by simpa using hsz) (by rw [getD_set_ne true e]; exact hun) ?_ ?_ hS'
      · intro j o hjo hjl ed hed hb
        by_cases ej : j = i
        · subst ej
          rw [hoi0] at hjo
          injection hjo with hjo
          subst hjo
          exact getD_set_false (hl0 ed hed hb)
        · rw [getD_set_ne false (Ne.symm ej)] at hjl
          exact getD_set_false (hcl j o hjo hjl ed hed hb)
      · rw [Array.setIfInBounds_comm _ _ e]
        exact hr

/-- the operation st waits for all others, by way of another one at most -/
def lastB2 (ops : Array Oper) (st : Nat) : Bool := (List.range st).all fun i => match ops[st]? with
  | some o => o.after.toList.any fun e => Region.binds .any e && (decide (e.on = i) || match ops[e.on]? with
    | some o2 => o2.after.toList.any fun e2 => Region.binds .any e2 && decide (e2.on = i)
    | none => false)
  | none => false

/-- THE REGION: the store st last -/
theorem region_tail2 {id : Nat} {a : Act} {w : World} (hm : P.follows .mixedOrders = true) (S : World → Prop) (h0 : S w.drew) (st : Nat) (hlast : ops.size = st + 1) (hb : backB ops = true) (hl : lastB2 ops st = true)
    (h : ∀ R : Act → Prop, Hid (∀ a', (∀ w', S w' → Go.wpOp P ops Q st (fun a'' w'' => Q .normal a'' w'') a' w') → R a') → AllS P .any ops S R st ((Array.replicate ops.size false).setIfInBounds st true) a) : (Code.region id ops true).wp P Q a w := by
  refine wp_region_any hm ?_
  obtain ⟨os, hos⟩ : ∃ os, ops[st]? = some os := ⟨_, Array.getElem?_eq_getElem (by omega)⟩
  have hh := h (fun a' => ∀ w', S w' → Go.wpOp P ops Q st (fun a'' w'' => Q .normal a'' w'') a' w') (Lib.hid fun _ h => h)
  have hac : ∀ i o, ops[i]? = some o → ∀ e ∈ o.after, Region.binds .any e = true → e.on < i := fun i o ho e he _ => by
    have h1 := List.all_eq_true.1 hb i (List.mem_range.2 (Array.getElem?_eq_some_iff.1 ho).1)
    rw [ho] at h1
    exact of_decide_eq_true (List.all_eq_true.1 h1 e (by simpa using he))
  have hall : ∀ i, i < st → (∃ e ∈ os.after, Region.binds .any e = true ∧ e.on = i) ∨ ∃ (j : Nat) (oj : Oper), ops[j]? = some oj ∧ (∃ e ∈ os.after, Region.binds .any e = true ∧ e.on = j) ∧ ∃ e ∈ oj.after, Region.binds .any e = true ∧ e.on = i := fun i hi => by
    have h1 := List.all_eq_true.1 hl i (List.mem_range.2 hi)
    rw [hos] at h1
    obtain ⟨e, he, h2⟩ := List.any_eq_true.1 h1
    simp only [Bool.and_eq_true, Bool.or_eq_true, decide_eq_true_eq] at h2
    obtain ⟨h2, h3 | h3⟩ := h2
    · exact .inl ⟨e, by simpa using he, h2, h3⟩
    · cases hj : ops[e.on]? with
      | none => rw [hj] at h3; cases h3
      | some oj =>
        rw [hj] at h3
        obtain ⟨e2, he2, h4⟩ := List.any_eq_true.1 h3
        simp only [Bool.and_eq_true, decide_eq_true_eq] at h4
        exact .inr ⟨e.on, oj, hj, ⟨e, by simpa using he, h2, rfl⟩, e2, by simpa using he2, h4.1, h4.2⟩
  have := tail_sound2 hos hlast hac hall (Q := Q) (S := S) (R := fun a' => ∀ w', S w' → Go.wpOp P ops Q st (fun a'' w'' => Q .normal a'' w'') a' w') (fun a w hS hR => hR w hS) st (Array.replicate ops.size false) a w.drew (by simp) (by simp [hlast]) (fun j o hj h => by
    by_cases hjs : j < ops.size
    · simp [hjs] at h
    · simp [hjs] at h) hh h0
  rw [hlast]
  rw [hlast] at this
  exact this
end
end Go.Proofs.YtejcfhfmdijimaaDoor
