/- A region that draws its order, of operations that each yield one value in every world that meets a condition S (reads, and calls that may make memory), and whose LAST operation, a store, waits for all others: one order stands for all, the store last; it may hit a cell that the region loads. For any layer. No walk. -/
import Derived.Test.YtddihpiheopleaaYLaws
namespace Go.Proofs.Ytddihpiheopleaa
open Go.ChangeShapes Go.WideShapes Go.ChangeAt Go.RowKit

section
variable {P : Program} {ops : Array Oper} {Q : Exit → Act → World → Prop} {md : Region.Mode} {S : World → Prop} {R : Act → Prop}

theorem unlisted_ready (hac : ∀ i o, ops[i]? = some o → ∀ e ∈ o.after, Region.binds md e = true → e.on < i) {listed : Array Bool} (hsz : listed.size = ops.size) :
    ∀ j, listed.getD j true = false → Region.ready md ops listed ≠ [] := by
  intro j
  induction j using Nat.strongRecOn with
  | ind j ih =>
    intro hj
    have hjs : j < listed.size := by
      rcases Nat.lt_or_ge j listed.size with h | h
      · exact h
      · simp [Array.getElem?_eq_none h] at hj
    obtain ⟨o, ho⟩ : ∃ o, ops[j]? = some o := ⟨_, Array.getElem?_eq_getElem (by omega)⟩
    by_cases hall : ∀ e ∈ o.after, Region.binds md e = true → listed.getD e.on false = true
    · intro h0
      have := mem_ready.2 ⟨hj, o, ho, hall⟩
      rw [h0] at this
      cases this
    · have hex : ∃ e, e ∈ o.after ∧ Region.binds md e = true ∧ ¬ listed.getD e.on false = true := by
        apply Classical.byContradiction
        intro hno
        exact hall fun e he hb => Classical.byContradiction fun hn => hno ⟨e, he, hb, hn⟩
      obtain ⟨e, he, hb, hn⟩ := hex
      have hlt := hac j o ho e he hb
      refine ih e.on hlt ?_
      have hs2 : e.on < listed.size := by omega
      simp [hs2] at hn ⊢
      exact hn

theorem tail_sound {st : Nat} {os : Oper} (hst : ops[st]? = some os) (hlast : ops.size = st + 1)
    (hac : ∀ i o, ops[i]? = some o → ∀ e ∈ o.after, Region.binds md e = true → e.on < i)
    (hall : ∀ i, i < st → ∃ e ∈ os.after, Region.binds md e = true ∧ e.on = i)
    (hQ : ∀ a w, S w → R a → Go.wpOp P ops Q st (fun a' w' => Q .normal a' w') a w) :
    ∀ (fuel : Nat) (listed : Array Bool) (a : Act) (w : World), listed.size = ops.size → listed.getD st true = false →
      AllS P md ops S R fuel (listed.setIfInBounds st true) a → S w → wpAny P md ops Q (fuel + 1) listed a w := by
  intro fuel
  induction fuel with
  | zero =>
    intro listed a w hsz hun hA hS
    refine ⟨fun h => absurd h (unlisted_ready hac hsz st hun), fun i hi => ?_⟩
    by_cases e : i = st
    · subst e
      exact wpOp_mono (fun a' w' h => ⟨hA.1, h⟩) (hQ a w hS hA.2)
    · have := ready_mono hi e
      rw [hA.1] at this
      cases this
  | succ f ih =>
    intro listed a w hsz hun hA hS
    refine ⟨fun h => absurd h (unlisted_ready hac hsz st hun), fun i hi => ?_⟩
    by_cases e : i = st
    · subst e
      obtain ⟨_, o2, ho2, hl⟩ := mem_ready.1 hi
      rw [hst] at ho2
      injection ho2 with ho2
      subst ho2
      have hnone : Region.ready md ops (listed.setIfInBounds i true) = [] := by
        rw [List.eq_nil_iff_forall_not_mem]
        intro j hj
        obtain ⟨h1, o, ho, _⟩ := mem_ready.1 hj
        have hjs : j < ops.size := (Array.getElem?_eq_some_iff.1 ho).1
        by_cases ej : j = i
        · subst ej
          have hjl : j < listed.size := by omega
          simp [hjl] at h1
        · obtain ⟨ed, hed, hb, hon⟩ := hall j (by omega)
          have h2 := hl ed hed hb
          rw [hon] at h2
          rw [getD_set_ne true (Ne.symm ej)] at h1
          have hjl : j < listed.size := by omega
          simp [hjl] at h1 h2
          rw [h1] at h2
          cases h2
      exact wpOp_mono (fun a' w' h => ⟨fun _ => h, fun j hj => by rw [hnone] at hj; cases hj⟩) (hQ a w hS (hA.1 hnone))
    · obtain ⟨oi, v, ho, hk, hr⟩ := hA.2 i (ready_mono hi e)
      refine hk.step ho hS fun w' hS' => ?_
      refine ih (listed.setIfInBounds i true) _ w' (by simpa using hsz) (by rw [getD_set_ne true e]; exact hun) ?_ hS'
      rw [Array.setIfInBounds_comm _ _ e]
      exact hr

theorem wpOp_of_wp {i : Nat} {o : Oper} {a : Act} {w : World} {K : Act → World → Prop} (hi : ops[i]? = some o) (hg : o.guard = none) (h : o.wp P a w K Q) : Go.wpOp P ops Q i K a w := by
  unfold Go.wpOp
  simp only [hi]
  rw [if_pos (wanted_none hg _)]
  exact .inl h

/-- edges lead back -/
def backB (ops : Array Oper) : Bool := (List.range ops.size).all fun i => match ops[i]? with
  | some o => o.after.toList.all fun e => decide (e.on < i)
  | none => true
/-- the operation st waits for all others -/
def lastB (ops : Array Oper) (st : Nat) : Bool := (List.range st).all fun i => match ops[st]? with
  | some o => o.after.toList.any fun e => Region.binds .any e && decide (e.on = i)
  | none => false

/-- THE REGION: the store st last -/
theorem region_tail {id : Nat} {a : Act} {w : World} (hm : P.follows .mixedOrders = true) (S : World → Prop) (h0 : S w.drew) (st : Nat) (hlast : ops.size = st + 1) (hb : backB ops = true) (hl : lastB ops st = true)
    (h : ∀ R : Act → Prop, Hid (∀ a', (∀ w', S w' → Go.wpOp P ops Q st (fun a'' w'' => Q .normal a'' w'') a' w') → R a') → AllS P .any ops S R st ((Array.replicate ops.size false).setIfInBounds st true) a) : (Code.region id ops true).wp P Q a w := by
  refine wp_region_any hm ?_
  obtain ⟨os, hos⟩ : ∃ os, ops[st]? = some os := ⟨_, Array.getElem?_eq_getElem (by omega)⟩
  have hh := h (fun a' => ∀ w', S w' → Go.wpOp P ops Q st (fun a'' w'' => Q .normal a'' w'') a' w') (Lib.hid fun _ h => h)
  have hac : ∀ i o, ops[i]? = some o → ∀ e ∈ o.after, Region.binds .any e = true → e.on < i := fun i o ho e he _ => by
    have h1 := List.all_eq_true.1 hb i (List.mem_range.2 (Array.getElem?_eq_some_iff.1 ho).1)
    rw [ho] at h1
    exact of_decide_eq_true (List.all_eq_true.1 h1 e (by simpa using he))
  have hall : ∀ i, i < st → ∃ e ∈ os.after, Region.binds .any e = true ∧ e.on = i := fun i hi => by
    have h1 := List.all_eq_true.1 hl i (List.mem_range.2 hi)
    rw [hos] at h1
    obtain ⟨e, he, h2⟩ := List.any_eq_true.1 h1
    simp only [Bool.and_eq_true, decide_eq_true_eq] at h2
    exact ⟨e, by simpa using he, h2⟩
  have := tail_sound hos hlast hac hall (Q := Q) (S := S) (R := fun a' => ∀ w', S w' → Go.wpOp P ops Q st (fun a'' w'' => Q .normal a'' w'') a' w') (fun a w hS hR => hR w hS) st (Array.replicate ops.size false) a w.drew (by simp) (by simp [hlast]) hh h0
  rw [hlast]
  rw [hlast] at this
  exact this
end
end Go.Proofs.Ytddihpiheopleaa
