/- As XRegP, where an operation may also write into what others of the region have made: it names those whose fact it ends (kill), and no other one that waits for such a fact may come behind it. For any layer. No walk. -/
import Derived.Test.YtpaaicbgehpdiaaRegP
namespace Go.Proofs.Ytpaaicbgehpdiaa
open Go.ChangeShapes Go.WideShapes Go.ChangeAt Go.RowKit

section
variable {P : Program} {ops : Array Oper} {Q : Exit → Act → World → Prop} {S : World → Prop} {Φ : Nat → Value → World → Prop} {kill : Nat → Nat → Bool}

/-- operation i waits for operation j, by way of others too -/
def reach (ops : Array Oper) : Nat → Nat → Nat → Bool
  | 0, _, _ => false
  | f + 1, i, j => waits ops i j || (List.range ops.size).any fun k => waits ops i k && reach ops f k j
def killB (ops : Array Oper) (kill : Nat → Nat → Bool) : Bool := (List.range ops.size).all fun i => (List.range ops.size).all fun j => !kill i j ||
  (if reach ops ops.size i j then (List.range ops.size).all fun k => !waits ops k j || k == i || reach ops ops.size i k || reach ops ops.size k i else reach ops ops.size j i)
/-- operation i may lean on what operation j left: it waits for it, and none that ends it has come before -/
def givenB (ops : Array Oper) (kill : Nat → Nat → Bool) (i j : Nat) : Bool := waits ops i j && (List.range ops.size).all fun k => !(kill k j && reach ops ops.size k j && reach ops ops.size i k)

def GivesK (P : Program) (S : World → Prop) (Φ : Nat → Value → World → Prop) (kill : Nat → Nat → Bool) (us : Nat → Value) (i : Nat) (w : World) (r : Result Next) : Prop :=
  (∃ u w', r = .ok (.value u) w' ∧ S w' ∧ Φ i u w' ∧ ∀ j, j ≠ i → kill i j = false → Φ j (us j) w → Φ j (us j) w') ∨
  (∃ f args, r = .ok (.enter f args) w ∧ Calls P f args w fun e w' => ∃ u, e = .returned u ∧ S w' ∧ Φ i u w' ∧ ∀ j, j ≠ i → kill i j = false → Φ j (us j) w → Φ j (us j) w')
def StepK (P : Program) (ops : Array Oper) (S : World → Prop) (Φ : Nat → Value → World → Prop) (kill : Nat → Nat → Bool) (us : Nat → Value) (i : Nat) (o : Oper) (a : Act) (w : World) : Prop :=
  (Region.wanted o (yielded ops a.tmps) = true ∧ GivesK P S Φ kill us i w ((execOp a.eval o).run P w)) ∨ (Region.wanted o (yielded ops a.tmps) = false ∧ Φ i undef w)
theorem StepK.step {us : Nat → Value} {i : Nat} {o : Oper} {a : Act} {K : Act → World → Prop} {w : World} (hi : ops[i]? = some o) (hS : S w) (hy : StepK P ops S Φ kill us i o a w)
    (h : ∀ u w', S w' → Φ i u w' → (∀ j, j ≠ i → kill i j = false → Φ j (us j) w → Φ j (us j) w') → K (a.put o.dst u) w') : Go.wpOp P ops Q i K a w := by
  unfold Go.wpOp
  simp only [hi]
  rcases hy with ⟨hw, ⟨u, w', hr, h1, h2, h3⟩ | ⟨f, args, hr, hc⟩⟩ | ⟨hw, hp⟩
  · rw [if_pos hw]
    left
    simp only [Oper.wp, hr, Oper.upon]
    exact h u w' h1 h2 h3
  · rw [if_pos hw]
    left
    simp only [Oper.wp, hr, Oper.upon]
    refine Calls.mono hc ?_
    rintro e w'' ⟨u, rfl, h1, h2, h3⟩
    exact h u w'' h1 h2 h3
  · rw [if_neg (by simp [hw])]
    exact h undef w hS hp fun _ _ _ h => h

theorem reach_listed {listed : Nat → Bool} (hcl : ∀ k m, listed k = true → waits ops k m = true → listed m = true) : ∀ (f i j : Nat), listed i = true → reach ops f i j = true → listed j = true
  | 0, _, _, _, h => by cases h
  | f + 1, i, j, hi, h => by
    unfold reach at h
    rcases Bool.or_eq_true .. ▸ h with h | h
    · exact hcl i j hi h
    · obtain ⟨k, _, hk⟩ := List.any_eq_true.1 h
      simp only [Bool.and_eq_true] at hk
      exact reach_listed hcl f k j (hcl i k hi hk.1) hk.2

structure InvK (ops : Array Oper) (Φ : Nat → Value → World → Prop) (kill : Nat → Nat → Bool) (listed : Nat → Bool) (us : Nat → Value) (w : World) : Prop where
  cl : ∀ k m, listed k = true → waits ops k m = true → listed m = true
  fact : ∀ j, listed j = true → (∀ i, listed i = true → kill i j = true → reach ops ops.size i j = true → False) → Φ j (us j) w

theorem regK_sound {a : Act}
    (hd : Dist ops.toList) (hlk : ∀ i o j o' d, ops[i]? = some o → ops[j]? = some o' → o'.dst = some d → d ∈ o.looksAt ops → waits ops i j = true)
    (hac : ∀ i o, ops[i]? = some o → ∀ e ∈ o.after, Region.binds .any e = true → e.on < i) (hsel : ∀ (j : Nat) (o : Oper) cs b, ops[j]? = some o → o.op ≠ .select cs b)
    (hk1 : ∀ i j, i < ops.size → j < ops.size → kill i j = true → reach ops ops.size i j = true → ∀ k, k < ops.size → waits ops k j = true → k = i ∨ reach ops ops.size i k = true ∨ reach ops ops.size k i = true)
    (hk2 : ∀ i j, i < ops.size → j < ops.size → kill i j = true → reach ops ops.size i j = false → reach ops ops.size j i = true)
    (hstep : ∀ i o, ops[i]? = some o → ∀ us w, S w → (∀ j, givenB ops kill i j = true → Φ j (us j) w) → StepK P ops S Φ kill us i o (putAll ops.toList 0 us a) w)
    (hdone : ∀ us w, S w → (∀ j, j < ops.size → (∀ i, i < ops.size → kill i j = true → reach ops ops.size i j = true → False) → Φ j (us j) w) → Q .normal (putAll ops.toList 0 us a) w) :
    ∀ (fuel : Nat) (listed : Array Bool) (us : Nat → Value) (w : World), listed.size = ops.size → unl listed ops.size ≤ fuel → S w → InvK ops Φ kill (fun j => listed.getD j false) us w → wpAny P .any ops Q fuel listed (putS (fun j => listed.getD j false) ops.toList 0 us a) w := by
  have hlt : ∀ (listed : Array Bool) j, listed.size = ops.size → listed.getD j false = true → j < ops.size := fun listed j hs h => by
    by_cases e : j < listed.size
    · omega
    · simp [e] at h
  have hall : ∀ (listed : Array Bool) (us : Nat → Value) (w : World), listed.size = ops.size → (∀ j, j < ops.size → listed.getD j true = true) → S w → InvK ops Φ kill (fun j => listed.getD j false) us w → Q .normal (putS (fun j => listed.getD j false) ops.toList 0 us a) w := by
    intro listed us w hs hl hw hp
    have hl2 : ∀ j, j < ops.size → listed.getD j false = true := fun j hj => by
      have h1 : j < listed.size := by omega
      have := hl j hj
      simp [h1] at this ⊢
      exact this
    rw [putS_all _ _ _ _ fun m _ h => hl2 m (by simpa using h)]
    exact hdone us w hw fun j hj hk => hp.fact j (hl2 j hj) fun i hi => hk i (hlt listed i hs hi)
  intro fuel
  induction fuel with
  | zero =>
    intro listed us w hs hu hw hp
    have hz := unl_zero (Nat.le_zero.1 hu)
    refine ⟨?_, hall listed us w hs hz hw hp⟩
    rw [List.eq_nil_iff_forall_not_mem]
    intro j hj
    obtain ⟨h1, o, ho, _⟩ := mem_ready.1 hj
    have := hz j (Array.getElem?_eq_some_iff.1 ho).1
    rw [h1] at this
    cases this
  | succ fuel ih =>
    intro listed us w hs hu hw hp
    refine ⟨fun h0 => hall listed us w hs (fun j _ => ?_) hw hp, fun i hi => ?_⟩
    · cases hj : listed.getD j true with
      | true => rfl
      | false => exact absurd h0 (unlisted_ready hac hs j hj)
    · obtain ⟨h1, o, ho, hdep⟩ := mem_ready.1 hi
      have hin : i < ops.size := (Array.getElem?_eq_some_iff.1 ho).1
      have h1f : listed.getD i false = false := by
        have : i < listed.size := by omega
        simp [this] at h1 ⊢
        exact h1
      have hw2 : ∀ j, waits ops i j = true → listed.getD j false = true := fun j hj => by
        unfold waits at hj
        rw [ho] at hj
        obtain ⟨e, he, hb⟩ := List.any_eq_true.1 hj
        simp only [Bool.and_eq_true, beq_iff_eq] at hb
        rw [← hb.2]
        exact hdep e (by simpa using he) hb.1
      have hreach : ∀ k, listed.getD k false = true → reach ops ops.size k i = true → False := fun k hk hr => by
        have := reach_listed (listed := fun j => listed.getD j false) hp.cl ops.size k i hk hr
        simp only [h1f] at this
        cases this
      have hst := hstep i o ho us w hw fun j hg => by
        obtain ⟨hj, hng⟩ : waits ops i j = true ∧ _ := by
          unfold givenB at hg
          rw [Bool.and_eq_true] at hg
          exact hg
        refine hp.fact j (hw2 j hj) fun k hk hkill hr => ?_
        rcases hk1 k j (hlt listed k hs hk) (hlt listed j hs (hw2 j hj)) hkill hr i hin hj with e | e | e
        · subst e
          simp only [h1f] at hk
          cases hk
        · exact hreach k hk e
        · have := List.all_eq_true.1 hng k (List.mem_range.2 (hlt listed k hs hk))
          rw [hkill, hr, e] at this
          cases this
      have hsame : SameTo ops o (putS (fun j => listed.getD j false) ops.toList 0 us a) (putAll ops.toList 0 us a) := by
        refine same_puts _ 0 _ _ ⟨rfl, fun _ _ => rfl⟩ fun m o' ho' hm e he hle => ?_
        rw [Nat.zero_add] at hm
        have := hw2 m (hlk i o m o' e ho (by simpa using ho') he hle)
        rw [hm] at this
        cases this
      have hst2 : StepK P ops S Φ kill us i o (putS (fun j => listed.getD j false) ops.toList 0 us a) w := by
        unfold StepK at hst ⊢
        rw [hsame.exec (hsel i o · · ho), hsame.wanted]
        exact hst
      refine hst2.step ho hw fun u w' hSw' hpi hkeep => ?_
      have e1 : (fun j => (listed.setIfInBounds i true).getD j false) = updB (fun j => listed.getD j false) i := by
        funext j
        unfold updB
        by_cases e : j = i
        · subst e
          have : j < listed.size := by omega
          simp [this]
        · rw [if_neg e, getD_set_ne false (Ne.symm e)]
      have hput := putS_in (u := u) (listed := fun j => listed.getD j false) h1f ops.toList 0 us a (Nat.zero_le _) (by simpa using ho) hd
      rw [← hput, ← e1]
      refine ih _ _ w' (by simpa using hs) (by have := unl_set hin hs h1; omega) hSw' ?_
      rw [e1]
      refine ⟨fun k m hk hkm => ?_, fun j hj hnk => ?_⟩
      · by_cases e2 : k = i
        · subst e2
          by_cases e3 : m = k
          · rw [e3, updB_eq]
          · rw [updB_ne _ e3]; exact hw2 m hkm
        · rw [updB_ne _ e2] at hk
          by_cases e3 : m = i
          · rw [e3, updB_eq]
          · rw [updB_ne _ e3]; exact hp.cl k m hk hkm
      · by_cases e : j = i
        · subst e
          rw [updU_eq]
          exact hpi
        · rw [updU_ne _ _ e]
          rw [updB_ne _ e] at hj
          have hjn := hlt listed j hs hj
          have hfj := hp.fact j hj fun k hk hkill hr => hnk k (by
            by_cases e2 : k = i
            · rw [e2, updB_eq]
            · rw [updB_ne _ e2]; exact hk) hkill hr
          cases hkij : kill i j with
          | false => exact hkeep j e hkij hfj
          | true =>
            cases hr : reach ops ops.size i j with
            | true => exact (hnk i (updB_eq _ _) hkij hr).elim
            | false => exact (hreach j hj (hk2 i j hin hjn hkij hr)).elim

/-- an operation waits for earlier ones alone (of the edges that bind) -/
def backB2 (ops : Array Oper) : Bool := (List.range ops.size).all fun i => match ops[i]? with
  | some o => o.after.toList.all fun e => !Region.binds .any e || decide (e.on < i)
  | none => true
/-- THE REGION -/
theorem region_K {id : Nat} {a : Act} {w : World} (hm : P.follows .mixedOrders = true) (S : World → Prop) (Φ : Nat → Value → World → Prop) (kill : Nat → Nat → Bool) (h0 : S w.drew)
    (hd : distB ops = true) (hlk : looksB ops = true) (hb : backB2 ops = true) (hs : Region.noSelect ops = true) (hkl : killB ops kill = true)
    (hstep : ∀ us w, S w → ∀ i o, ops[i]? = some o → (∀ j, givenB ops kill i j = true → Φ j (us j) w) → StepK P ops S Φ kill us i o (putAll ops.toList 0 us a) w)
    (hdone : ∀ us w, S w → (∀ j, j < ops.size → (∀ i, i < ops.size → kill i j = true → reach ops ops.size i j = true → False) → Φ j (us j) w) → Q .normal (putAll ops.toList 0 us a) w) : (Code.region id ops true).wp P Q a w := by
  refine wp_region_any hm ?_
  have hac : ∀ i o, ops[i]? = some o → ∀ e ∈ o.after, Region.binds .any e = true → e.on < i := fun i o ho e he hbe => by
    have h1 := List.all_eq_true.1 hb i (List.mem_range.2 (Array.getElem?_eq_some_iff.1 ho).1)
    rw [ho] at h1
    have h2 := List.all_eq_true.1 h1 e (by simpa using he)
    rw [hbe] at h2
    exact of_decide_eq_true (by simpa using h2)
  have hl : ∀ i o j o' d, ops[i]? = some o → ops[j]? = some o' → o'.dst = some d → d ∈ o.looksAt ops → waits ops i j = true := fun i o j o' d ho ho' hd' hx => by
    have h1 := List.all_eq_true.1 (List.all_eq_true.1 hlk i (List.mem_range.2 (Array.getElem?_eq_some_iff.1 ho).1)) j (List.mem_range.2 (Array.getElem?_eq_some_iff.1 ho').1)
    simp only [ho, ho', hd'] at h1
    simpa [hx] using h1
  have hkk : ∀ i j, i < ops.size → j < ops.size → kill i j = true → (if reach ops ops.size i j then (List.range ops.size).all fun k => !waits ops k j || k == i || reach ops ops.size i k || reach ops ops.size k i else reach ops ops.size j i) = true := fun i j hi hj hk => by
    have := List.all_eq_true.1 (List.all_eq_true.1 hkl i (List.mem_range.2 hi)) j (List.mem_range.2 hj)
    rw [hk] at this
    simpa using this
  have := regK_sound (P := P) (Q := Q) (a := a) (dist_of (of_decide_eq_true hd)) hl hac (Region.noSelect_spec hs)
    (fun i j hi hj hk hr k hkn hw => by
      have h1 := hkk i j hi hj hk
      rw [if_pos hr] at h1
      have h2 := List.all_eq_true.1 h1 k (List.mem_range.2 hkn)
      rw [hw] at h2
      simp only [Bool.not_true, Bool.false_or, Bool.or_eq_true, beq_iff_eq, or_assoc] at h2
      exact h2)
    (fun i j hi hj hk hr => by
      have h1 := hkk i j hi hj hk
      rw [if_neg (by simp [hr])] at h1
      exact h1)
    (fun i o ho us w hw hx => hstep us w hw i o ho hx) hdone ops.size (Array.replicate ops.size false) (fun _ => undef) w.drew (by simp) (Nat.le_trans List.countP_le_length (by simp)) h0
    ⟨fun k m hk _ => by
      by_cases h : k < ops.size
      · simp [h] at hk
      · simp [h] at hk, fun j hj _ => by
      by_cases h : j < ops.size
      · simp [h] at hj
      · simp [h] at hj⟩
  rw [putS_none] at this
  · exact this
  · intro m
    by_cases h : m < ops.size
    · simp [h]
    · simp [h]
end
end Go.Proofs.Ytpaaicbgehpdiaa
