/- Contracts of layers below. -/
import Derived.Test.YtmceblkjbpbcoaaGreatDoorPApG
import Derived.Test.YtmceblkjbpbcoaaGreatDoorPAr3
import Derived.Test.YtmceblkjbpbcoaaGreatDoorPBase
namespace Go.Proofs.YtmceblkjbpbcoaaGreatDoor
open Go.ChangeShapes Go.WideShapes Go.ChangeAt Go.RowKit
section
section
variable {P : Program} {ops : Array Oper} {Q : Exit -> Act -> World -> Prop} {S : World -> Prop} {Φ : Nat -> Value -> World -> Prop} {kill : Nat -> Nat -> Bool}
def reach (ops : Array Oper) : Nat -> Nat -> Nat -> Bool
 | 0, _, _ => false
 | f + 1, i, j => waits ops i j || (List.range ops.size).any fun k => waits ops i k && reach ops f k j
def qva (ops : Array Oper) (kill : Nat -> Nat -> Bool) : Bool := (List.range ops.size).all fun i => (List.range ops.size).all fun j => !kill i j ||
 (if reach ops ops.size i j then (List.range ops.size).all fun k => !waits ops k j || k == i || reach ops ops.size i k || reach ops ops.size k i else reach ops ops.size j i)
def givenB (ops : Array Oper) (kill : Nat -> Nat -> Bool) (i j : Nat) : Bool := waits ops i j && (List.range ops.size).all fun k => !(kill k j && reach ops ops.size k j && reach ops ops.size i k)
def GivesK (P : Program) (S : World -> Prop) (Φ : Nat -> Value -> World -> Prop) (kill : Nat -> Nat -> Bool) (us : Nat -> Value) (i : Nat) (w : World) (r : Result Next) : Prop :=
 (∃ u w', r = .ok (.value u) w' /\ S w' /\ Φ i u w' /\ ∀ j, j ≠ i -> kill i j = false -> Φ j (us j) w -> Φ j (us j) w') ∨
 (∃ f args, r = .ok (.enter f args) w /\ Calls P f args w fun e w' => ∃ u, e = .returned u /\ S w' /\ Φ i u w' /\ ∀ j, j ≠ i -> kill i j = false -> Φ j (us j) w -> Φ j (us j) w')
def qbx (P : Program) (ops : Array Oper) (S : World -> Prop) (Φ : Nat -> Value -> World -> Prop) (kill : Nat -> Nat -> Bool) (us : Nat -> Value) (i : Nat) (o : Oper) (a : Act) (w : World) : Prop :=
 (Region.wanted o (yielded ops a.tmps) = true /\ GivesK P S Φ kill us i w ((execOp a.eval o).run P w)) \/ (Region.wanted o (yielded ops a.tmps) = false /\ Φ i undef w)
theorem qbx.step {us : Nat -> Value} {i : Nat} {o : Oper} {a : Act} {K : Act -> World -> Prop} {w : World} (hi : ops[i]? = some o) (hS : S w) (hy : qbx P ops S Φ kill us i o a w)
 (h : ∀ u w', S w' -> Φ i u w' -> (∀ j, j ≠ i -> kill i j = false -> Φ j (us j) w -> Φ j (us j) w') -> K (a.put o.dst u) w') : Go.wpOp P ops Q i K a w := by
 unfold Go.wpOp
 simp only [hi]
 rcases hy with ⟨hw, ⟨u, w', hr, h1, h2, h3⟩ | ⟨f, args, hr, hc⟩⟩ | ⟨hw, hp⟩
 ·rw [if_pos hw]
  left
  simp only [Oper.wp, hr, Oper.upon]
  exact h u w' h1 h2 h3
 ·rw [if_pos hw]
  left
  simp only [Oper.wp, hr, Oper.upon]
  refine Calls.mono hc ?_
  rintro e w'' ⟨u, rfl, h1, h2, h3⟩
  exact h u w'' h1 h2 h3
 ·rw [if_neg (by simp [hw])]
  exact h undef w hS hp fun _ _ _ h => h
theorem qct {listed : Nat -> Bool} (hcl : ∀ k m, listed k = true -> waits ops k m = true -> listed m = true) : ∀ (f i j : Nat), listed i = true -> reach ops f i j = true -> listed j = true
 | 0, _, _, _, h => by cases h
 | f + 1, i, j, hi, h => by
   unfold reach at h
   rcases Bool.or_eq_true .. ▸ h with h | h
   ·exact hcl i j hi h
   ·obtain ⟨k, _, hk⟩ := List.any_eq_true.1 h
    simp only [Bool.and_eq_true] at hk
    exact qct hcl f k j (hcl i k hi hk.1) hk.2
structure InvK (ops : Array Oper) (Φ : Nat -> Value -> World -> Prop) (kill : Nat -> Nat -> Bool) (listed : Nat -> Bool) (us : Nat -> Value) (w : World) : Prop where
 cl : ∀ k m, listed k = true -> waits ops k m = true -> listed m = true
 fact : ∀ j, listed j = true -> (∀ i, listed i = true -> kill i j = true -> reach ops ops.size i j = true -> False) -> Φ j (us j) w
theorem qny {a : Act}
 (hd : Dist ops.toList) (hlk : ∀ i o j o' d, ops[i]? = some o -> ops[j]? = some o' -> o'.dst = some d -> d ∈ o.looksAt ops -> waits ops i j = true)
 (hac : ∀ i o, ops[i]? = some o -> ∀ e ∈ o.after, Region.binds .any e = true -> e.on < i) (hsel : ∀ (j : Nat) (o : Oper) cs b, ops[j]? = some o -> o.op ≠ .select cs b)
 (hk1 : ∀ i j, i < ops.size -> j < ops.size -> kill i j = true -> reach ops ops.size i j = true -> ∀ k, k < ops.size -> waits ops k j = true -> k = i \/ reach ops ops.size i k = true \/ reach ops ops.size k i = true)
 (hk2 : ∀ i j, i < ops.size -> j < ops.size -> kill i j = true -> reach ops ops.size i j = false -> reach ops ops.size j i = true)
 (hstep : ∀ i o, ops[i]? = some o -> ∀ us w, S w -> (∀ j, givenB ops kill i j = true -> Φ j (us j) w) -> qbx P ops S Φ kill us i o (qae ops.toList 0 us a) w)
 (hdone : ∀ us w, S w -> (∀ j, j < ops.size -> (∀ i, i < ops.size -> kill i j = true -> reach ops ops.size i j = true -> False) -> Φ j (us j) w) -> Q .normal (qae ops.toList 0 us a) w) :
 ∀ (fuel : Nat) (listed : Array Bool) (us : Nat -> Value) (w : World), listed.size = ops.size -> unl listed ops.size <= fuel -> S w -> InvK ops Φ kill (fun j => listed.getD j false) us w -> wpAny P .any ops Q fuel listed (putS (fun j => listed.getD j false) ops.toList 0 us a) w := by
 have hlt : ∀ (listed : Array Bool) j, listed.size = ops.size -> listed.getD j false = true -> j < ops.size := fun listed j hs h => by
  by_cases e : j < listed.size
  ·omega
  ·simp [e] at h
 have hall : ∀ (listed : Array Bool) (us : Nat -> Value) (w : World), listed.size = ops.size -> (∀ j, j < ops.size -> listed.getD j true = true) -> S w -> InvK ops Φ kill (fun j => listed.getD j false) us w -> Q .normal (putS (fun j => listed.getD j false) ops.toList 0 us a) w := by
  intro listed us w hs hl hw hp
  have hl2 : ∀ j, j < ops.size -> listed.getD j false = true := fun j hj => by
   have h1 : j < listed.size := by omega
   have := hl j hj
   simp [h1] at this |-
   exact this
  rw [qd7 _ _ _ _ fun m _ h => hl2 m (by simpa using h)]
  exact hdone us w hw fun j hj hk => hp.fact j (hl2 j hj) fun i hi => hk i (hlt listed i hs hi)
 intro fuel
 induction fuel with
 | zero =>
   intro listed us w hs hu hw hp
   have hz := qff (Nat.le_zero.1 hu)
   refine ⟨?_, hall listed us w hs hz hw hp⟩
   rw [List.eq_nil_iff_forall_not_mem]
   intro j hj
   obtain ⟨h1, o, ho, _⟩ := mem_ready.1 hj
   have := hz j (xag ho).1
   rw [h1] at this
   cases this
 | succ fuel ih =>
   intro listed us w hs hu hw hp
   refine ⟨fun h0 => hall listed us w hs (fun j _ => ?_) hw hp, fun i hi => ?_⟩
   ·cases hj : listed.getD j true with
    | true => rfl
    | false => exact absurd h0 (qag hac hs j hj)
   ·obtain ⟨h1, o, ho, hdep⟩ := mem_ready.1 hi
    have hin : i < ops.size := (xag ho).1
    have h1f : listed.getD i false = false := by
     have : i < listed.size := by omega
     simp [this] at h1 |-
     exact h1
    have hw2 : ∀ j, waits ops i j = true -> listed.getD j false = true := fun j hj => by
     unfold waits at hj
     rw [ho] at hj
     obtain ⟨e, he, hb⟩ := List.any_eq_true.1 hj
     simp only [Bool.and_eq_true, beq_iff_eq] at hb
     rw [<- hb.2]
     exact hdep e (by simpa using he) hb.1
    have hreach : ∀ k, listed.getD k false = true -> reach ops ops.size k i = true -> False := fun k hk hr => by
     have := qct (listed := fun j => listed.getD j false) hp.cl ops.size k i hk hr
     simp only [h1f] at this
     cases this
    have hst := hstep i o ho us w hw fun j hg => by
     obtain ⟨hj, hng⟩ : waits ops i j = true /\ _ := by
      unfold givenB at hg
      rw [Bool.and_eq_true] at hg
      exact hg
     refine hp.fact j (hw2 j hj) fun k hk hkill hr => ?_
     rcases hk1 k j (hlt listed k hs hk) (hlt listed j hs (hw2 j hj)) hkill hr i hin hj with e | e | e
     ·subst e
      simp only [h1f] at hk
      cases hk
     ·exact hreach k hk e
     ·have := xam hng k (List.mem_range.2 (hlt listed k hs hk))
      rw [hkill, hr, e] at this
      cases this
    have hsame : SameTo ops o (putS (fun j => listed.getD j false) ops.toList 0 us a) (qae ops.toList 0 us a) := by
     refine qcp _ 0 _ _ ⟨rfl, fun _ _ => rfl⟩ fun m o' ho' hm e he hle => ?_
     rw [Nat.zero_add] at hm
     have := hw2 m (hlk i o m o' e ho (by simpa using ho') he hle)
     rw [hm] at this
     cases this
    have hst2 : qbx P ops S Φ kill us i o (putS (fun j => listed.getD j false) ops.toList 0 us a) w := by
     unfold qbx at hst |-
     rw [hsame.exec (hsel i o · · ho), hsame.wanted]
     exact hst
    refine hst2.step ho hw fun u w' hSw' hpi hkeep => ?_
    have e1 : (fun j => (listed.setIfInBounds i true).getD j false) = qf0 (fun j => listed.getD j false) i := by
     funext j
     unfold qf0
     by_cases e : j = i
     ·subst e
      have : j < listed.size := by omega
      simp [this]
     ·rw [if_neg e, getD_set_ne false (Ne.symm e)]
    have hput := qf5 (u := u) (listed := fun j => listed.getD j false) h1f ops.toList 0 us a (Nat.zero_le _) (by simpa using ho) hd
    rw [<- hput, <- e1]
    refine ih _ _ w' (by simpa using hs) (by have := qh3 hin hs h1; omega) hSw' ?_
    rw [e1]
    refine ⟨fun k m hk hkm => ?_, fun j hj hnk => ?_⟩
    ·by_cases e2 : k = i
     ·subst e2
      by_cases e3 : m = k
      ·rw [e3, qbe]
      ·rw [qaj _ e3]; exact hw2 m hkm
     ·rw [qaj _ e2] at hk
      by_cases e3 : m = i
      ·rw [e3, qbe]
      ·rw [qaj _ e3]; exact hp.cl k m hk hkm
    ·by_cases e : j = i
     ·subst e
      rw [qb9]
      exact hpi
     ·rw [qa3 _ _ e]
      rw [qaj _ e] at hj
      have hjn := hlt listed j hs hj
      have hfj := hp.fact j hj fun k hk hkill hr => hnk k (by
       by_cases e2 : k = i
       ·rw [e2, qbe]
       ·rw [qaj _ e2]; exact hk) hkill hr
      cases hkij : kill i j with
      | false => exact hkeep j e hkij hfj
      | true =>
        cases hr : reach ops ops.size i j with
        | true => exact (hnk i (qbe _ _) hkij hr).elim
        | false => exact (hreach j hj (hk2 i j hin hjn hkij hr)).elim
def qki (ops : Array Oper) : Bool := (List.range ops.size).all fun i => match ops[i]? with
 | some o => o.after.toList.all fun e => !Region.binds .any e || decide (e.on < i)
 | none => true
theorem qt3 {id : Nat} {a : Act} {w : World} (hm : P.follows .mixedOrders = true) (S : World -> Prop) (Φ : Nat -> Value -> World -> Prop) (kill : Nat -> Nat -> Bool) (h0 : S w.drew)
 (hd : qol ops = true) (hlk : qhj ops = true) (hb : qki ops = true) (hs : Region.noSelect ops = true) (hkl : qva ops kill = true)
 (hstep : ∀ us w, S w -> ∀ i o, ops[i]? = some o -> (∀ j, givenB ops kill i j = true -> Φ j (us j) w) -> qbx P ops S Φ kill us i o (qae ops.toList 0 us a) w)
 (hdone : ∀ us w, S w -> (∀ j, j < ops.size -> (∀ i, i < ops.size -> kill i j = true -> reach ops ops.size i j = true -> False) -> Φ j (us j) w) -> Q .normal (qae ops.toList 0 us a) w) : (Code.region id ops true).wp P Q a w := by
 refine wp_region_any hm ?_
 have hac : ∀ i o, ops[i]? = some o -> ∀ e ∈ o.after, Region.binds .any e = true -> e.on < i := fun i o ho e he hbe => by
  have h1 := xam hb i (List.mem_range.2 (xag ho).1)
  rw [ho] at h1
  have h2 := xam h1 e (by simpa using he)
  rw [hbe] at h2
  exact of_decide_eq_true (by simpa using h2)
 have hl : ∀ i o j o' d, ops[i]? = some o -> ops[j]? = some o' -> o'.dst = some d -> d ∈ o.looksAt ops -> waits ops i j = true := fun i o j o' d ho ho' hd' hx => by
  have h1 := xam (xam hlk i (List.mem_range.2 (xag ho).1)) j (List.mem_range.2 (xag ho').1)
  simp only [ho, ho', hd'] at h1
  simpa [hx] using h1
 have hkk : ∀ i j, i < ops.size -> j < ops.size -> kill i j = true -> (if reach ops ops.size i j then (List.range ops.size).all fun k => !waits ops k j || k == i || reach ops ops.size i k || reach ops ops.size k i else reach ops ops.size j i) = true := fun i j hi hj hk => by
  have := xam (xam hkl i (List.mem_range.2 hi)) j (List.mem_range.2 hj)
  rw [hk] at this
  simpa using this
 have := qny (P := P) (Q := Q) (a := a) (qeu (of_decide_eq_true hd)) hl hac (Region.noSelect_spec hs)
  (fun i j hi hj hk hr k hkn hw => by
   have h1 := hkk i j hi hj hk
   rw [if_pos hr] at h1
   have h2 := xam h1 k (List.mem_range.2 hkn)
   rw [hw] at h2
   simp only [Bool.not_true, Bool.false_or, Bool.or_eq_true, beq_iff_eq, or_assoc] at h2
   exact h2)
  (fun i j hi hj hk hr => by
   have h1 := hkk i j hi hj hk
   rw [if_neg (by simp [hr])] at h1
   exact h1)
  (fun i o ho us w hw hx => hstep us w hw i o ho hx) hdone ops.size (Array.replicate ops.size false) (fun _ => undef) w.drew (by simp) (xau List.countP_le_length (by simp)) h0
  ⟨fun k m hk _ => by
   by_cases h : k < ops.size
   ·simp [h] at hk
   ·simp [h] at hk, fun j hj _ => by
   by_cases h : j < ops.size
   ·simp [h] at hj
   ·simp [h] at hj⟩
 rw [qcu] at this
 ·exact this
 ·intro m
  by_cases h : m < ops.size
  ·simp [h]
  ·simp [h]
end
end
section
section
variable {P : Program} {ops : Array Oper} {Q : Exit -> Act -> World -> Prop}
def qjt : Nat -> Nat -> Bool := fun _ _ => false
theorem qi1.toK {S : World -> Prop} {Φ : Nat -> Value -> World -> Prop} {us : Nat -> Value} {i : Nat} {o : Oper} {a : Act} {w : World} (hS : ∀ w w', S w -> Below w.heap.size w w' -> S w') (hΦ : ∀ j u w w', Φ j u w -> Below w.heap.size w w' -> Φ j u w')
 (hw : S w) (h : qi1 P ops Φ i o a w) : qbx P ops S Φ qjt us i o a w := by
 rcases h with ⟨h1, ⟨u, w', hr, hb, hp⟩ | ⟨f, args, hr, hc⟩⟩ | h
 ·exact .inl ⟨h1, .inl ⟨u, w', hr, hS _ _ hw hb, hp, fun j _ _ hj => hΦ _ _ _ _ hj hb⟩⟩
 ·refine .inl ⟨h1, .inr ⟨f, args, hr, hc.mono ?_⟩⟩
  rintro e w' ⟨u, rfl, hb, hp⟩
  exact ⟨u, rfl, hS _ _ hw hb, hp, fun j _ _ hj => hΦ _ _ _ _ hj hb⟩
 ·exact .inr h
theorem qu9 (ops : Array Oper) : qva ops qjt = true := by simp [qva, qjt]
theorem qqn {id : Nat} {a : Act} {w : World} (hm : P.follows .mixedOrders = true) (S : World -> Prop) (hS : ∀ w w', S w -> Below w.heap.size w w' -> S w') (Φ : Nat -> Value -> World -> Prop) (hΦ : ∀ j u w w', Φ j u w -> Below w.heap.size w w' -> Φ j u w') (h0 : S w.drew)
 (hd : qol ops = true) (hlk : qhj ops = true) (hb : qki ops = true) (hs : Region.noSelect ops = true)
 (hstep : ∀ us w, S w -> ∀ i o, ops[i]? = some o -> (∀ j, waits ops i j = true -> Φ j (us j) w) -> qi1 P ops Φ i o (qae ops.toList 0 us a) w)
 (hdone : ∀ us w, S w -> (∀ j, j < ops.size -> Φ j (us j) w) -> Q .normal (qae ops.toList 0 us a) w) : (Code.region id ops true).wp P Q a w :=
 qt3 hm S Φ qjt h0 hd hlk hb hs (qu9 ops)
  (fun us w hw i o ho hg => (hstep us w hw i o ho fun j hj => hg j (by simp [givenB, hj, qjt])).toK hS hΦ hw)
  (fun us w hw hg => hdone us w hw fun j hj => hg j hj fun i _ h => by cases h)
end
end
section
open Go.Shelf
section
variable {P : Program} {ops : Array Oper} {Q : Exit -> Act -> World -> Prop} {S : World -> Prop} {Φ : Nat -> Value -> World -> Prop} {kill : Nat -> Nat -> Bool} {L N : Nat}
theorem qbx.stepIn {us : Nat -> Value} {i : Nat} {o : Oper} {a : Act} {K : Act -> World -> Prop} {w : World} (hd : ∀ c, o.op ≠ .defer c) (hi : ops[i]? = some o) (hS : S w) (hy : qbx P ops S Φ kill us i o a w)
 (h : ∀ u w', S w' -> Φ i u w' -> (∀ j, j ≠ i -> kill i j = false -> Φ j (us j) w -> Φ j (us j) w') -> K (a.put o.dst u) w') : wpOpIn (Fence.wide.inRound L) N P ops Q i K a w := by
 unfold wpOpIn
 simp only [hi]
 rcases hy with ⟨hw, hv⟩ | ⟨hw, hp⟩
 ·rw [if_pos hw]
  unfold Oper.wpIn
  rw [Oper.semAt_eq _ _ _ hd]
  refine ⟨fun _ _ => trivial, ?_⟩
  rcases hv with ⟨u, w', hr, h1, h2, h3⟩ | ⟨f, args, hr, hc⟩
  ·rw [hr]
   exact h u w' h1 h2 h3
  ·rw [hr]
   rw [Oper.uponIn_enter]
   refine ⟨fun h0 => (by cases h0), CallsIn.inRound L (CallsIn.mono (callsIn_wide.2 hc) ?_)⟩
   rintro e w'' ⟨u, rfl, h1, h2, h3⟩
   exact h u w'' h1 h2 h3
 ·rw [if_neg (by simp [hw])]
  exact ⟨fun _ _ => trivial, h undef w hS hp fun _ _ _ h => h⟩
theorem qjj {a : Act} (hnd : qce ops = true)
 (hd : Dist ops.toList) (hlk : ∀ i o j o' d, ops[i]? = some o -> ops[j]? = some o' -> o'.dst = some d -> d ∈ o.looksAt ops -> waits ops i j = true)
 (hac : ∀ i o, ops[i]? = some o -> ∀ e ∈ o.after, Region.binds .any e = true -> e.on < i) (hsel : ∀ (j : Nat) (o : Oper) cs b, ops[j]? = some o -> o.op ≠ .select cs b)
 (hk1 : ∀ i j, i < ops.size -> j < ops.size -> kill i j = true -> reach ops ops.size i j = true -> ∀ k, k < ops.size -> waits ops k j = true -> k = i \/ reach ops ops.size i k = true \/ reach ops ops.size k i = true)
 (hk2 : ∀ i j, i < ops.size -> j < ops.size -> kill i j = true -> reach ops ops.size i j = false -> reach ops ops.size j i = true)
 (hstep : ∀ i o, ops[i]? = some o -> ∀ us w, S w -> (∀ j, givenB ops kill i j = true -> Φ j (us j) w) -> qbx P ops S Φ kill us i o (qae ops.toList 0 us a) w)
 (hdone : ∀ us w, S w -> (∀ j, j < ops.size -> (∀ i, i < ops.size -> kill i j = true -> reach ops ops.size i j = true -> False) -> Φ j (us j) w) -> Q .normal (qae ops.toList 0 us a) w) :
 ∀ (fuel : Nat) (listed : Array Bool) (us : Nat -> Value) (w : World), listed.size = ops.size -> unl listed ops.size <= fuel -> S w -> InvK ops Φ kill (fun j => listed.getD j false) us w -> wpAnyIn (Fence.wide.inRound L) N P .any ops Q fuel listed (putS (fun j => listed.getD j false) ops.toList 0 us a) w := by
 have hlt : ∀ (listed : Array Bool) j, listed.size = ops.size -> listed.getD j false = true -> j < ops.size := fun listed j hs h => by
  by_cases e : j < listed.size
  ·omega
  ·simp [e] at h
 have hall : ∀ (listed : Array Bool) (us : Nat -> Value) (w : World), listed.size = ops.size -> (∀ j, j < ops.size -> listed.getD j true = true) -> S w -> InvK ops Φ kill (fun j => listed.getD j false) us w -> Q .normal (putS (fun j => listed.getD j false) ops.toList 0 us a) w := by
  intro listed us w hs hl hw hp
  have hl2 : ∀ j, j < ops.size -> listed.getD j false = true := fun j hj => by
   have h1 : j < listed.size := by omega
   have := hl j hj
   simp [h1] at this |-
   exact this
  rw [qd7 _ _ _ _ fun m _ h => hl2 m (by simpa using h)]
  exact hdone us w hw fun j hj hk => hp.fact j (hl2 j hj) fun i hi => hk i (hlt listed i hs hi)
 intro fuel
 induction fuel with
 | zero =>
   intro listed us w hs hu hw hp
   have hz := qff (Nat.le_zero.1 hu)
   refine ⟨?_, hall listed us w hs hz hw hp⟩
   rw [List.eq_nil_iff_forall_not_mem]
   intro j hj
   obtain ⟨h1, o, ho, _⟩ := mem_ready.1 hj
   have := hz j (xag ho).1
   rw [h1] at this
   cases this
 | succ fuel ih =>
   intro listed us w hs hu hw hp
   refine ⟨fun h0 => hall listed us w hs (fun j _ => ?_) hw hp, fun i hi => ?_⟩
   ·cases hj : listed.getD j true with
    | true => rfl
    | false => exact absurd h0 (qag hac hs j hj)
   ·obtain ⟨h1, o, ho, hdep⟩ := mem_ready.1 hi
    have hin : i < ops.size := (xag ho).1
    have h1f : listed.getD i false = false := by
     have : i < listed.size := by omega
     simp [this] at h1 |-
     exact h1
    have hw2 : ∀ j, waits ops i j = true -> listed.getD j false = true := fun j hj => by
     unfold waits at hj
     rw [ho] at hj
     obtain ⟨e, he, hb⟩ := List.any_eq_true.1 hj
     simp only [Bool.and_eq_true, beq_iff_eq] at hb
     rw [<- hb.2]
     exact hdep e (by simpa using he) hb.1
    have hreach : ∀ k, listed.getD k false = true -> reach ops ops.size k i = true -> False := fun k hk hr => by
     have := qct (listed := fun j => listed.getD j false) hp.cl ops.size k i hk hr
     simp only [h1f] at this
     cases this
    have hst := hstep i o ho us w hw fun j hg => by
     obtain ⟨hj, hng⟩ : waits ops i j = true /\ _ := by
      unfold givenB at hg
      rw [Bool.and_eq_true] at hg
      exact hg
     refine hp.fact j (hw2 j hj) fun k hk hkill hr => ?_
     rcases hk1 k j (hlt listed k hs hk) (hlt listed j hs (hw2 j hj)) hkill hr i hin hj with e | e | e
     ·subst e
      simp only [h1f] at hk
      cases hk
     ·exact hreach k hk e
     ·have := xam hng k (List.mem_range.2 (hlt listed k hs hk))
      rw [hkill, hr, e] at this
      cases this
    have hsame : SameTo ops o (putS (fun j => listed.getD j false) ops.toList 0 us a) (qae ops.toList 0 us a) := by
     refine qcp _ 0 _ _ ⟨rfl, fun _ _ => rfl⟩ fun m o' ho' hm e he hle => ?_
     rw [Nat.zero_add] at hm
     have := hw2 m (hlk i o m o' e ho (by simpa using ho') he hle)
     rw [hm] at this
     cases this
    have hst2 : qbx P ops S Φ kill us i o (putS (fun j => listed.getD j false) ops.toList 0 us a) w := by
     unfold qbx at hst |-
     rw [hsame.exec (hsel i o · · ho), hsame.wanted]
     exact hst
    refine hst2.stepIn (qem hnd ho) ho hw fun u w' hSw' hpi hkeep => ?_
    have e1 : (fun j => (listed.setIfInBounds i true).getD j false) = qf0 (fun j => listed.getD j false) i := by
     funext j
     unfold qf0
     by_cases e : j = i
     ·subst e
      have : j < listed.size := by omega
      simp [this]
     ·rw [if_neg e, getD_set_ne false (Ne.symm e)]
    have hput := qf5 (u := u) (listed := fun j => listed.getD j false) h1f ops.toList 0 us a (Nat.zero_le _) (by simpa using ho) hd
    rw [<- hput, <- e1]
    refine ih _ _ w' (by simpa using hs) (by have := qh3 hin hs h1; omega) hSw' ?_
    rw [e1]
    refine ⟨fun k m hk hkm => ?_, fun j hj hnk => ?_⟩
    ·by_cases e2 : k = i
     ·subst e2
      by_cases e3 : m = k
      ·rw [e3, qbe]
      ·rw [qaj _ e3]; exact hw2 m hkm
     ·rw [qaj _ e2] at hk
      by_cases e3 : m = i
      ·rw [e3, qbe]
      ·rw [qaj _ e3]; exact hp.cl k m hk hkm
    ·by_cases e : j = i
     ·subst e
      rw [qb9]
      exact hpi
     ·rw [qa3 _ _ e]
      rw [qaj _ e] at hj
      have hjn := hlt listed j hs hj
      have hfj := hp.fact j hj fun k hk hkill hr => hnk k (by
       by_cases e2 : k = i
       ·rw [e2, qbe]
       ·rw [qaj _ e2]; exact hk) hkill hr
      cases hkij : kill i j with
      | false => exact hkeep j e hkij hfj
      | true =>
        cases hr : reach ops ops.size i j with
        | true => exact (hnk i (qbe _ _) hkij hr).elim
        | false => exact (hreach j hj (hk2 i j hin hjn hkij hr)).elim
theorem qnw {id : Nat} {a : Act} {w : World} (hm : P.follows .mixedOrders = true) (hnd : qce ops = true) (S : World -> Prop) (Φ : Nat -> Value -> World -> Prop) (kill : Nat -> Nat -> Bool) (h0 : S w.drew)
 (hd : qol ops = true) (hlk : qhj ops = true) (hb : qki ops = true) (hs : Region.noSelect ops = true) (hkl : qva ops kill = true)
 (hstep : ∀ us w, S w -> ∀ i o, ops[i]? = some o -> (∀ j, givenB ops kill i j = true -> Φ j (us j) w) -> qbx P ops S Φ kill us i o (qae ops.toList 0 us a) w)
 (hdone : ∀ us w, S w -> (∀ j, j < ops.size -> (∀ i, i < ops.size -> kill i j = true -> reach ops ops.size i j = true -> False) -> Φ j (us j) w) -> Q .normal (qae ops.toList 0 us a) w) : (Code.region id ops true).wpIn (Fence.wide.inRound L) N P Q a w := by
 refine wpIn_region_any hm ?_
 have hac : ∀ i o, ops[i]? = some o -> ∀ e ∈ o.after, Region.binds .any e = true -> e.on < i := fun i o ho e he hbe => by
  have h1 := xam hb i (List.mem_range.2 (xag ho).1)
  rw [ho] at h1
  have h2 := xam h1 e (by simpa using he)
  rw [hbe] at h2
  exact of_decide_eq_true (by simpa using h2)
 have hl : ∀ i o j o' d, ops[i]? = some o -> ops[j]? = some o' -> o'.dst = some d -> d ∈ o.looksAt ops -> waits ops i j = true := fun i o j o' d ho ho' hd' hx => by
  have h1 := xam (xam hlk i (List.mem_range.2 (xag ho).1)) j (List.mem_range.2 (xag ho').1)
  simp only [ho, ho', hd'] at h1
  simpa [hx] using h1
 have hkk : ∀ i j, i < ops.size -> j < ops.size -> kill i j = true -> (if reach ops ops.size i j then (List.range ops.size).all fun k => !waits ops k j || k == i || reach ops ops.size i k || reach ops ops.size k i else reach ops ops.size j i) = true := fun i j hi hj hk => by
  have := xam (xam hkl i (List.mem_range.2 hi)) j (List.mem_range.2 hj)
  rw [hk] at this
  simpa using this
 have := qjj (P := P) (Q := Q) (a := a) (L := L) (N := N) hnd (qeu (of_decide_eq_true hd)) hl hac (Region.noSelect_spec hs)
  (fun i j hi hj hk hr k hkn hw => by
   have h1 := hkk i j hi hj hk
   rw [if_pos hr] at h1
   have h2 := xam h1 k (List.mem_range.2 hkn)
   rw [hw] at h2
   simp only [Bool.not_true, Bool.false_or, Bool.or_eq_true, beq_iff_eq, or_assoc] at h2
   exact h2)
  (fun i j hi hj hk hr => by
   have h1 := hkk i j hi hj hk
   rw [if_neg (by simp [hr])] at h1
   exact h1)
  (fun i o ho us w hw hx => hstep us w hw i o ho hx) hdone ops.size (Array.replicate ops.size false) (fun _ => undef) w.drew (by simp) (xau List.countP_le_length (by simp)) h0
  ⟨fun k m hk _ => by
   by_cases h : k < ops.size
   ·simp [h] at hk
   ·simp [h] at hk, fun j hj _ => by
   by_cases h : j < ops.size
   ·simp [h] at hj
   ·simp [h] at hj⟩
 rw [qcu] at this
 ·exact this
 ·intro m
  by_cases h : m < ops.size
  ·simp [h]
  ·simp [h]
end
end
section
section
variable {P : Program} {ops : Array Oper} {Q : Exit -> Act -> World -> Prop} {md : Region.Mode} {S : World -> Prop} {V : Nat -> Value -> Prop} {phi : Nat -> Value -> World -> Prop} {R : (World -> Prop) -> Act -> Prop} {eff : Nat -> Bool}
def ReadIf (P : Program) (ops : Array Oper) (S : World -> Prop) (o : Oper) (v : Value) (a : Act) : Prop :=
 (Region.wanted o (yielded ops a.tmps) = true /\ ∀ w, S w -> (execOp a.eval o).run P w = .ok (.value v) w) ∨
 (Region.wanted o (yielded ops a.tmps) = false /\ v = undef)
theorem ReadIf.of_same {o : Oper} {v : Value} {a a' : Act} (hy : ReadIf P ops S o v a) (he : execOp a'.eval o = execOp a.eval o)
 (hw : Region.wanted o (yielded ops a'.tmps) = Region.wanted o (yielded ops a.tmps)) : ReadIf P ops S o v a' := by
 unfold ReadIf at *
 rw [he, hw]
 exact hy
theorem ReadIf.uniq {o : Oper} {v v' : Value} {a : Act} {w0 : World} (h0 : S w0) (h : ReadIf P ops S o v a) (h' : ReadIf P ops S o v' a) : v = v' := by
 rcases h with ⟨hw, hv⟩ | ⟨hw, rfl⟩
 ·rcases h' with ⟨_, hv'⟩ | ⟨hw', _⟩
  ·have h1 := hv w0 h0
   rw [hv' w0 h0] at h1
   injection h1 with h1 _
   injection h1 with h1
   exact h1.symm
  ·rw [hw] at hw'; cases hw'
 ·rcases h' with ⟨hw', _⟩ | ⟨_, rfl⟩
  ·rw [hw] at hw'; cases hw'
  ·rfl
structure PostE (S : World -> Prop) (phi : Nat -> Value -> World -> Prop) (i : Nat) (u : Value) (w w' : World) : Prop where
 s : S w'
 fact : phi i u w'
 keep : ∀ j, j ≠ i -> ∀ u', phi j u' w -> phi j u' w'
def qhv (P : Program) (S : World -> Prop) (V : Nat -> Value -> Prop) (phi : Nat -> Value -> World -> Prop) (i : Nat) (w : World) (r : Result Next) : Prop :=
 (∃ u w', r = .ok (.value u) w' /\ V i u /\ PostE S phi i u w w') \/ (∃ w', r = .ok .skip w' /\ V i undef /\ PostE S phi i undef w w') ∨
 (∃ f args w1, r = .ok (.enter f args) w1 /\ Calls P f args w1 fun e w' => ∃ u, e = .returned u /\ V i u /\ PostE S phi i u w w')
def qg2 (P : Program) (ops : Array Oper) (S : World -> Prop) (V : Nat -> Value -> Prop) (phi : Nat -> Value -> World -> Prop) (i : Nat) (o : Oper) (a : Act) : Prop :=
 Region.wanted o (yielded ops a.tmps) = true /\ ∀ w, S w -> qhv P S V phi i w ((execOp a.eval o).run P w)
theorem qg2.of_same {i : Nat} {o : Oper} {a a' : Act} (hy : qg2 P ops S V phi i o a) (he : execOp a'.eval o = execOp a.eval o)
 (hw : Region.wanted o (yielded ops a'.tmps) = Region.wanted o (yielded ops a.tmps)) : qg2 P ops S V phi i o a' := by
 unfold qg2 at *
 rw [he, hw]
 exact hy
theorem qg2.inh {i : Nat} {o : Oper} {a : Act} {w0 : World} (h0 : S w0) (h : qg2 P ops S V phi i o a) : ∃ u, V i u := by
 rcases h.2 w0 h0 with ⟨u, _, _, hv, _⟩ | ⟨_, _, hv, _⟩ | ⟨f, args, w1, _, hc⟩
 ·exact ⟨u, hv⟩
 ·exact ⟨_, hv⟩
 ·obtain ⟨e, w', fr, ⟨u, _, hv, _⟩, _⟩ := hc []
  exact ⟨u, hv⟩
theorem qg2.step {i : Nat} {o : Oper} {a : Act} {K : Act -> World -> Prop} {w : World} (hi : ops[i]? = some o) (hy : qg2 P ops S V phi i o a) (hS : S w)
 (h : ∀ u w', V i u -> PostE S phi i u w w' -> K (a.put o.dst u) w') : Go.wpOp P ops Q i K a w := by
 unfold Go.wpOp
 simp only [hi]
 rw [if_pos hy.1]
 left
 rcases hy.2 w hS with ⟨u, w', hr, hv, hp⟩ | ⟨w', hr, hv, hp⟩ | ⟨f, args, w', hr, hc⟩
 ·simp only [Oper.wp, hr, Oper.upon]
  exact h u w' hv hp
 ·simp only [Oper.wp, hr, Oper.upon]
  exact h undef w' hv hp
 ·simp only [Oper.wp, hr, Oper.upon]
  refine Calls.mono hc ?_
  rintro e w'' ⟨u, rfl, hv, hp⟩
  exact h u w'' hv hp
theorem ReadIf.step {i : Nat} {o : Oper} {v : Value} {a : Act} {K : Act -> World -> Prop} {w : World} (hi : ops[i]? = some o) (hy : ReadIf P ops S o v a) (hS : S w)
 (h : K (a.put o.dst v) w) : Go.wpOp P ops Q i K a w := by
 unfold Go.wpOp
 simp only [hi]
 rcases hy with ⟨hw, hv⟩ | ⟨hw, rfl⟩
 ·rw [if_pos hw]
  left
  simp only [Oper.wp, hv w hS, Oper.upon]
  exact h
 ·rw [if_neg (by simp [hw])]
  exact h
def AllE (P : Program) (md : Region.Mode) (ops : Array Oper) (S : World -> Prop) (V : Nat -> Value -> Prop) (phi : Nat -> Value -> World -> Prop) (eff : Nat -> Bool) (R : (World -> Prop) -> Act -> Prop) : Nat -> Array Bool -> Act -> (World -> Prop) -> Prop
 | 0, listed, a, F => Region.ready md ops listed = [] /\ R F a
 | fuel + 1, listed, a, F => (Region.ready md ops listed = [] -> R F a) ∧
   ∀ i ∈ Region.ready md ops listed, (eff i = true -> ∃ o, ops[i]? = some o /\ qg2 P ops S V phi i o a /\ ∀ u, V i u -> AllE P md ops S V phi eff R fuel (listed.setIfInBounds i true) (a.put o.dst u) (fun w => F w /\ phi i u w)) ∧
    (eff i = false -> ∃ oi v, ops[i]? = some oi /\ ReadIf P ops S oi v a /\ AllE P md ops S V phi eff R fuel (listed.setIfInBounds i true) (a.put oi.dst v) F)
def KeptE (phi : Nat -> Value -> World -> Prop) (listed : Array Bool) (F : World -> Prop) : Prop :=
 ∀ i, listed.getD i true = false -> ∀ w w', (∀ j, j ≠ i -> ∀ u', phi j u' w -> phi j u' w') -> F w -> F w'
theorem qyj {listed : Array Bool} {i k : Nat} (h : (listed.setIfInBounds i true).getD k true = false) : listed.getD k true = false /\ k ≠ i := by
 by_cases e : i = k
 ·subst e
  by_cases hi : i < listed.size
  ·simp [hi] at h
  ·simp [hi] at h
 ·rw [getD_set_ne true e] at h
  exact ⟨h, fun h' => e h'.symm⟩
theorem AllE.sound (hQ : ∀ F a w, S w -> F w -> R F a -> Q .normal a w) : ∀ (fuel : Nat) (listed : Array Bool) (a : Act) (F : World -> Prop) (w : World), KeptE phi listed F -> AllE P md ops S V phi eff R fuel listed a F -> S w -> F w -> wpAny P md ops Q fuel listed a w
 | 0, _, _, _, w, _, h, hS, hF => ⟨h.1, hQ _ _ w hS hF h.2⟩
 | fuel + 1, listed, _, F, w, hK, h, hS, hF => ⟨fun h0 => hQ _ _ w hS hF (h.1 h0), fun i hi => by
   have hun := (mem_ready.1 hi).1
   cases he : eff i with
   | true =>
     obtain ⟨o, ho, hk, hr⟩ := (h.2 i hi).1 he
     refine hk.step ho hS fun u w' hv hp => AllE.sound hQ fuel _ _ _ w' ?_ (hr u hv) hp.s ⟨hK i hun w w' hp.keep hF, hp.fact⟩
     intro k hk' w1 w2 hkeep ⟨hF1, hphi⟩
     obtain ⟨h1, h2⟩ := qyj hk'
     exact ⟨hK k h1 w1 w2 hkeep hF1, hkeep i (Ne.symm h2) u hphi⟩
   | false =>
     obtain ⟨o, v, ho, hk, hr⟩ := (h.2 i hi).2 he
     exact hk.step ho hS (AllE.sound hQ fuel _ _ _ w (fun k hk' => hK k (qyj hk').1) hr hS hF)⟩
theorem AllE.first {i : Nat} {oi : Oper} {w0 : World} (h0 : S w0) (hi : ops[i]? = some oi) (hsel : ∀ (j : Nat) (o : Oper) cs b, ops[j]? = some o -> o.op ≠ .select cs b) :
 ∀ (fuel : Nat) (listed : Array Bool) (a : Act) (F : World -> Prop),
  (∀ j oj, ops[j]? = some oj -> j ≠ i -> listed.getD j true = false -> (∀ e ∈ oj.after, Region.binds md e = true -> e.on ≠ i) -> oi.apart ops oj = true) →
  i ∈ Region.ready md ops listed →
  (eff i = true -> qg2 P ops S V phi i oi a /\ ∀ u, V i u -> AllE P md ops S V phi eff R fuel (listed.setIfInBounds i true) (a.put oi.dst u) (fun w => F w /\ phi i u w)) →
  (eff i = false -> ∃ v, ReadIf P ops S oi v a /\ AllE P md ops S V phi eff R fuel (listed.setIfInBounds i true) (a.put oi.dst v) F) →
  AllE P md ops S V phi eff R (fuel + 1) listed a F := by
 intro fuel
 induction fuel with
 | zero =>
   intro listed a F _ hr hX hP
   refine ⟨fun h => (by rw [h] at hr; cases hr), fun j hj => ?_⟩
   by_cases hji : j = i
   ·subst hji
    refine ⟨fun e => ?_, fun e => ?_⟩
    ·obtain ⟨h1, h2⟩ := hX e; exact ⟨oi, hi, h1, h2⟩
    ·obtain ⟨v, h1, h2⟩ := hP e; exact ⟨oi, v, hi, h1, h2⟩
   ·have hm := ready_mono hj hji
    cases he : eff i with
    | true =>
      obtain ⟨h1, h2⟩ := hX he
      obtain ⟨u, hu⟩ := h1.inh h0
      rw [(h2 u hu).1] at hm
      cases hm
    | false =>
      obtain ⟨v, _, h2⟩ := hP he
      rw [h2.1] at hm
      cases hm
 | succ fuel ih =>
   intro listed a F hfree hr hX hP
   refine ⟨fun h => (by rw [h] at hr; cases hr), fun j hj => ?_⟩
   by_cases hji : j = i
   ·subst hji
    refine ⟨fun e => ?_, fun e => ?_⟩
    ·obtain ⟨h1, h2⟩ := hX e; exact ⟨oi, hi, h1, h2⟩
    ·obtain ⟨v, h1, h2⟩ := hP e; exact ⟨oi, v, hi, h1, h2⟩
   ·obtain ⟨hjun, oj, hoj, hall⟩ := mem_ready.1 hj
    have hnot : ∀ e ∈ oj.after, Region.binds md e = true -> e.on ≠ i := fun e he hb heq => by
     have h1 := hall e he hb
     have h0 := (mem_ready.1 hr).1
     rw [heq] at h1
     rcases Nat.lt_or_ge i listed.size with h' | h'
     ·simp [h'] at h0 h1; rw [h0] at h1; cases h1
     ·simp [Array.getElem?_eq_none h'] at h1
    have hap := hfree j oj hoj hji hjun hnot
    obtain ⟨h1, h2, h3⟩ := Oper.apart_spec hap
    have hsi : ∀ cs b, oi.op ≠ .select cs b := fun cs b => hsel i oi cs b hi
    have hsj : ∀ cs b, oj.op ≠ .select cs b := fun cs b => hsel j oj cs b hoj
    have hfree' : ∀ k ok, ops[k]? = some ok -> k ≠ i -> (listed.setIfInBounds j true).getD k true = false →
     (∀ e ∈ ok.after, Region.binds md e = true -> e.on ≠ i) -> oi.apart ops ok = true := fun k ok hok hki hun hno => hfree k ok hok hki (qyj hun).1 hno
    have hm := ready_mono hj hji
    have hri := ready_mono hr (Ne.symm hji)
    have swapF : ∀ (A B : World -> Prop), (fun w => (F w /\ A w) /\ B w) = fun w => (F w /\ B w) /\ A w := fun A B => by
     funext w
     exact propext ⟨fun ⟨⟨x, y⟩, z⟩ => ⟨⟨x, z⟩, y⟩, fun ⟨⟨x, y⟩, z⟩ => ⟨⟨x, z⟩, y⟩⟩
    refine ⟨fun e => ?_, fun e => ?_⟩
    ·
     refine ⟨oj, hoj, ?_, fun uj huj => ?_⟩
     ·cases he : eff i with
      | true =>
        obtain ⟨s1, s2⟩ := hX he
        obtain ⟨u, hu⟩ := s1.inh h0
        obtain ⟨o', ho', hk, _⟩ := ((s2 u hu).2 j hm).1 e
        rw [hoj] at ho'; injection ho' with ho'; subst ho'
        exact hk.of_same (execOp_put oj hsj a oi.dst u h1).symm (wanted_put oj a oi.dst u h1).symm
      | false =>
        obtain ⟨v, _, s2⟩ := hP he
        obtain ⟨o', ho', hk, _⟩ := (s2.2 j hm).1 e
        rw [hoj] at ho'; injection ho' with ho'; subst ho'
        exact hk.of_same (execOp_put oj hsj a oi.dst v h1).symm (wanted_put oj a oi.dst v h1).symm
     ·refine ih (listed.setIfInBounds j true) _ _ hfree' hri (fun he => ?_) (fun he => ?_)
      ·obtain ⟨s1, s2⟩ := hX he
       refine ⟨s1.of_same (execOp_put oi hsi a oj.dst uj h3) (wanted_put oi a oj.dst uj h3), fun u hu => ?_⟩
       obtain ⟨o', ho', _, hrest⟩ := ((s2 u hu).2 j hm).1 e
       rw [hoj] at ho'; injection ho' with ho'; subst ho'
       rw [Array.setIfInBounds_comm _ _ hji, <- Act.put_comm a u uj h2, swapF]
       exact hrest uj huj
      ·obtain ⟨v, s1, s2⟩ := hP he
       refine ⟨v, s1.of_same (execOp_put oi hsi a oj.dst uj h3) (wanted_put oi a oj.dst uj h3), ?_⟩
       obtain ⟨o', ho', _, hrest⟩ := (s2.2 j hm).1 e
       rw [hoj] at ho'; injection ho' with ho'; subst ho'
       rw [Array.setIfInBounds_comm _ _ hji, <- Act.put_comm a v uj h2]
       exact hrest uj huj
    ·
     cases he : eff i with
     | true =>
       obtain ⟨s1, s2⟩ := hX he
       obtain ⟨u0, hu0⟩ := s1.inh h0
       obtain ⟨o', vj, ho', hk, _⟩ := ((s2 u0 hu0).2 j hm).2 e
       rw [hoj] at ho'; injection ho' with ho'; subst ho'
       have hka := hk.of_same (execOp_put oj hsj a oi.dst u0 h1).symm (wanted_put oj a oi.dst u0 h1).symm
       refine ⟨oj, vj, hoj, hka, ih (listed.setIfInBounds j true) _ _ hfree' hri (fun _ => ?_) (fun h => by rw [he] at h; cases h)⟩
       refine ⟨s1.of_same (execOp_put oi hsi a oj.dst vj h3) (wanted_put oi a oj.dst vj h3), fun u hu => ?_⟩
       obtain ⟨o', vj', ho', hk', hrest⟩ := ((s2 u hu).2 j hm).2 e
       rw [hoj] at ho'; injection ho' with ho'; subst ho'
       obtain rfl := hka.uniq h0 (hk'.of_same (execOp_put oj hsj a oi.dst u h1).symm (wanted_put oj a oi.dst u h1).symm)
       rw [Array.setIfInBounds_comm _ _ hji, <- Act.put_comm a u vj h2]
       exact hrest
     | false =>
       obtain ⟨v, s1, s2⟩ := hP he
       obtain ⟨o', vj, ho', hk, hrest⟩ := (s2.2 j hm).2 e
       rw [hoj] at ho'; injection ho' with ho'; subst ho'
       refine ⟨oj, vj, hoj, hk.of_same (execOp_put oj hsj a oi.dst v h1).symm (wanted_put oj a oi.dst v h1).symm, ih (listed.setIfInBounds j true) _ _ hfree' hri (fun h => by rw [he] at h; cases h) (fun _ => ?_)⟩
       refine ⟨v, s1.of_same (execOp_put oi hsi a oj.dst vj h3) (wanted_put oi a oj.dst vj h3), ?_⟩
       rw [Array.setIfInBounds_comm _ _ hji, <- Act.put_comm a v vj h2]
       exact hrest
theorem AllE.read {i : Nat} {oi : Oper} {v : Value} {fuel : Nat} {listed : Array Bool} {a : Act} {F : World -> Prop} {w0 : World} (h0 : S w0) (hi : ops[i]? = some oi) (he : eff i = false)
 (hs : Region.noSelect ops = true) (hf : Region.free md ops listed i = true) (hr : (Region.ready md ops listed).contains i = true)
 (hw : Region.wanted oi (yielded ops a.tmps) = true) (hy : ∀ w, S w -> (execOp a.eval oi).run P w = .ok (.value v) w)
 (h : AllE P md ops S V phi eff R fuel (listed.setIfInBounds i true) (a.put oi.dst v) F) : AllE P md ops S V phi eff R (fuel + 1) listed a F :=
 AllE.first h0 hi (Region.noSelect_spec hs) fuel listed a F (Region.free_spec hi hf) (by simpa using hr) (fun h => by rw [he] at h; cases h) (fun _ => ⟨v, .inl ⟨hw, hy⟩, h⟩)
theorem AllE.effect {i : Nat} {oi : Oper} {fuel : Nat} {listed : Array Bool} {a : Act} {F : World -> Prop} {w0 : World} (h0 : S w0) (hi : ops[i]? = some oi) (he : eff i = true)
 (hs : Region.noSelect ops = true) (hf : Region.free md ops listed i = true) (hr : (Region.ready md ops listed).contains i = true)
 (hw : Region.wanted oi (yielded ops a.tmps) = true) (hy : ∀ w, S w -> qhv P S V phi i w ((execOp a.eval oi).run P w))
 (h : ∀ u, V i u -> AllE P md ops S V phi eff R fuel (listed.setIfInBounds i true) (a.put oi.dst u) (fun w => F w /\ phi i u w)) : AllE P md ops S V phi eff R (fuel + 1) listed a F :=
 AllE.first h0 hi (Region.noSelect_spec hs) fuel listed a F (Region.free_spec hi hf) (by simpa using hr) (fun _ => ⟨⟨hw, hy⟩, h⟩) (fun h => by rw [he] at h; cases h)
theorem AllE.done {listed : Array Bool} {a : Act} {F : World -> Prop} (hr : Region.ready md ops listed = []) (h : R F a) : ∀ fuel, AllE P md ops S V phi eff R fuel listed a F
 | 0 => ⟨hr, h⟩
 | _ + 1 => ⟨fun _ => h, by rw [hr]; simp⟩
theorem ql8 {id : Nat} {a : Act} {w : World} (hm : P.follows .mixedOrders = true) (S : World -> Prop) (V : Nat -> Value -> Prop) (phi : Nat -> Value -> World -> Prop) (eff : Nat -> Bool) (h0 : S w.drew)
 (h : ∀ R : (World -> Prop) -> Act -> Prop, Hid (∀ F a', (∀ w', S w' -> F w' -> Q .normal a' w') -> R F a') -> AllE P .any ops S V phi eff R ops.size (Array.replicate ops.size false) a (fun _ => True)) : (Code.region id ops true).wp P Q a w :=
 wp_region_any hm (AllE.sound (R := fun F a' => ∀ w', S w' -> F w' -> Q .normal a' w') (fun _ _ w' hS hF hR => hR w' hS hF) _ _ _ (fun _ => True) _ (fun _ _ _ _ _ _ => trivial) (h _ (xaa fun _ _ h => h)) h0 trivial)
end
end
end Go.Proofs.YtmceblkjbpbcoaaGreatDoor
