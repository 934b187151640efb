/- A region that draws its order and holds ONE call that hands back what it has made (a value that hangs on the world), beside operations that each yield one value in every world that meets a condition S: what follows is shown for each value that the call may hand back. One order stands for all. For any layer. No walk. -/
import Derived.Test.YtpaaicbgehpdiaaRegS
namespace Go.Proofs.Ytpaaicbgehpdiaa
open Go.ChangeShapes Go.WideShapes Go.ChangeAt Go.RowKit

section
variable {P : Program} {ops : Array Oper} {Q : Exit → Act → World → Prop} {md : Region.Mode} {S : World → Prop} {T : Value → World → Prop} {R : Value → Act → Prop} {i0 : Nat}

/-- X says all that S says, and abides calls that change nothing that lay -/
structure Stb (S X : World → Prop) : Prop where
  sub : ∀ w, X w → S w
  mono : ∀ w w', X w → Below w.heap.size w w' → X w'

/-- the call: in every world that meets S it hands back some u, in a world that meets T u -/
def KeepsEx (P : Program) (ops : Array Oper) (S : World → Prop) (T : Value → World → Prop) (o : Oper) (a : Act) : Prop :=
  Region.wanted o (yielded ops a.tmps) = true ∧ ∃ f args, (∀ w, (execOp a.eval o).run P w = .ok (.enter f args) w) ∧ ∀ w, S w → Calls P f args w fun e w' => ∃ u, e = .returned u ∧ T u w'

theorem KeepsEx.of_same {o : Oper} {a a' : Act} (hy : KeepsEx P ops S T o a) (he : execOp a'.eval o = execOp a.eval o)
    (hw : Region.wanted o (yielded ops a'.tmps) = Region.wanted o (yielded ops a.tmps)) : KeepsEx P ops S T o a' := by
  unfold KeepsEx at *
  rw [he, hw]
  exact hy

theorem KeepsEx.step {i : Nat} {o : Oper} {a : Act} {K : Act → World → Prop} {w : World} (hi : ops[i]? = some o) (hy : KeepsEx P ops S T o a) (hS : S w)
    (h : ∀ u w', T u w' → K (a.put o.dst u) w') : Go.wpOp P ops Q i K a w := by
  unfold Go.wpOp
  simp only [hi]
  obtain ⟨hw, f, args, hr, hc⟩ := hy
  rw [if_pos hw]
  left
  simp only [Oper.wp, hr, Oper.upon]
  refine Calls.mono (hc w hS) ?_
  rintro e w'' ⟨u, rfl, hT⟩
  exact h u w'' hT

/-- before the call i0 -/
def AllT (P : Program) (md : Region.Mode) (ops : Array Oper) (S : World → Prop) (T : Value → World → Prop) (i0 : Nat) (R : Value → Act → Prop) : Nat → Array Bool → Act → Prop
  | 0, _, _ => False
  | fuel + 1, listed, a => Region.ready md ops listed ≠ [] ∧
    ∀ i ∈ Region.ready md ops listed, (i = i0 → ∃ o, ops[i]? = some o ∧ KeepsEx P ops S T o a ∧ ∀ u, AllS P md ops (T u) (R u) fuel (listed.setIfInBounds i true) (a.put o.dst u)) ∧
      (i ≠ i0 → ∃ oi v, ops[i]? = some oi ∧ KeepsIf P ops S oi v a ∧ AllT P md ops S T i0 R fuel (listed.setIfInBounds i true) (a.put oi.dst v))

theorem AllT.sound (hQ : ∀ u a w, T u w → R u a → Q .normal a w) : ∀ (fuel : Nat) (listed : Array Bool) (a : Act) (w : World), AllT P md ops S T i0 R fuel listed a → S w → wpAny P md ops Q fuel listed a w
  | 0, _, _, _, h, _ => h.elim
  | fuel + 1, _, _, w, h, hS => ⟨fun h0 => absurd h0 h.1, fun i hi => by
    by_cases e : i = i0
    · obtain ⟨o, ho, hk, hr⟩ := (h.2 i hi).1 e
      exact hk.step ho hS fun u w' hT => AllS.sound (fun a w hS hR => hQ u a w hS hR) fuel _ _ w' (hr u) hT
    · obtain ⟨oi, v, ho, hk, hr⟩ := (h.2 i hi).2 e
      exact hk.step ho hS fun w' hS' => AllT.sound hQ fuel _ _ w' hr hS'⟩

theorem AllT.first {i : Nat} {oi : Oper} {v : Value} (hi : ops[i]? = some oi) (hne : i ≠ i0) (hsel : ∀ (j : Nat) (o : Oper) cs b, ops[j]? = some o → o.op ≠ .select cs b) :
    ∀ (fuel : Nat) (listed : Array Bool) (a : Act),
      (∀ j oj, ops[j]? = some oj → j ≠ i → listed.getD j true = false → (∀ e ∈ oj.after, Region.binds md e = true → e.on ≠ i) → oi.apart ops oj = true) →
      i ∈ Region.ready md ops listed → KeepsIf P ops S oi v a → (∀ u, KeepsIf P ops (T u) oi v a) →
      AllT P md ops S T i0 R fuel (listed.setIfInBounds i true) (a.put oi.dst v) → AllT P md ops S T i0 R (fuel + 1) listed a := by
  intro fuel
  induction fuel with
  | zero => intro _ _ _ _ _ _ H; exact H.elim
  | succ fuel ih =>
    intro listed a hfree hr hy hyT H
    refine ⟨fun h => (by rw [h] at hr; cases hr), fun j hj => ?_⟩
    by_cases hji : j = i
    · subst hji
      exact ⟨fun e => absurd e hne, fun _ => ⟨oi, v, hi, hy, H⟩⟩
    · obtain ⟨hjun, oj', hoj', hall⟩ := mem_ready.1 hj
      have hnot : ∀ e ∈ oj'.after, Region.binds md e = true → e.on ≠ i := fun e he hb heq => by
        have h1 := hall e he hb
        have h0 := (mem_ready.1 hr).1
        rw [heq] at h1
        rcases Nat.lt_or_ge i listed.size with h' | h'
        · simp [h'] at h0 h1; rw [h0] at h1; cases h1
        · simp [Array.getElem?_eq_none h'] at h1
      have hap := hfree j oj' hoj' hji hjun hnot
      obtain ⟨h1, h2, h3⟩ := Oper.apart_spec hap
      have hsi : ∀ cs b, oi.op ≠ .select cs b := fun cs b => hsel i oi cs b hi
      have hsj : ∀ cs b, oj'.op ≠ .select cs b := fun cs b => hsel j oj' cs b hoj'
      have hfree' : ∀ k ok, ops[k]? = some ok → k ≠ i → (listed.setIfInBounds j true).getD k true = false →
          (∀ e ∈ ok.after, Region.binds md e = true → e.on ≠ i) → oi.apart ops ok = true := fun k ok hok hki hun hno => by
        refine hfree k ok hok hki ?_ hno
        by_cases hjk : j = k
        · subst hjk; exact hjun
        · rw [getD_set_ne true hjk] at hun; exact hun
      refine ⟨fun e => ?_, fun e => ?_⟩
      · obtain ⟨oj, hoj, hk, hrest⟩ := (H.2 j (ready_mono hj hji)).1 e
        rw [hoj'] at hoj
        injection hoj with hoj
        subst hoj
        refine ⟨oj', hoj', hk.of_same (execOp_put oj' hsj a oi.dst v h1).symm (wanted_put oj' a oi.dst v h1).symm, fun u => ?_⟩
        refine AllS.first hi hsel fuel (listed.setIfInBounds j true) _ hfree' (ready_mono hr (Ne.symm hji)) ((hyT u).of_same (execOp_put oi hsi a oj'.dst u h3) (wanted_put oi a oj'.dst u h3)) ?_
        rw [Array.setIfInBounds_comm _ _ hji, ← Act.put_comm a v u h2]
        exact hrest u
      · obtain ⟨oj, u, hoj, hk, hrest⟩ := (H.2 j (ready_mono hj hji)).2 e
        rw [hoj'] at hoj
        injection hoj with hoj
        subst hoj
        refine ⟨oj', u, hoj', hk.of_same (execOp_put oj' hsj a oi.dst v h1).symm (wanted_put oj' a oi.dst v h1).symm, ?_⟩
        refine ih (listed.setIfInBounds j true) _ hfree' (ready_mono hr (Ne.symm hji)) (hy.of_same (execOp_put oi hsi a oj'.dst u h3) (wanted_put oi a oj'.dst u h3)) (fun u' => (hyT u').of_same (execOp_put oi hsi a oj'.dst u h3) (wanted_put oi a oj'.dst u h3)) ?_
        rw [Array.setIfInBounds_comm _ _ hji, ← Act.put_comm a v u h2]
        exact hrest

/-- number i is taken first -/
theorem AllT.take {i : Nat} {oi : Oper} {v : Value} {fuel : Nat} {listed : Array Bool} {a : Act} (hS : ∀ w w', S w → Below w.heap.size w w' → S w') (hT : ∀ u, Stb S (T u)) (hi : ops[i]? = some oi) (hne : (i == i0) = false)
    (hs : Region.noSelect ops = true) (hf : Region.free md ops listed i = true) (hr : (Region.ready md ops listed).contains i = true)
    (hy : ∀ X, Stb S X → KeepsIf P ops X oi v a) (h : AllT P md ops S T i0 R fuel (listed.setIfInBounds i true) (a.put oi.dst v)) : AllT P md ops S T i0 R (fuel + 1) listed a :=
  AllT.first hi (by simpa using hne) (Region.noSelect_spec hs) fuel listed a (Region.free_spec hi hf) (by simpa using hr) (hy S ⟨fun _ h => h, hS⟩) (fun u => hy (T u) (hT u)) h

/-- the call itself, where nothing else is ready -/
theorem AllT.call {o : Oper} {fuel : Nat} {listed : Array Bool} {a : Act} (hi : ops[i0]? = some o) (hr : Region.ready md ops listed = [i0]) (hk : KeepsEx P ops S T o a)
    (h : ∀ u, AllS P md ops (T u) (R u) fuel (listed.setIfInBounds i0 true) (a.put o.dst u)) : AllT P md ops S T i0 R (fuel + 1) listed a :=
  ⟨by rw [hr]; simp, fun i hi' => by
    rw [hr, List.mem_singleton] at hi'
    subst hi'
    exact ⟨fun _ => ⟨o, hi, hk, h⟩, fun e => absurd rfl e⟩⟩

theorem KeepsEx.mk_ {o : Oper} {a : Act} (f : Nat) (args : Array Value) (hw : Region.wanted o (yielded ops a.tmps) = true) (h : ∀ w, (execOp a.eval o).run P w = .ok (.enter f args) w)
    (hc : ∀ w, S w → Calls P f args w fun e w' => ∃ u, e = .returned u ∧ T u w') : KeepsEx P ops S T o a := ⟨hw, f, args, h, hc⟩

theorem region_T {id : Nat} {a : Act} {w : World} (hm : P.follows .mixedOrders = true) (S : World → Prop) (T : Value → World → Prop) (i0 : Nat) (h0 : S w.drew)
    (h : ∀ R : Value → Act → Prop, Hid (∀ u a', (∀ w', T u w' → Q .normal a' w') → R u a') → AllT P .any ops S T i0 R ops.size (Array.replicate ops.size false) a) : (Code.region id ops true).wp P Q a w :=
  wp_region_any hm (AllT.sound (R := fun u a' => ∀ w', T u w' → Q .normal a' w') (fun _ _ w' hS hR => hR w' hS) _ _ _ _ (h _ (Lib.hid fun _ _ h => h)) h0)
end
end Go.Proofs.Ytpaaicbgehpdiaa
