/- A region that draws its order, of operations that each yield ONE value in every world that meets a condition S, and keep S: reads of what S says, and calls that may make memory but answer the same in every such world. One order stands for all. For any layer. No walk. -/
import Derived.Test.YtddihpiheopleaaBase
import Derived.OrdersHeld
namespace Go.Proofs.Ytddihpiheopleaa
open Go.ChangeShapes Go.WideShapes Go.ChangeAt Go.RowKit

section
variable {P : Program} {ops : Array Oper} {Q : Exit → Act → World → Prop} {md : Region.Mode} {S : World → Prop} {R : Act → Prop}

/-- the step ends with the value v, in a world that meets S -/
def GivesIf (P : Program) (S : World → Prop) (v : Value) (r : Result Next) : Prop :=
  (∃ w', r = .ok (.value v) w' ∧ S w') ∨ (∃ f args w', r = .ok (.enter f args) w' ∧ Calls P f args w' fun e w'' => e = .returned v ∧ S w'')

/-- in state a, in every world that meets S, operation o yields v and keeps S -/
def KeepsIf (P : Program) (ops : Array Oper) (S : World → Prop) (o : Oper) (v : Value) (a : Act) : Prop :=
  (Region.wanted o (yielded ops a.tmps) = true ∧ ∀ w, S w → GivesIf P S v ((execOp a.eval o).run P w)) ∨
  (Region.wanted o (yielded ops a.tmps) = false ∧ v = undef)

theorem KeepsIf.of_same {o : Oper} {v : Value} {a a' : Act} (hy : KeepsIf P ops S o v a) (he : execOp a'.eval o = execOp a.eval o)
    (hw : Region.wanted o (yielded ops a'.tmps) = Region.wanted o (yielded ops a.tmps)) : KeepsIf P ops S o v a' := by
  unfold KeepsIf at *
  rw [he, hw]
  exact hy

theorem KeepsIf.step {i : Nat} {o : Oper} {v : Value} {a : Act} {K : Act → World → Prop} {w : World} (hi : ops[i]? = some o) (hy : KeepsIf P ops S o v a) (hS : S w)
    (h : ∀ w', S w' → K (a.put o.dst v) w') : Go.wpOp P ops Q i K a w := by
  unfold Go.wpOp
  simp only [hi]
  rcases hy with ⟨hw, hv⟩ | ⟨hw, rfl⟩
  · rw [if_pos hw]
    left
    rcases hv w hS with ⟨w', hr, hS'⟩ | ⟨f, args, w', hr, hc⟩
    · simp only [Oper.wp, hr, Oper.upon]
      exact h w' hS'
    · simp only [Oper.wp, hr, Oper.upon]
      refine Calls.mono hc ?_
      rintro e w'' ⟨rfl, hS'⟩
      exact h w'' hS'
  · rw [if_neg (by simp [hw])]
    exact h w hS

/-- whatever order is picked, the frame comes to meet R, and each operation yields its one value -/
def AllS (P : Program) (md : Region.Mode) (ops : Array Oper) (S : World → Prop) (R : Act → Prop) : Nat → Array Bool → Act → Prop
  | 0, listed, a => Region.ready md ops listed = [] ∧ R a
  | fuel + 1, listed, a => (Region.ready md ops listed = [] → R a) ∧
    ∀ i ∈ Region.ready md ops listed, ∃ oi v, ops[i]? = some oi ∧ KeepsIf P ops S oi v a ∧ AllS P md ops S R fuel (listed.setIfInBounds i true) (a.put oi.dst v)

theorem AllS.sound (hQ : ∀ a w, S w → R a → Q .normal a w) : ∀ (fuel : Nat) (listed : Array Bool) (a : Act) (w : World), AllS P md ops S R fuel listed a → S w → wpAny P md ops Q fuel listed a w
  | 0, _, _, w, h, hS => ⟨h.1, hQ _ w hS h.2⟩
  | fuel + 1, _, _, w, h, hS => ⟨fun h0 => hQ _ w hS (h.1 h0), fun i hi => by
    obtain ⟨oi, v, ho, hk, hr⟩ := h.2 i hi
    exact hk.step ho hS fun w' hS' => AllS.sound hQ fuel _ _ w' hr hS'⟩

theorem AllS.first {i : Nat} {oi : Oper} {v : Value} (hi : ops[i]? = some oi) (hsel : ∀ (j : Nat) (o : Oper) cs b, ops[j]? = some o → o.op ≠ .select cs b) :
    ∀ (fuel : Nat) (listed : Array Bool) (a : Act),
      (∀ j oj, ops[j]? = some oj → j ≠ i → listed.getD j true = false → (∀ e ∈ oj.after, Region.binds md e = true → e.on ≠ i) → oi.apart ops oj = true) →
      i ∈ Region.ready md ops listed → KeepsIf P ops S oi v a →
      AllS P md ops S R fuel (listed.setIfInBounds i true) (a.put oi.dst v) → AllS P md ops S R (fuel + 1) listed a := by
  intro fuel
  induction fuel with
  | zero =>
    intro listed a _ hr hy H
    refine ⟨fun h => (by rw [h] at hr; cases hr), fun j hj => ?_⟩
    by_cases hji : j = i
    · subst hji; exact ⟨oi, v, hi, hy, H⟩
    · have := ready_mono hj hji
      rw [H.1] at this
      cases this
  | succ fuel ih =>
    intro listed a hfree hr hy H
    refine ⟨fun h => (by rw [h] at hr; cases hr), fun j hj => ?_⟩
    by_cases hji : j = i
    · subst hji; exact ⟨oi, v, hi, hy, H⟩
    · obtain ⟨oj, u, hoj, hk, hrest⟩ := H.2 j (ready_mono hj hji)
      obtain ⟨hjun, oj', hoj', hall⟩ := mem_ready.1 hj
      rw [hoj] at hoj'
      injection hoj' with hoj'
      subst hoj'
      have hnot : ∀ e ∈ oj.after, Region.binds md e = true → e.on ≠ i := fun e he hb heq => by
        have h1 := hall e he hb
        have h0 := (mem_ready.1 hr).1
        rw [heq] at h1
        rcases Nat.lt_or_ge i listed.size with h' | h'
        · simp [h'] at h0 h1; rw [h0] at h1; cases h1
        · simp [Array.getElem?_eq_none h'] at h1
      have hap := hfree j oj hoj hji hjun hnot
      obtain ⟨h1, h2, h3⟩ := Oper.apart_spec hap
      have hsi : ∀ cs b, oi.op ≠ .select cs b := fun cs b => hsel i oi cs b hi
      have hsj : ∀ cs b, oj.op ≠ .select cs b := fun cs b => hsel j oj cs b hoj
      refine ⟨oj, u, hoj, hk.of_same (execOp_put oj hsj a oi.dst v h1).symm (wanted_put oj a oi.dst v h1).symm, ?_⟩
      have hfree' : ∀ k ok, ops[k]? = some ok → k ≠ i → (listed.setIfInBounds j true).getD k true = false →
          (∀ e ∈ ok.after, Region.binds md e = true → e.on ≠ i) → oi.apart ops ok = true := fun k ok hok hki hun hno => by
        refine hfree k ok hok hki ?_ hno
        by_cases hjk : j = k
        · subst hjk; exact hjun
        · rw [getD_set_ne true hjk] at hun; exact hun
      refine ih (listed.setIfInBounds j true) _ hfree' (ready_mono hr (Ne.symm hji)) (hy.of_same (execOp_put oi hsi a oj.dst u h3) (wanted_put oi a oj.dst u h3)) ?_
      rw [Array.setIfInBounds_comm _ _ hji, ← Act.put_comm a v u h2]
      exact hrest

/-- number i is taken first -/
theorem AllS.take {i : Nat} {oi : Oper} {v : Value} {fuel : Nat} {listed : Array Bool} {a : Act} (hi : ops[i]? = some oi)
    (hs : Region.noSelect ops = true) (hf : Region.free md ops listed i = true) (hr : (Region.ready md ops listed).contains i = true)
    (hy : KeepsIf P ops S oi v a) (h : AllS P md ops S R fuel (listed.setIfInBounds i true) (a.put oi.dst v)) : AllS P md ops S R (fuel + 1) listed a :=
  AllS.first hi (Region.noSelect_spec hs) fuel listed a (Region.free_spec hi hf) (by simpa using hr) hy h

theorem AllS.done {listed : Array Bool} {a : Act} (hr : Region.ready md ops listed = []) (h : R a) : ∀ fuel, AllS P md ops S R fuel listed a
  | 0 => ⟨hr, h⟩
  | _ + 1 => ⟨fun _ => h, by rw [hr]; simp⟩

/-- a read -/
theorem KeepsIf.read {o : Oper} {v : Value} {a : Act} (hw : Region.wanted o (yielded ops a.tmps) = true) (h : ∀ w, S w → (execOp a.eval o).run P w = .ok (.value v) w) : KeepsIf P ops S o v a :=
  .inl ⟨hw, fun w hS => .inl ⟨w, h w hS, hS⟩⟩
/-- a call -/
theorem KeepsIf.call {o : Oper} {v : Value} {a : Act} (f : Nat) (args : Array Value) (hw : Region.wanted o (yielded ops a.tmps) = true) (h : ∀ w, (execOp a.eval o).run P w = .ok (.enter f args) w)
    (hc : ∀ w, S w → Calls P f args w fun e w' => e = .returned v ∧ S w') : KeepsIf P ops S o v a :=
  .inl ⟨hw, fun w hS => .inr ⟨f, args, w, h w, hc w hS⟩⟩
/-- what is not wanted -/
theorem KeepsIf.un {o : Oper} {a : Act} (hw : Region.wanted o (yielded ops a.tmps) = false) : KeepsIf P ops S o undef a := .inr ⟨hw, rfl⟩

/-- the region, where S is 'only what is new has changed since': what follows is kept behind a variable -/
theorem region_go {id : Nat} {a : Act} {w : World} (hm : P.follows .mixedOrders = true)
    (h : ∀ R : Act → Prop, Hid (∀ a', (∀ w', Below w.heap.size w w' → Q .normal a' w') → R a') → AllS P .any ops (fun w' => Below w.heap.size w w') R ops.size (Array.replicate ops.size false) a) : (Code.region id ops true).wp P Q a w :=
  wp_region_any hm (AllS.sound (R := fun a' => ∀ w', Below w.heap.size w w' → Q .normal a' w') (fun _ w' hS hR => hR w' hS) _ _ _ _ (h _ (Lib.hid fun _ h => h)) (below_drewN (Below.refl _ _) 1))
/-- ... and where S is any condition -/
theorem region_any {id : Nat} {a : Act} {w : World} (hm : P.follows .mixedOrders = true) (S : World → Prop) (h0 : S w.drew)
    (h : ∀ R : Act → Prop, Hid (∀ a', (∀ w', S w' → Q .normal a' w') → R a') → AllS P .any ops S R ops.size (Array.replicate ops.size false) a) : (Code.region id ops true).wp P Q a w :=
  wp_region_any hm (AllS.sound (R := fun a' => ∀ w', S w' → Q .normal a' w') (fun _ w' hS hR => hR w' hS) _ _ _ _ (h _ (Lib.hid fun _ h => h)) h0)
end
end Go.Proofs.Ytddihpiheopleaa
