/- A region that draws its order, of operations that each yield ONE value in every world that meets a condition S, and keep S: reads of what S says, and calls that may make memory but answer the same in every such world. One order stands for all. For any layer. No walk. -/
import Derived.Test.YtnoenccpbbkdeaaBase
import Derived.OrdersHeld
import Derived.Laws.StructEq
import Derived.Deep.RegionHeld3
namespace Go.Proofs.Ytnoenccpbbkdeaa
open Go.ChangeShapes Go.WideShapes Go.ChangeAt Go.RowKit

section
variable {P : Program} {ops : Array Oper} {Q : Exit → Act → World → Prop} {md : Region.Mode} {S : World → Prop} {R : Act → Prop}

/-- the step ends with the value v, in a world that meets S -/
def GivesIf (P : Program) (S : World → Prop) (v : Value) (r : Result Next) : Prop :=
  (∃ w', r = .ok (.value v) w' ∧ S w') ∨ (∃ f args w', r = .ok (.enter f args) w' ∧ Calls P f args w' fun e w'' => e = .returned v ∧ S w'')

/-- in state a, in every world that meets S, operation o yields v and keeps S -/
def KeepsIf (P : Program) (ops : Array Oper) (S : World → Prop) (o : Oper) (v : Value) (a : Act) : Prop :=
  (Region.wanted o (yielded ops a.tmps) = true ∧ ∀ w, S w → GivesIf P S v ((execOp a.eval o).run P w)) ∨
  (Region.wanted o (yielded ops a.tmps) = false ∧ v = undef)

theorem KeepsIf.of_same {o : Oper} {v : Value} {a a' : Act} (hy : KeepsIf P ops S o v a) (he : execOp a'.eval o = execOp a.eval o)
    (hw : Region.wanted o (yielded ops a'.tmps) = Region.wanted o (yielded ops a.tmps)) : KeepsIf P ops S o v a' := by
  unfold KeepsIf at *
  rw [he, hw]
  exact hy

theorem KeepsIf.step {i : Nat} {o : Oper} {v : Value} {a : Act} {K : Act → World → Prop} {w : World} (hi : ops[i]? = some o) (hy : KeepsIf P ops S o v a) (hS : S w)
    (h : ∀ w', S w' → K (a.put o.dst v) w') : Go.wpOp P ops Q i K a w := by
  unfold Go.wpOp
  simp only [hi]
  rcases hy with ⟨hw, hv⟩ | ⟨hw, rfl⟩
  · rw [if_pos hw]
    left
    rcases hv w hS with ⟨w', hr, hS'⟩ | ⟨f, args, w', hr, hc⟩
    · simp only [Oper.wp, hr, Oper.upon]
      exact h w' hS'
    · simp only [Oper.wp, hr, Oper.upon]
      refine Calls.mono hc ?_
      rintro e w'' ⟨rfl, hS'⟩
      exact h w'' hS'
  · rw [if_neg (by simp [hw])]
    exact h w hS

/-- whatever order is picked, the frame comes to meet R, and each operation yields its one value -/
def AllS (P : Program) (md : Region.Mode) (ops : Array Oper) (S : World → Prop) (R : Act → Prop) : Nat → Array Bool → Act → Prop
  | 0, listed, a => Region.ready md ops listed = [] ∧ R a
  | fuel + 1, listed, a => (Region.ready md ops listed = [] → R a) ∧
    ∀ i ∈ Region.ready md ops listed, ∃ oi v, ops[i]? = some oi ∧ KeepsIf P ops S oi v a ∧ AllS P md ops S R fuel (listed.setIfInBounds i true) (a.put oi.dst v)

theorem AllS.sound (hQ : ∀ a w, S w → R a → Q .normal a w) : ∀ (fuel : Nat) (listed : Array Bool) (a : Act) (w : World), AllS P md ops S R fuel listed a → S w → wpAny P md ops Q fuel listed a w
  | 0, _, _, w, h, hS => ⟨h.1, hQ _ w hS h.2⟩
  | fuel + 1, _, _, w, h, hS => ⟨fun h0 => hQ _ w hS (h.1 h0), fun i hi => by
    obtain ⟨oi, v, ho, hk, hr⟩ := h.2 i hi
    exact hk.step ho hS fun w' hS' => AllS.sound hQ fuel _ _ w' hr hS'⟩

theorem AllS.first {i : Nat} {oi : Oper} {v : Value} (hi : ops[i]? = some oi) (hsel : ∀ (j : Nat) (o : Oper) cs b, ops[j]? = some o → o.op ≠ .select cs b) :
    ∀ (fuel : Nat) (listed : Array Bool) (a : Act),
      (∀ j oj, ops[j]? = some oj → j ≠ i → listed.getD j true = false → (∀ e ∈ oj.after, Region.binds md e = true → e.on ≠ i) → oi.apart ops oj = true) →
      i ∈ Region.ready md ops listed → KeepsIf P ops S oi v a →
      AllS P md ops S R fuel (listed.setIfInBounds i true) (a.put oi.dst v) → AllS P md ops S R (fuel + 1) listed a := by
  intro fuel
  induction fuel with
  | zero =>
    intro listed a _ hr hy H
    refine ⟨fun h => (by rw [h] at hr; cases hr), fun j hj => ?_⟩
    by_cases hji : j = i
    · subst hji; exact ⟨oi, v, hi, hy, H⟩
    · have := ready_mono hj hji
      rw [H.1] at this
      cases this
  | succ fuel ih =>
    intro listed a hfree hr hy H
    refine ⟨fun h => (by rw [h] at hr; cases hr), fun j hj => ?_⟩
    by_cases hji : j = i
    · subst hji; exact ⟨oi, v, hi, hy, H⟩
    · obtain ⟨oj, u, hoj, hk, hrest⟩ := H.2 j (ready_mono hj hji)
      obtain ⟨hjun, oj', hoj', hall⟩ := mem_ready.1 hj
      rw [hoj] at hoj'
      injection hoj' with hoj'
      subst hoj'
      have hnot : ∀ e ∈ oj.after, Region.binds md e = true → e.on ≠ i := fun e he hb heq => by
        have h1 := hall e he hb
        have h0 := (mem_ready.1 hr).1
        rw [heq] at h1
        rcases Nat.lt_or_ge i listed.size with h' | h'
        · simp [h'] at h0 h1; rw [h0] at h1; cases h1
        · simp [Array.getElem?_eq_none h'] at h1
      have hap := hfree j oj hoj hji hjun hnot
      obtain ⟨h1, h2, h3⟩ := Oper.apart_spec hap
      have hsi : ∀ cs b, oi.op ≠ .select cs b := fun cs b => hsel i oi cs b hi
      have hsj : ∀ cs b, oj.op ≠ .select cs b := fun cs b => hsel j oj cs b hoj
      refine ⟨oj, u, hoj, hk.of_same (execOp_put oj hsj a oi.dst v h1).symm (wanted_put oj a oi.dst v h1).symm, ?_⟩
      have hfree' : ∀ k ok, ops[k]? = some ok → k ≠ i → (listed.setIfInBounds j true).getD k true = false →
          (∀ e ∈ ok.after, Region.binds md e = true → e.on ≠ i) → oi.apart ops ok = true := fun k ok hok hki hun hno => by
        refine hfree k ok hok hki ?_ hno
        by_cases hjk : j = k
        · subst hjk; exact hjun
        · rw [getD_set_ne true hjk] at hun; exact hun
      refine ih (listed.setIfInBounds j true) _ hfree' (ready_mono hr (Ne.symm hji)) (hy.of_same (execOp_put oi hsi a oj.dst u h3) (wanted_put oi a oj.dst u h3)) ?_
      rw [Array.setIfInBounds_comm _ _ hji, ← Act.put_comm a v u h2]
      exact hrest

/-- number i is taken first -/
theorem AllS.take {i : Nat} {oi : Oper} {v : Value} {fuel : Nat} {listed : Array Bool} {a : Act} (hi : ops[i]? = some oi)
    (hs : Region.noSelect ops = true) (hf : Region.free md ops listed i = true) (hr : (Region.ready md ops listed).contains i = true)
    (hy : KeepsIf P ops S oi v a) (h : AllS P md ops S R fuel (listed.setIfInBounds i true) (a.put oi.dst v)) : AllS P md ops S R (fuel + 1) listed a :=
  AllS.first hi (Region.noSelect_spec hs) fuel listed a (Region.free_spec hi hf) (by simpa using hr) hy h

theorem AllS.done {listed : Array Bool} {a : Act} (hr : Region.ready md ops listed = []) (h : R a) : ∀ fuel, AllS P md ops S R fuel listed a
  | 0 => ⟨hr, h⟩
  | _ + 1 => ⟨fun _ => h, by rw [hr]; simp⟩

/-- a read -/
theorem KeepsIf.read {o : Oper} {v : Value} {a : Act} (hw : Region.wanted o (yielded ops a.tmps) = true) (h : ∀ w, S w → (execOp a.eval o).run P w = .ok (.value v) w) : KeepsIf P ops S o v a :=
  .inl ⟨hw, fun w hS => .inl ⟨w, h w hS, hS⟩⟩
/-- a call -/
theorem KeepsIf.call {o : Oper} {v : Value} {a : Act} (f : Nat) (args : Array Value) (hw : Region.wanted o (yielded ops a.tmps) = true) (h : ∀ w, (execOp a.eval o).run P w = .ok (.enter f args) w)
    (hc : ∀ w, S w → Calls P f args w fun e w' => e = .returned v ∧ S w') : KeepsIf P ops S o v a :=
  .inl ⟨hw, fun w hS => .inr ⟨f, args, w, h w, hc w hS⟩⟩
/-- what is not wanted -/
theorem KeepsIf.un {o : Oper} {a : Act} (hw : Region.wanted o (yielded ops a.tmps) = false) : KeepsIf P ops S o undef a := .inr ⟨hw, rfl⟩

/-- the region, where S is 'only what is new has changed since': what follows is kept behind a variable -/
theorem region_go {id : Nat} {a : Act} {w : World} (hm : P.follows .mixedOrders = true)
    (h : ∀ R : Act → Prop, Hid (∀ a', (∀ w', Below w.heap.size w w' → Q .normal a' w') → R a') → AllS P .any ops (fun w' => Below w.heap.size w w') R ops.size (Array.replicate ops.size false) a) : (Code.region id ops true).wp P Q a w :=
  wp_region_any hm (AllS.sound (R := fun a' => ∀ w', Below w.heap.size w w' → Q .normal a' w') (fun _ w' hS hR => hR w' hS) _ _ _ _ (h _ (Lib.hid fun _ h => h)) (below_drewN (Below.refl _ _) 1))
/-- ... and where S is any condition -/
theorem region_any {id : Nat} {a : Act} {w : World} (hm : P.follows .mixedOrders = true) (S : World → Prop) (h0 : S w.drew)
    (h : ∀ R : Act → Prop, Hid (∀ a', (∀ w', S w' → Q .normal a' w') → R a') → AllS P .any ops S R ops.size (Array.replicate ops.size false) a) : (Code.region id ops true).wp P Q a w :=
  wp_region_any hm (AllS.sound (R := fun a' => ∀ w', S w' → Q .normal a' w') (fun _ w' hS hR => hR w' hS) _ _ _ _ (h _ (Lib.hid fun _ h => h)) h0)
end
end Go.Proofs.Ytnoenccpbbkdeaa

/- A region that draws its order and holds ONE call that hands back what it has made (a value that hangs on the world), beside operations that each yield one value in every world that meets a condition S: what follows is shown for each value that the call may hand back. One order stands for all. For any layer. No walk. -/
namespace Go.Proofs.Ytnoenccpbbkdeaa
open Go.ChangeShapes Go.WideShapes Go.ChangeAt Go.RowKit

section
variable {P : Program} {ops : Array Oper} {Q : Exit → Act → World → Prop} {md : Region.Mode} {S : World → Prop} {T : Value → World → Prop} {R : Value → Act → Prop} {i0 : Nat}

/-- X says all that S says, and abides calls that change nothing that lay -/
structure Stb (S X : World → Prop) : Prop where
  sub : ∀ w, X w → S w
  mono : ∀ w w', X w → Below w.heap.size w w' → X w'

/-- the call: in every world that meets S it hands back some u, in a world that meets T u -/
def KeepsEx (P : Program) (ops : Array Oper) (S : World → Prop) (T : Value → World → Prop) (o : Oper) (a : Act) : Prop :=
  Region.wanted o (yielded ops a.tmps) = true ∧ ∃ f args, (∀ w, (execOp a.eval o).run P w = .ok (.enter f args) w) ∧ ∀ w, S w → Calls P f args w fun e w' => ∃ u, e = .returned u ∧ T u w'

theorem KeepsEx.of_same {o : Oper} {a a' : Act} (hy : KeepsEx P ops S T o a) (he : execOp a'.eval o = execOp a.eval o)
    (hw : Region.wanted o (yielded ops a'.tmps) = Region.wanted o (yielded ops a.tmps)) : KeepsEx P ops S T o a' := by
  unfold KeepsEx at *
  rw [he, hw]
  exact hy

theorem KeepsEx.step {i : Nat} {o : Oper} {a : Act} {K : Act → World → Prop} {w : World} (hi : ops[i]? = some o) (hy : KeepsEx P ops S T o a) (hS : S w)
    (h : ∀ u w', T u w' → K (a.put o.dst u) w') : Go.wpOp P ops Q i K a w := by
  unfold Go.wpOp
  simp only [hi]
  obtain ⟨hw, f, args, hr, hc⟩ := hy
  rw [if_pos hw]
  left
  simp only [Oper.wp, hr, Oper.upon]
  refine Calls.mono (hc w hS) ?_
  rintro e w'' ⟨u, rfl, hT⟩
  exact h u w'' hT

/-- before the call i0 -/
def AllT (P : Program) (md : Region.Mode) (ops : Array Oper) (S : World → Prop) (T : Value → World → Prop) (i0 : Nat) (R : Value → Act → Prop) : Nat → Array Bool → Act → Prop
  | 0, _, _ => False
  | fuel + 1, listed, a => Region.ready md ops listed ≠ [] ∧
    ∀ i ∈ Region.ready md ops listed, (i = i0 → ∃ o, ops[i]? = some o ∧ KeepsEx P ops S T o a ∧ ∀ u, AllS P md ops (T u) (R u) fuel (listed.setIfInBounds i true) (a.put o.dst u)) ∧
      (i ≠ i0 → ∃ oi v, ops[i]? = some oi ∧ KeepsIf P ops S oi v a ∧ AllT P md ops S T i0 R fuel (listed.setIfInBounds i true) (a.put oi.dst v))

theorem AllT.sound (hQ : ∀ u a w, T u w → R u a → Q .normal a w) : ∀ (fuel : Nat) (listed : Array Bool) (a : Act) (w : World), AllT P md ops S T i0 R fuel listed a → S w → wpAny P md ops Q fuel listed a w
  | 0, _, _, _, h, _ => h.elim
  | fuel + 1, _, _, w, h, hS => ⟨fun h0 => absurd h0 h.1, fun i hi => by
    by_cases e : i = i0
    · obtain ⟨o, ho, hk, hr⟩ := (h.2 i hi).1 e
      exact hk.step ho hS fun u w' hT => AllS.sound (fun a w hS hR => hQ u a w hS hR) fuel _ _ w' (hr u) hT
    · obtain ⟨oi, v, ho, hk, hr⟩ := (h.2 i hi).2 e
      exact hk.step ho hS fun w' hS' => AllT.sound hQ fuel _ _ w' hr hS'⟩

theorem AllT.first {i : Nat} {oi : Oper} {v : Value} (hi : ops[i]? = some oi) (hne : i ≠ i0) (hsel : ∀ (j : Nat) (o : Oper) cs b, ops[j]? = some o → o.op ≠ .select cs b) :
    ∀ (fuel : Nat) (listed : Array Bool) (a : Act),
      (∀ j oj, ops[j]? = some oj → j ≠ i → listed.getD j true = false → (∀ e ∈ oj.after, Region.binds md e = true → e.on ≠ i) → oi.apart ops oj = true) →
      i ∈ Region.ready md ops listed → KeepsIf P ops S oi v a → (∀ u, KeepsIf P ops (T u) oi v a) →
      AllT P md ops S T i0 R fuel (listed.setIfInBounds i true) (a.put oi.dst v) → AllT P md ops S T i0 R (fuel + 1) listed a := by
  intro fuel
  induction fuel with
  | zero => intro _ _ _ _ _ _ H; exact H.elim
  | succ fuel ih =>
    intro listed a hfree hr hy hyT H
    refine ⟨fun h => (by rw [h] at hr; cases hr), fun j hj => ?_⟩
    by_cases hji : j = i
    · subst hji
      exact ⟨fun e => absurd e hne, fun _ => ⟨oi, v, hi, hy, H⟩⟩
    · obtain ⟨hjun, oj', hoj', hall⟩ := mem_ready.1 hj
      have hnot : ∀ e ∈ oj'.after, Region.binds md e = true → e.on ≠ i := fun e he hb heq => by
        have h1 := hall e he hb
        have h0 := (mem_ready.1 hr).1
        rw [heq] at h1
        rcases Nat.lt_or_ge i listed.size with h' | h'
        · simp [h'] at h0 h1; rw [h0] at h1; cases h1
        · simp [Array.getElem?_eq_none h'] at h1
      have hap := hfree j oj' hoj' hji hjun hnot
      obtain ⟨h1, h2, h3⟩ := Oper.apart_spec hap
      have hsi : ∀ cs b, oi.op ≠ .select cs b := fun cs b => hsel i oi cs b hi
      have hsj : ∀ cs b, oj'.op ≠ .select cs b := fun cs b => hsel j oj' cs b hoj'
      have hfree' : ∀ k ok, ops[k]? = some ok → k ≠ i → (listed.setIfInBounds j true).getD k true = false →
          (∀ e ∈ ok.after, Region.binds md e = true → e.on ≠ i) → oi.apart ops ok = true := fun k ok hok hki hun hno => by
        refine hfree k ok hok hki ?_ hno
        by_cases hjk : j = k
        · subst hjk; exact hjun
        · rw [getD_set_ne true hjk] at hun; exact hun
      refine ⟨fun e => ?_, fun e => ?_⟩
      · obtain ⟨oj, hoj, hk, hrest⟩ := (H.2 j (ready_mono hj hji)).1 e
        rw [hoj'] at hoj
        injection hoj with hoj
        subst hoj
        refine ⟨oj', hoj', hk.of_same (execOp_put oj' hsj a oi.dst v h1).symm (wanted_put oj' a oi.dst v h1).symm, fun u => ?_⟩
        refine AllS.first hi hsel fuel (listed.setIfInBounds j true) _ hfree' (ready_mono hr (Ne.symm hji)) ((hyT u).of_same (execOp_put oi hsi a oj'.dst u h3) (wanted_put oi a oj'.dst u h3)) ?_
        rw [Array.setIfInBounds_comm _ _ hji, ← Act.put_comm a v u h2]
        exact hrest u
      · obtain ⟨oj, u, hoj, hk, hrest⟩ := (H.2 j (ready_mono hj hji)).2 e
        rw [hoj'] at hoj
        injection hoj with hoj
        subst hoj
        refine ⟨oj', u, hoj', hk.of_same (execOp_put oj' hsj a oi.dst v h1).symm (wanted_put oj' a oi.dst v h1).symm, ?_⟩
        refine ih (listed.setIfInBounds j true) _ hfree' (ready_mono hr (Ne.symm hji)) (hy.of_same (execOp_put oi hsi a oj'.dst u h3) (wanted_put oi a oj'.dst u h3)) (fun u' => (hyT u').of_same (execOp_put oi hsi a oj'.dst u h3) (wanted_put oi a oj'.dst u h3)) ?_
        rw [Array.setIfInBounds_comm _ _ hji, ← Act.put_comm a v u h2]
        exact hrest

/-- number i is taken first -/
theorem AllT.take {i : Nat} {oi : Oper} {v : Value} {fuel : Nat} {listed : Array Bool} {a : Act} (hS : ∀ w w', S w → Below w.heap.size w w' → S w') (hT : ∀ u, Stb S (T u)) (hi : ops[i]? = some oi) (hne : (i == i0) = false)
    (hs : Region.noSelect ops = true) (hf : Region.free md ops listed i = true) (hr : (Region.ready md ops listed).contains i = true)
    (hy : ∀ X, Stb S X → KeepsIf P ops X oi v a) (h : AllT P md ops S T i0 R fuel (listed.setIfInBounds i true) (a.put oi.dst v)) : AllT P md ops S T i0 R (fuel + 1) listed a :=
  AllT.first hi (by simpa using hne) (Region.noSelect_spec hs) fuel listed a (Region.free_spec hi hf) (by simpa using hr) (hy S ⟨fun _ h => h, hS⟩) (fun u => hy (T u) (hT u)) h

/-- the call itself, where nothing else is ready -/
theorem AllT.call {o : Oper} {fuel : Nat} {listed : Array Bool} {a : Act} (hi : ops[i0]? = some o) (hr : Region.ready md ops listed = [i0]) (hk : KeepsEx P ops S T o a)
    (h : ∀ u, AllS P md ops (T u) (R u) fuel (listed.setIfInBounds i0 true) (a.put o.dst u)) : AllT P md ops S T i0 R (fuel + 1) listed a :=
  ⟨by rw [hr]; simp, fun i hi' => by
    rw [hr, List.mem_singleton] at hi'
    subst hi'
    exact ⟨fun _ => ⟨o, hi, hk, h⟩, fun e => absurd rfl e⟩⟩

theorem KeepsEx.mk_ {o : Oper} {a : Act} (f : Nat) (args : Array Value) (hw : Region.wanted o (yielded ops a.tmps) = true) (h : ∀ w, (execOp a.eval o).run P w = .ok (.enter f args) w)
    (hc : ∀ w, S w → Calls P f args w fun e w' => ∃ u, e = .returned u ∧ T u w') : KeepsEx P ops S T o a := ⟨hw, f, args, h, hc⟩

theorem region_T {id : Nat} {a : Act} {w : World} (hm : P.follows .mixedOrders = true) (S : World → Prop) (T : Value → World → Prop) (i0 : Nat) (h0 : S w.drew)
    (h : ∀ R : Value → Act → Prop, Hid (∀ u a', (∀ w', T u w' → Q .normal a' w') → R u a') → AllT P .any ops S T i0 R ops.size (Array.replicate ops.size false) a) : (Code.region id ops true).wp P Q a w :=
  wp_region_any hm (AllT.sound (R := fun u a' => ∀ w', T u w' → Q .normal a' w') (fun _ _ w' hS hR => hR w' hS) _ _ _ _ (h _ (Lib.hid fun _ _ h => h)) h0)
end
end Go.Proofs.Ytnoenccpbbkdeaa

/- A region that draws its order, of reads (each yields one value in every world that meets a condition S) and of EFFECTS: operations that change the world or make memory (stores, makes, calls), each of which establishes a fact of its own (phi) that all others keep. One order stands for all; behind the region all facts hold. For any layer. No walk. -/
namespace Go.Proofs.Ytnoenccpbbkdeaa
open Go.ChangeShapes Go.WideShapes Go.ChangeAt Go.RowKit

section
variable {P : Program} {ops : Array Oper} {Q : Exit → Act → World → Prop} {md : Region.Mode} {S : World → Prop} {V : Nat → Value → Prop} {phi : Nat → Value → World → Prop} {R : (World → Prop) → Act → Prop} {eff : Nat → Bool}

/-- a read: one value, in every world that meets S; or not wanted -/
def ReadIf (P : Program) (ops : Array Oper) (S : World → Prop) (o : Oper) (v : Value) (a : Act) : Prop :=
  (Region.wanted o (yielded ops a.tmps) = true ∧ ∀ w, S w → (execOp a.eval o).run P w = .ok (.value v) w) ∨
  (Region.wanted o (yielded ops a.tmps) = false ∧ v = undef)
theorem ReadIf.of_same {o : Oper} {v : Value} {a a' : Act} (hy : ReadIf P ops S o v a) (he : execOp a'.eval o = execOp a.eval o)
    (hw : Region.wanted o (yielded ops a'.tmps) = Region.wanted o (yielded ops a.tmps)) : ReadIf P ops S o v a' := by
  unfold ReadIf at *
  rw [he, hw]
  exact hy
theorem ReadIf.uniq {o : Oper} {v v' : Value} {a : Act} {w0 : World} (h0 : S w0) (h : ReadIf P ops S o v a) (h' : ReadIf P ops S o v' a) : v = v' := by
  rcases h with ⟨hw, hv⟩ | ⟨hw, rfl⟩
  · rcases h' with ⟨_, hv'⟩ | ⟨hw', _⟩
    · have h1 := hv w0 h0
      rw [hv' w0 h0] at h1
      injection h1 with h1 _
      injection h1 with h1
      exact h1.symm
    · rw [hw] at hw'; cases hw'
  · rcases h' with ⟨hw', _⟩ | ⟨_, rfl⟩
    · rw [hw] at hw'; cases hw'
    · rfl

/-- what an effect leaves -/
structure PostE (S : World → Prop) (phi : Nat → Value → World → Prop) (i : Nat) (u : Value) (w w' : World) : Prop where
  s : S w'
  fact : phi i u w'
  keep : ∀ j, j ≠ i → ∀ u', phi j u' w → phi j u' w'

/-- an effect: in every world that meets S -/
def GivesE (P : Program) (S : World → Prop) (V : Nat → Value → Prop) (phi : Nat → Value → World → Prop) (i : Nat) (w : World) (r : Result Next) : Prop :=
  (∃ u w', r = .ok (.value u) w' ∧ V i u ∧ PostE S phi i u w w') ∨ (∃ w', r = .ok .skip w' ∧ V i undef ∧ PostE S phi i undef w w') ∨
  (∃ f args w1, r = .ok (.enter f args) w1 ∧ Calls P f args w1 fun e w' => ∃ u, e = .returned u ∧ V i u ∧ PostE S phi i u w w')
def StepE (P : Program) (ops : Array Oper) (S : World → Prop) (V : Nat → Value → Prop) (phi : Nat → Value → World → Prop) (i : Nat) (o : Oper) (a : Act) : Prop :=
  Region.wanted o (yielded ops a.tmps) = true ∧ ∀ w, S w → GivesE P S V phi i w ((execOp a.eval o).run P w)
theorem StepE.of_same {i : Nat} {o : Oper} {a a' : Act} (hy : StepE P ops S V phi i o a) (he : execOp a'.eval o = execOp a.eval o)
    (hw : Region.wanted o (yielded ops a'.tmps) = Region.wanted o (yielded ops a.tmps)) : StepE P ops S V phi i o a' := by
  unfold StepE at *
  rw [he, hw]
  exact hy
theorem StepE.inh {i : Nat} {o : Oper} {a : Act} {w0 : World} (h0 : S w0) (h : StepE P ops S V phi i o a) : ∃ u, V i u := by
  rcases h.2 w0 h0 with ⟨u, _, _, hv, _⟩ | ⟨_, _, hv, _⟩ | ⟨f, args, w1, _, hc⟩
  · exact ⟨u, hv⟩
  · exact ⟨_, hv⟩
  · obtain ⟨e, w', fr, ⟨u, _, hv, _⟩, _⟩ := hc []
    exact ⟨u, hv⟩
theorem StepE.step {i : Nat} {o : Oper} {a : Act} {K : Act → World → Prop} {w : World} (hi : ops[i]? = some o) (hy : StepE P ops S V phi i o a) (hS : S w)
    (h : ∀ u w', V i u → PostE S phi i u w w' → K (a.put o.dst u) w') : Go.wpOp P ops Q i K a w := by
  unfold Go.wpOp
  simp only [hi]
  rw [if_pos hy.1]
  left
  rcases hy.2 w hS with ⟨u, w', hr, hv, hp⟩ | ⟨w', hr, hv, hp⟩ | ⟨f, args, w', hr, hc⟩
  · simp only [Oper.wp, hr, Oper.upon]
    exact h u w' hv hp
  · simp only [Oper.wp, hr, Oper.upon]
    exact h undef w' hv hp
  · simp only [Oper.wp, hr, Oper.upon]
    refine Calls.mono hc ?_
    rintro e w'' ⟨u, rfl, hv, hp⟩
    exact h u w'' hv hp
theorem ReadIf.step {i : Nat} {o : Oper} {v : Value} {a : Act} {K : Act → World → Prop} {w : World} (hi : ops[i]? = some o) (hy : ReadIf P ops S o v a) (hS : S w)
    (h : K (a.put o.dst v) w) : Go.wpOp P ops Q i K a w := by
  unfold Go.wpOp
  simp only [hi]
  rcases hy with ⟨hw, hv⟩ | ⟨hw, rfl⟩
  · rw [if_pos hw]
    left
    simp only [Oper.wp, hv w hS, Oper.upon]
    exact h
  · rw [if_neg (by simp [hw])]
    exact h

def AllE (P : Program) (md : Region.Mode) (ops : Array Oper) (S : World → Prop) (V : Nat → Value → Prop) (phi : Nat → Value → World → Prop) (eff : Nat → Bool) (R : (World → Prop) → Act → Prop) : Nat → Array Bool → Act → (World → Prop) → Prop
  | 0, listed, a, F => Region.ready md ops listed = [] ∧ R F a
  | fuel + 1, listed, a, F => (Region.ready md ops listed = [] → R F a) ∧
    ∀ i ∈ Region.ready md ops listed, (eff i = true → ∃ o, ops[i]? = some o ∧ StepE P ops S V phi i o a ∧ ∀ u, V i u → AllE P md ops S V phi eff R fuel (listed.setIfInBounds i true) (a.put o.dst u) (fun w => F w ∧ phi i u w)) ∧
      (eff i = false → ∃ oi v, ops[i]? = some oi ∧ ReadIf P ops S oi v a ∧ AllE P md ops S V phi eff R fuel (listed.setIfInBounds i true) (a.put oi.dst v) F)

/-- F is kept by every operation that has not come up -/
def KeptE (phi : Nat → Value → World → Prop) (listed : Array Bool) (F : World → Prop) : Prop :=
  ∀ i, listed.getD i true = false → ∀ w w', (∀ j, j ≠ i → ∀ u', phi j u' w → phi j u' w') → F w → F w'

theorem unset {listed : Array Bool} {i k : Nat} (h : (listed.setIfInBounds i true).getD k true = false) : listed.getD k true = false ∧ k ≠ i := by
  by_cases e : i = k
  · subst e
    by_cases hi : i < listed.size
    · simp [hi] at h
    · simp [hi] at h
  · rw [getD_set_ne true e] at h
    exact ⟨h, fun h' => e h'.symm⟩

theorem AllE.sound (hQ : ∀ F a w, S w → F w → R F a → Q .normal a w) : ∀ (fuel : Nat) (listed : Array Bool) (a : Act) (F : World → Prop) (w : World), KeptE phi listed F → AllE P md ops S V phi eff R fuel listed a F → S w → F w → wpAny P md ops Q fuel listed a w
  | 0, _, _, _, w, _, h, hS, hF => ⟨h.1, hQ _ _ w hS hF h.2⟩
  | fuel + 1, listed, _, F, w, hK, h, hS, hF => ⟨fun h0 => hQ _ _ w hS hF (h.1 h0), fun i hi => by
    have hun := (mem_ready.1 hi).1
    cases he : eff i with
    | true =>
      obtain ⟨o, ho, hk, hr⟩ := (h.2 i hi).1 he
      refine hk.step ho hS fun u w' hv hp => AllE.sound hQ fuel _ _ _ w' ?_ (hr u hv) hp.s ⟨hK i hun w w' hp.keep hF, hp.fact⟩
      intro k hk' w1 w2 hkeep ⟨hF1, hphi⟩
      obtain ⟨h1, h2⟩ := unset hk'
      exact ⟨hK k h1 w1 w2 hkeep hF1, hkeep i (Ne.symm h2) u hphi⟩
    | false =>
      obtain ⟨o, v, ho, hk, hr⟩ := (h.2 i hi).2 he
      exact hk.step ho hS (AllE.sound hQ fuel _ _ _ w (fun k hk' => hK k (unset hk').1) hr hS hF)⟩

theorem AllE.first {i : Nat} {oi : Oper} {w0 : World} (h0 : S w0) (hi : ops[i]? = some oi) (hsel : ∀ (j : Nat) (o : Oper) cs b, ops[j]? = some o → o.op ≠ .select cs b) :
    ∀ (fuel : Nat) (listed : Array Bool) (a : Act) (F : World → Prop),
      (∀ j oj, ops[j]? = some oj → j ≠ i → listed.getD j true = false → (∀ e ∈ oj.after, Region.binds md e = true → e.on ≠ i) → oi.apart ops oj = true) →
      i ∈ Region.ready md ops listed →
      (eff i = true → StepE P ops S V phi i oi a ∧ ∀ u, V i u → AllE P md ops S V phi eff R fuel (listed.setIfInBounds i true) (a.put oi.dst u) (fun w => F w ∧ phi i u w)) →
      (eff i = false → ∃ v, ReadIf P ops S oi v a ∧ AllE P md ops S V phi eff R fuel (listed.setIfInBounds i true) (a.put oi.dst v) F) →
      AllE P md ops S V phi eff R (fuel + 1) listed a F := by
  intro fuel
  induction fuel with
  | zero =>
    intro listed a F _ hr hX hP
    refine ⟨fun h => (by rw [h] at hr; cases hr), fun j hj => ?_⟩
    by_cases hji : j = i
    · subst hji
      refine ⟨fun e => ?_, fun e => ?_⟩
      · obtain ⟨h1, h2⟩ := hX e; exact ⟨oi, hi, h1, h2⟩
      · obtain ⟨v, h1, h2⟩ := hP e; exact ⟨oi, v, hi, h1, h2⟩
    · have hm := ready_mono hj hji
      cases he : eff i with
      | true =>
        obtain ⟨h1, h2⟩ := hX he
        obtain ⟨u, hu⟩ := h1.inh h0
        rw [(h2 u hu).1] at hm
        cases hm
      | false =>
        obtain ⟨v, _, h2⟩ := hP he
        rw [h2.1] at hm
        cases hm
  | succ fuel ih =>
    intro listed a F hfree hr hX hP
    refine ⟨fun h => (by rw [h] at hr; cases hr), fun j hj => ?_⟩
    by_cases hji : j = i
    · subst hji
      refine ⟨fun e => ?_, fun e => ?_⟩
      · obtain ⟨h1, h2⟩ := hX e; exact ⟨oi, hi, h1, h2⟩
      · obtain ⟨v, h1, h2⟩ := hP e; exact ⟨oi, v, hi, h1, h2⟩
    · obtain ⟨hjun, oj, hoj, hall⟩ := mem_ready.1 hj
      have hnot : ∀ e ∈ oj.after, Region.binds md e = true → e.on ≠ i := fun e he hb heq => by
        have h1 := hall e he hb
        have h0 := (mem_ready.1 hr).1
        rw [heq] at h1
        rcases Nat.lt_or_ge i listed.size with h' | h'
        · simp [h'] at h0 h1; rw [h0] at h1; cases h1
        · simp [Array.getElem?_eq_none h'] at h1
      have hap := hfree j oj hoj hji hjun hnot
      obtain ⟨h1, h2, h3⟩ := Oper.apart_spec hap
      have hsi : ∀ cs b, oi.op ≠ .select cs b := fun cs b => hsel i oi cs b hi
      have hsj : ∀ cs b, oj.op ≠ .select cs b := fun cs b => hsel j oj cs b hoj
      have hfree' : ∀ k ok, ops[k]? = some ok → k ≠ i → (listed.setIfInBounds j true).getD k true = false →
          (∀ e ∈ ok.after, Region.binds md e = true → e.on ≠ i) → oi.apart ops ok = true := fun k ok hok hki hun hno => hfree k ok hok hki (unset hun).1 hno
      have hm := ready_mono hj hji
      have hri := ready_mono hr (Ne.symm hji)
      have swapF : ∀ (A B : World → Prop), (fun w => (F w ∧ A w) ∧ B w) = fun w => (F w ∧ B w) ∧ A w := fun A B => by
        funext w
        exact propext ⟨fun ⟨⟨x, y⟩, z⟩ => ⟨⟨x, z⟩, y⟩, fun ⟨⟨x, y⟩, z⟩ => ⟨⟨x, z⟩, y⟩⟩
      refine ⟨fun e => ?_, fun e => ?_⟩
      · -- j is an effect
        refine ⟨oj, hoj, ?_, fun uj huj => ?_⟩
        · cases he : eff i with
          | true =>
            obtain ⟨s1, s2⟩ := hX he
            obtain ⟨u, hu⟩ := s1.inh h0
            obtain ⟨o', ho', hk, _⟩ := ((s2 u hu).2 j hm).1 e
            rw [hoj] at ho'; injection ho' with ho'; subst ho'
            exact hk.of_same (execOp_put oj hsj a oi.dst u h1).symm (wanted_put oj a oi.dst u h1).symm
          | false =>
            obtain ⟨v, _, s2⟩ := hP he
            obtain ⟨o', ho', hk, _⟩ := (s2.2 j hm).1 e
            rw [hoj] at ho'; injection ho' with ho'; subst ho'
            exact hk.of_same (execOp_put oj hsj a oi.dst v h1).symm (wanted_put oj a oi.dst v h1).symm
        · refine ih (listed.setIfInBounds j true) _ _ hfree' hri (fun he => ?_) (fun he => ?_)
          · obtain ⟨s1, s2⟩ := hX he
            refine ⟨s1.of_same (execOp_put oi hsi a oj.dst uj h3) (wanted_put oi a oj.dst uj h3), fun u hu => ?_⟩
            obtain ⟨o', ho', _, hrest⟩ := ((s2 u hu).2 j hm).1 e
            rw [hoj] at ho'; injection ho' with ho'; subst ho'
            rw [Array.setIfInBounds_comm _ _ hji, ← Act.put_comm a u uj h2, swapF]
            exact hrest uj huj
          · obtain ⟨v, s1, s2⟩ := hP he
            refine ⟨v, s1.of_same (execOp_put oi hsi a oj.dst uj h3) (wanted_put oi a oj.dst uj h3), ?_⟩
            obtain ⟨o', ho', _, hrest⟩ := (s2.2 j hm).1 e
            rw [hoj] at ho'; injection ho' with ho'; subst ho'
            rw [Array.setIfInBounds_comm _ _ hji, ← Act.put_comm a v uj h2]
            exact hrest uj huj
      · -- j is a read
        cases he : eff i with
        | true =>
          obtain ⟨s1, s2⟩ := hX he
          obtain ⟨u0, hu0⟩ := s1.inh h0
          obtain ⟨o', vj, ho', hk, _⟩ := ((s2 u0 hu0).2 j hm).2 e
          rw [hoj] at ho'; injection ho' with ho'; subst ho'
          have hka := hk.of_same (execOp_put oj hsj a oi.dst u0 h1).symm (wanted_put oj a oi.dst u0 h1).symm
          refine ⟨oj, vj, hoj, hka, ih (listed.setIfInBounds j true) _ _ hfree' hri (fun _ => ?_) (fun h => by rw [he] at h; cases h)⟩
          refine ⟨s1.of_same (execOp_put oi hsi a oj.dst vj h3) (wanted_put oi a oj.dst vj h3), fun u hu => ?_⟩
          obtain ⟨o', vj', ho', hk', hrest⟩ := ((s2 u hu).2 j hm).2 e
          rw [hoj] at ho'; injection ho' with ho'; subst ho'
          obtain rfl := hka.uniq h0 (hk'.of_same (execOp_put oj hsj a oi.dst u h1).symm (wanted_put oj a oi.dst u h1).symm)
          rw [Array.setIfInBounds_comm _ _ hji, ← Act.put_comm a u vj h2]
          exact hrest
        | false =>
          obtain ⟨v, s1, s2⟩ := hP he
          obtain ⟨o', vj, ho', hk, hrest⟩ := (s2.2 j hm).2 e
          rw [hoj] at ho'; injection ho' with ho'; subst ho'
          refine ⟨oj, vj, hoj, hk.of_same (execOp_put oj hsj a oi.dst v h1).symm (wanted_put oj a oi.dst v h1).symm, ih (listed.setIfInBounds j true) _ _ hfree' hri (fun h => by rw [he] at h; cases h) (fun _ => ?_)⟩
          refine ⟨v, s1.of_same (execOp_put oi hsi a oj.dst vj h3) (wanted_put oi a oj.dst vj h3), ?_⟩
          rw [Array.setIfInBounds_comm _ _ hji, ← Act.put_comm a v vj h2]
          exact hrest

/-- a read is taken first -/
theorem AllE.read {i : Nat} {oi : Oper} {v : Value} {fuel : Nat} {listed : Array Bool} {a : Act} {F : World → Prop} {w0 : World} (h0 : S w0) (hi : ops[i]? = some oi) (he : eff i = false)
    (hs : Region.noSelect ops = true) (hf : Region.free md ops listed i = true) (hr : (Region.ready md ops listed).contains i = true)
    (hw : Region.wanted oi (yielded ops a.tmps) = true) (hy : ∀ w, S w → (execOp a.eval oi).run P w = .ok (.value v) w)
    (h : AllE P md ops S V phi eff R fuel (listed.setIfInBounds i true) (a.put oi.dst v) F) : AllE P md ops S V phi eff R (fuel + 1) listed a F :=
  AllE.first h0 hi (Region.noSelect_spec hs) fuel listed a F (Region.free_spec hi hf) (by simpa using hr) (fun h => by rw [he] at h; cases h) (fun _ => ⟨v, .inl ⟨hw, hy⟩, h⟩)
/-- an effect is taken first -/
theorem AllE.effect {i : Nat} {oi : Oper} {fuel : Nat} {listed : Array Bool} {a : Act} {F : World → Prop} {w0 : World} (h0 : S w0) (hi : ops[i]? = some oi) (he : eff i = true)
    (hs : Region.noSelect ops = true) (hf : Region.free md ops listed i = true) (hr : (Region.ready md ops listed).contains i = true)
    (hw : Region.wanted oi (yielded ops a.tmps) = true) (hy : ∀ w, S w → GivesE P S V phi i w ((execOp a.eval oi).run P w))
    (h : ∀ u, V i u → AllE P md ops S V phi eff R fuel (listed.setIfInBounds i true) (a.put oi.dst u) (fun w => F w ∧ phi i u w)) : AllE P md ops S V phi eff R (fuel + 1) listed a F :=
  AllE.first h0 hi (Region.noSelect_spec hs) fuel listed a F (Region.free_spec hi hf) (by simpa using hr) (fun _ => ⟨⟨hw, hy⟩, h⟩) (fun h => by rw [he] at h; cases h)
theorem AllE.done {listed : Array Bool} {a : Act} {F : World → Prop} (hr : Region.ready md ops listed = []) (h : R F a) : ∀ fuel, AllE P md ops S V phi eff R fuel listed a F
  | 0 => ⟨hr, h⟩
  | _ + 1 => ⟨fun _ => h, by rw [hr]; simp⟩
theorem region_E {id : Nat} {a : Act} {w : World} (hm : P.follows .mixedOrders = true) (S : World → Prop) (V : Nat → Value → Prop) (phi : Nat → Value → World → Prop) (eff : Nat → Bool) (h0 : S w.drew)
    (h : ∀ R : (World → Prop) → Act → Prop, Hid (∀ F a', (∀ w', S w' → F w' → Q .normal a' w') → R F a') → AllE P .any ops S V phi eff R ops.size (Array.replicate ops.size false) a (fun _ => True)) : (Code.region id ops true).wp P Q a w :=
  wp_region_any hm (AllE.sound (R := fun F a' => ∀ w', S w' → F w' → Q .normal a' w') (fun _ _ w' hS hF hR => hR w' hS hF) _ _ _ (fun _ => True) _ (fun _ _ _ _ _ _ => trivial) (h _ (Lib.hid fun _ _ h => h)) h0 trivial)
end
end Go.Proofs.Ytnoenccpbbkdeaa

/- Structs whose cells are not looked into: loads, boxes, new variables and stores of them, with the world behind a variable; several blocks known at once; results. No function of the program is named. No walk. -/
namespace Go.Proofs.Ytnoenccpbbkdeaa
open Go.ChangeShapes Go.WideShapes Go.ChangeAt Go.RowKit

/-- the cells cs lie at p -/
def Lies (w : World) (p : Addr) (cs : Array Value) : Prop := ∀ j v, cs[j]? = some v → w.cell? (p.add j) = some v

/-- several blocks, known whole -/
def Kn (w : World) (L : List (Nat × TypeId × Array Value)) : Prop := ∀ x ∈ L, Blk w x.1 x.2.1 x.2.2
theorem Kn.nil (w : World) : Kn w [] := fun _ h => by cases h
theorem Kn.below {w w' : World} {L : List (Nat × TypeId × Array Value)} (h : Kn w L) (b : Below w.heap.size w w') : Kn w' L := fun x hx => (h x hx).keep (S := fun _ => False) (Mod.of_below b) id
theorem Kn.cons {w w' : World} {L : List (Nat × TypeId × Array Value)} (h : Kn w L) (b : Below w.heap.size w w') {g : Nat} {t : TypeId} {cs : Array Value} (B : Blk w' g t cs) : Kn w' ((g, t, cs) :: L) := fun x hx => by
  rcases List.mem_cons.1 hx with rfl | hx
  · exact B
  · exact h.below b x hx
theorem Kn.at_ {w : World} {L : List (Nat × TypeId × Array Value)} (h : Kn w L) (i : Nat) {g : Nat} {t : TypeId} {cs : Array Value} (hi : L[i]? = some (g, t, cs)) : Blk w g t cs := h _ (List.mem_of_getElem? hi)
theorem Blk.lies {w : World} {g : Nat} {t : TypeId} {cs : Array Value} (h : Blk w g t cs) : Lies w ⟨g, 0, none⟩ cs := fun j v hv => by
  have : (⟨g, 0, none⟩ : Addr).add j = ⟨g, j, none⟩ := by unfold Addr.add; split <;> simp_all
  rw [this, h.cell]
  exact hv
/-- a part of a block's cells -/
theorem Blk.part {w : World} {g : Nat} {t : TypeId} {cs xs : Array Value} (h : Blk w g t cs) (o : Nat) (hx : ∀ j v, xs[j]? = some v → cs[o + j]? = some v) : Lies w ⟨g, o, none⟩ xs := fun j v hv => by
  have : (⟨g, o, none⟩ : Addr).add j = ⟨g, o + j, none⟩ := by unfold Addr.add; split <;> simp_all
  rw [this, h.cell]
  exact hx j v hv
theorem Lies.below {w w' : World} {p : Addr} {cs : Array Value} (h : Lies w p cs) (b : Below w.heap.size w w') : Lies w' p cs := fun j v hv => by
  have h1 := h j v hv
  exact (b.cell (World.block_lt_of_cell? _ _ h1)).trans h1

section
variable {P : Program} {ops : Array Oper} {Q : Exit → Act → World → Prop} {a : Act} {w : World} {rest : List Oper} {o o1 o2 : Oper}

theorem run_load_at (w : World) (p : Addr) (ty : TypeId) (cs : Array Value) (d : TypeDesc) (hL : Lies w p cs)
    (hu : P.underlying ty = some d) (hd : (match d with | .struct _ | .array _ _ => true | _ => false) = true) (hi : (P.info? ty).map (·.size) = some cs.size) :
    (loadVar ty p).run P w = .ok (.agg cs) w := by
  have hl : (loadCells p cs.toList.length).run P w = .ok cs.toList.toArray w :=
    run_loadCells_list (P := P) w p cs.toList (fun j v hv => hL j v (by simpa using hv))
  cases hq : P.info? ty with
  | none => simp [hq] at hi
  | some i =>
    have hs : i.size = cs.size := by simpa [hq] using hi
    have hagg : (isAgg ty).run P w = .ok true w := by
      unfold isAgg
      rw [Sem.run_bind, run_underlying hu w]
      cases d <;> simp_all
    simp only [Array.length_toList, Array.toArray_toList] at hl
    simp [loadVar, Sem.run_bind, hagg, sizeOf, typeInfo, hq, hs, hl]

theorem run_op_load (ty : TypeId) (x : Operand) (ho : o.op = .load ty x) (p : Addr) (hx : a.eval x = .pointer (some p)) (cs : Array Value) (d : TypeDesc) (hL : Lies w p cs)
    (hu : P.underlying ty = some d) (hd : (match d with | .struct _ | .array _ _ => true | _ => false) = true) (hi : (P.info? ty).map (·.size) = some cs.size) :
    (execOp a.eval o).run P w = .ok (.value (.agg cs)) w := by
  unfold execOp
  simp only [ho, hx, Instr.loadAt, Instr.sureAddr, Sem.run_bind, Sem.run_pure, Result.andThen_ok, run_load_at w p ty cs d hL hu hd hi]

/-- what is not guarded is wanted -/
theorem wanted_none (h : o.guard = none) (y : Nat → Option Bool) : Region.wanted o y = true := by simp [Region.wanted, h]

/-- one operation that yields v and goes to the world w' -/
theorem wpList_valIf (hw : Region.wanted o (yielded ops a.tmps) = true) (dst : Option Tmp) (hd : o.dst = dst) (v : Value) (w' : World) (hrun : (execOp a.eval o).run P w = .ok (.value v) w')
    (h : wpList P ops Q rest (a.put dst v) w') : wpList P ops Q (o :: rest) a w := by
  subst hd
  refine wpList_step fun K hK => ?_
  rw [if_pos hw]
  unfold Oper.wp
  rw [hrun]
  exact hK _ _ h

/-- a load of a struct -/
theorem wpList_loadL (hg : o.guard = none) (ty : TypeId) (x : Operand) (ho : o.op = .load ty x) (p : Addr) (hx : a.eval x = .pointer (some p)) (cs : Array Value) (d : TypeDesc) (hL : Lies w p cs)
    (hu : P.underlying ty = some d) (hd : (match d with | .struct _ | .array _ _ => true | _ => false) = true) (hi : (P.info? ty).map (·.size) = some cs.size)
    (h : wpList P ops Q rest (a.put o.dst (.agg cs)) w) : wpList P ops Q (o :: rest) a w :=
  wpList_valIf (wanted_none hg _) _ rfl _ _ (run_op_load ty x ho p hx cs d hL hu hd hi) h

/-- a new variable -/
theorem wpList_newV (hg : o.guard = none) (ty : TypeId) (ho : o.op = .alloc ty) (z : Array Value) (hal : ∀ w, (Instr.alloc ty true (.tuple #[])).run P w = .ok (.pointer (some ⟨w.heap.size, 0, none⟩)) (w.alloc (.cells z ty)))
    (h : ∀ w', Below w.heap.size w w' → Blk w' w.heap.size ty z → wpList P ops Q rest (a.put o.dst (.pointer (some ⟨w.heap.size, 0, none⟩))) w') : wpList P ops Q (o :: rest) a w := by
  refine wpList_valIf (wanted_none hg _) _ rfl _ _ ?_ (h _ (below_alloc w _) (Blk.new w ty z))
  unfold execOp
  simp only [ho, Sem.run_bind, hal, Sem.run_pure, Result.andThen_ok]

/-- a box -/
theorem wpList_boxL (hg : o.guard = none) (ty : TypeId) (x : Operand) (ho : o.op = .box ty x) (cs : Array Value) (hx : a.eval x = .agg cs) (hal : ∀ w, (Instr.box ty (.agg cs)).run P w = .ok (.pointer (some ⟨w.heap.size, 0, none⟩)) (w.alloc (.cells cs ty)))
    (h : ∀ w', Below w.heap.size w w' → Blk w' w.heap.size ty cs → wpList P ops Q rest (a.put o.dst (.pointer (some ⟨w.heap.size, 0, none⟩))) w') : wpList P ops Q (o :: rest) a w := by
  refine wpList_valIf (wanted_none hg _) _ rfl _ _ ?_ (h _ (below_alloc w _) (Blk.new w ty cs))
  unfold execOp
  simp only [ho, hx, Sem.run_bind, hal, Sem.run_pure, Result.andThen_ok]

theorem mod_setRow (w : World) (g : Nat) (cs : Array Value) : Mod (fun k => k = g) w (w.setRow g cs) := ⟨rfl, rfl, rfl, by simp, fun k _ hk => setRow_other w g k cs hk⟩

/-- a store of a whole struct -/
theorem wpList_storeL (hg : o.guard = none) (ty : TypeId) (x y : Operand) (ho : o.op = .store ty x y) (hd : o.dst = none) (g : Nat) (hx : a.eval x = .pointer (some ⟨g, 0, none⟩)) (cs : Array Value) (hy : a.eval y = .agg cs)
    (t : TypeId) (old : Array Value) (hB : Blk w g t old) (hi : (P.info? ty).map (·.size) = some cs.size) (hold : old.size = cs.size) (h1 : cs.all (·.oneCell') = true)
    (h : ∀ w', Mod (fun k => k = g) w w' → Blk w' g t cs → wpList P ops Q rest a w') : wpList P ops Q (o :: rest) a w :=
  wpList_store_row hg ty x y ho g cs hx hy t old hB hi hold h1 (by rw [hd]; exact h _ (mod_setRow _ _ _) (setRow_heap _ _ _ _ _ _ hB))

theorem wp_storeL {K : Act → World → Prop} (ty : TypeId) (x y : Operand) (ho : o.op = .store ty x y) (hd : o.dst = none) (g : Nat) (hx : a.eval x = .pointer (some ⟨g, 0, none⟩)) (cs : Array Value) (hy : a.eval y = .agg cs)
    (t : TypeId) (old : Array Value) (hB : Blk w g t old) (hi : (P.info? ty).map (·.size) = some cs.size) (hold : old.size = cs.size) (h1 : cs.all (·.oneCell') = true)
    (h : ∀ w', Mod (fun k => k = g) w w' → Blk w' g t cs → K a w') : o.wp P a w K Q :=
  wp_store_row ty x y ho g cs hx hy t old hB hi hold h1 (by rw [hd]; exact h _ (mod_setRow _ _ _) (setRow_heap _ _ _ _ _ _ hB))

/-- a new variable that a struct is stored into at once -/
theorem wpList_newS (hg1 : o1.guard = none) (hg2 : o2.guard = none) (ty : TypeId) (D : Tmp) (hd1 : o1.dst = some D) (ho1 : o1.op = .alloc ty) (y : Operand) (ho2 : o2.op = .store ty (.tmp D) y) (hd2 : o2.dst = none)
    (z : Array Value) (hal : ∀ w, (Instr.alloc ty true (.tuple #[])).run P w = .ok (.pointer (some ⟨w.heap.size, 0, none⟩)) (w.alloc (.cells z ty)))
    (cs : Array Value) (hx : ∀ v, (a.put (some D) v).eval (.tmp D) = v) (hy : ∀ v, (a.put (some D) v).eval y = .agg cs)
    (hi : (P.info? ty).map (·.size) = some cs.size) (hold : z.size = cs.size) (h1 : cs.all (·.oneCell') = true)
    (h : ∀ w', Below w.heap.size w w' → Blk w' w.heap.size ty cs → wpList P ops Q rest (a.put (some D) (.pointer (some ⟨w.heap.size, 0, none⟩))) w') : wpList P ops Q (o1 :: o2 :: rest) a w := by
  refine wpList_newV hg1 ty ho1 z hal fun w1 b1 B1 => ?_
  rw [hd1]
  exact wpList_storeL hg2 ty (.tmp D) y ho2 hd2 w.heap.size (hx _) cs (hy _) ty z B1 hi hold h1 fun w2 m2 B2 => h w2 (b1.trans (m2.below b1.size (fun k hk => by omega))) B2
end

/-! ### results -/
theorem res_row {P : Program} {fn : Func} {p : Tmp} {ty : TypeId} (h : fn.results = #[.cell p ty]) (tmps : Array Value) (w : World) (g : Nat) (t : TypeId) (cs : Array Value) (d : TypeDesc)
    (hp : tmps.getD p undef = .pointer (some ⟨g, 0, none⟩)) (hB : Blk w g t cs)
    (hu : P.underlying ty = some d) (hd : (match d with | .struct _ | .array _ _ => true | _ => false) = true) (hi : (P.info? ty).map (·.size) = some cs.size) :
    (results fn tmps).run P w = .ok (.agg cs) w := results_cell_row h tmps w g t cs (0, 0) d hp hB hu hd hi
theorem res_row_tmp {P : Program} {fn : Func} {p u : Tmp} {ty : TypeId} (h : fn.results = #[.cell p ty, .tmp u]) (tmps : Array Value) (w : World) (g : Nat) (t : TypeId) (cs : Array Value) (d : TypeDesc)
    (hp : tmps.getD p undef = .pointer (some ⟨g, 0, none⟩)) (hB : Blk w g t cs)
    (hu : P.underlying ty = some d) (hd : (match d with | .struct _ | .array _ _ => true | _ => false) = true) (hi : (P.info? ty).map (·.size) = some cs.size) :
    (results fn tmps).run P w = .ok (.tuple #[.agg cs, tmps.getD u undef]) w := by
  have hp' : tmps[p]?.getD undef = .pointer (some ⟨g, 0, none⟩) := by simpa using hp
  simp [results, h, hp', asAddr, run_loadVar_row w g t ty cs (0, 0) d hB hu hd hi]
end Go.Proofs.Ytnoenccpbbkdeaa
