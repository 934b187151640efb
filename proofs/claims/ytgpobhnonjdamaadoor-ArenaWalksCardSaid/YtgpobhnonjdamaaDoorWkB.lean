/- A region that draws its order and holds ONE call that hands back what it has made (a value that hangs on the world), beside operations that each yield one value in every world that meets a condition S: what follows is shown for each value that the call may hand back. One order stands for all. For any layer. No walk. -/
import Derived.Test.YtgpobhnonjdamaaDoorRegS
import Derived.Test.YtgpobhnonjdamaaDoorArNone
import Derived.Test.YtgpobhnonjdamaaDoorArAdds
namespace Go.Proofs.YtgpobhnonjdamaaDoor
open Go.ChangeShapes Go.WideShapes Go.ChangeAt Go.RowKit

section
variable {P : Program} {ops : Array Oper} {Q : Exit → Act → World → Prop} {md : Region.Mode} {S : World → Prop} {T : Value → World → Prop} {R : Value → Act → Prop} {i0 : Nat}

/-- X says all that S says, and abides calls that change nothing that lay -/
structure Stb (S X : World → Prop) : Prop where
  sub : ∀ w, X w → S w
  mono : ∀ w w', X w → Below w.heap.size w w' → X w'

/-- the call: in every world that meets S it hands back some u, in a world that meets T u -/
def KeepsEx (P : Program) (ops : Array Oper) (S : World → Prop) (T : Value → World → Prop) (o : Oper) (a : Act) : Prop :=
  Region.wanted o (yielded ops a.tmps) = true ∧ ∃ f args, (∀ w, (execOp a.eval o).run P w = .ok (.enter f args) w) ∧ ∀ w, S w → Calls P f args w fun e w' => ∃ u, e = .returned u ∧ T u w'

theorem KeepsEx.of_same {o : Oper} {a a' : Act} (hy : KeepsEx P ops S T o a) (he : execOp a'.eval o = execOp a.eval o)
    (hw : Region.wanted o (yielded ops a'.tmps) = Region.wanted o (yielded ops a.tmps)) : KeepsEx P ops S T o a' := by
  unfold KeepsEx at *
  rw [he, hw]
  exact hy

theorem KeepsEx.step {i : Nat} {o : Oper} {a : Act} {K : Act → World → Prop} {w : World} (hi : ops[i]? = some o) (hy : KeepsEx P ops S T o a) (hS : S w)
    (h : ∀ u w', T u w' → K (a.put o.dst u) w') : Go.wpOp P ops Q i K a w := by
  unfold Go.wpOp
  simp only [hi]
  obtain ⟨hw, f, args, hr, hc⟩ := hy
  rw [if_pos hw]
  left
  simp only [Oper.wp, hr, Oper.upon]
  refine Calls.mono (hc w hS) ?_
  rintro e w'' ⟨u, rfl, hT⟩
  exact h u w'' hT

/-- before the call i0 -/
def AllT (P : Program) (md : Region.Mode) (ops : Array Oper) (S : World → Prop) (T : Value → World → Prop) (i0 : Nat) (R : Value → Act → Prop) : Nat → Array Bool → Act → Prop
  | 0, _, _ => False
  | fuel + 1, listed, a => Region.ready md ops listed ≠ [] ∧
    ∀ i ∈ Region.ready md ops listed, (i = i0 → ∃ o, ops[i]? = some o ∧ KeepsEx P ops S T o a ∧ ∀ u, AllS P md ops (T u) (R u) fuel (listed.setIfInBounds i true) (a.put o.dst u)) ∧
      (i ≠ i0 → ∃ oi v, ops[i]? = some oi ∧ KeepsIf P ops S oi v a ∧ AllT P md ops S T i0 R fuel (listed.setIfInBounds i true) (a.put oi.dst v))

theorem AllT.sound (hQ : ∀ u a w, T u w → R u a → Q .normal a w) : ∀ (fuel : Nat) (listed : Array Bool) (a : Act) (w : World), AllT P md ops S T i0 R fuel listed a → S w → wpAny P md ops Q fuel listed a w
  | 0, _, _, _, h, _ => h.elim
  | fuel + 1, _, _, w, h, hS => ⟨fun h0 => absurd h0 h.1, fun i hi => by
    by_cases e : i = i0
    · obtain ⟨o, ho, hk, hr⟩ := (h.2 i hi).1 e
      exact hk.step ho hS fun u w' hT => AllS.sound (fun a w hS hR => hQ u a w hS hR) fuel _ _ w' (hr u) hT
    · obtain ⟨oi, v, ho, hk, hr⟩ := (h.2 i hi).2 e
      exact hk.step ho hS fun w' hS' => AllT.sound hQ fuel _ _ w' hr hS'⟩

theorem AllT.first {i : Nat} {oi : Oper} {v : Value} (hi : ops[i]? = some oi) (hne : i ≠ i0) (hsel : ∀ (j : Nat) (o : Oper) cs b, ops[j]? = some o → o.op ≠ .select cs b) :
    ∀ (fuel : Nat) (listed : Array Bool) (a : Act),
      (∀ j oj, ops[j]? = some oj → j ≠ i → listed.getD j true = false → (∀ e ∈ oj.after, Region.binds md e = true → e.on ≠ i) → oi.apart ops oj = true) →
      i ∈ Region.ready md ops listed → KeepsIf P ops S oi v a → (∀ u, KeepsIf P ops (T u) oi v a) →
      AllT P md ops S T i0 R fuel (listed.setIfInBounds i true) (a.put oi.dst v) → AllT P md ops S T i0 R (fuel + 1) listed a := by
  intro fuel
  induction fuel with
  | zero => intro _ _ _ _ _ _ H; exact H.elim
  | succ fuel ih =>
    intro listed a hfree hr hy hyT H
    refine ⟨fun h => (by rw [h] at hr; cases hr), fun j hj => ?_⟩
    by_cases hji : j = i
    · subst hji
      exact ⟨fun e => absurd e hne, fun _ => ⟨oi, v, hi, hy, H⟩⟩
    · obtain ⟨hjun, oj', hoj', hall⟩ := mem_ready.1 hj
      have hnot : ∀ e ∈ oj'.after, Region.binds md e = true → e.on ≠ i := fun e he hb heq => by
        have h1 := hall e he hb
        have h0 := (mem_ready.1 hr).1
        rw [heq] at h1
        rcases Nat.lt_or_ge i listed.size with h' | h'
        · simp [h'] at h0 h1; rw [h0] at h1; cases h1
        · simp [Array.getElem?_eq_none h'] at h1
      have hap := hfree j oj' hoj' hji hjun hnot
      obtain ⟨h1, h2, h3⟩ := Oper.apart_spec hap
      have hsi : ∀ cs b, oi.op ≠ .select cs b := fun cs b => hsel i oi cs b hi
      have hsj : ∀ cs b, oj'.op ≠ .select cs b := fun cs b => hsel j oj' cs b hoj'
      have hfree' : ∀ k ok, ops[k]? = some ok → k ≠ i → (listed.setIfInBounds j true).getD k true = false →
          (∀ e ∈ ok.after, Region.binds md e = true → e.on ≠ i) → oi.apart ops ok = true := fun k ok hok hki hun hno => by
        refine hfree k ok hok hki ?_ hno
        by_cases hjk : j = k
        · subst hjk; exact hjun
        · rw [getD_set_ne true hjk] at hun; exact hun
      refine ⟨fun e => ?_, fun e => ?_⟩
      · obtain ⟨oj, hoj, hk, hrest⟩ := (H.2 j (ready_mono hj hji)).1 e
        rw [hoj'] at hoj
        injection hoj with hoj
        subst hoj
        refine ⟨oj', hoj', hk.of_same (execOp_put oj' hsj a oi.dst v h1).symm (wanted_put oj' a oi.dst v h1).symm, fun u => ?_⟩
        refine AllS.first hi hsel fuel (listed.setIfInBounds j true) _ hfree' (ready_mono hr (Ne.symm hji)) ((hyT u).of_same (execOp_put oi hsi a oj'.dst u h3) (wanted_put oi a oj'.dst u h3)) ?_
        rw [Array.setIfInBounds_comm _ _ hji, ← Act.put_comm a v u h2]
        exact hrest u
      · obtain ⟨oj, u, hoj, hk, hrest⟩ := (H.2 j (ready_mono hj hji)).2 e
        rw [hoj'] at hoj
        injection hoj with hoj
        subst hoj
        refine ⟨oj', u, hoj', hk.of_same (execOp_put oj' hsj a oi.dst v h1).symm (wanted_put oj' a oi.dst v h1).symm, ?_⟩
        refine ih (listed.setIfInBounds j true) _ hfree' (ready_mono hr (Ne.symm hji)) (hy.of_same (execOp_put oi hsi a oj'.dst u h3) (wanted_put oi a oj'.dst u h3)) (fun u' => (hyT u').of_same (execOp_put oi hsi a oj'.dst u h3) (wanted_put oi a oj'.dst u h3)) ?_
        rw [Array.setIfInBounds_comm _ _ hji, ← Act.put_comm a v u h2]
        exact hrest

/-- number i is taken first -/
theorem AllT.take {i : Nat} {oi : Oper} {v : Value} {fuel : Nat} {listed : Array Bool} {a : Act} (hS : ∀ w w', S w → Below w.heap.size w w' → S w') (hT : ∀ u, Stb S (T u)) (hi : ops[i]? = some oi) (hne : (i == i0) = false)
    (hs : Region.noSelect ops = true) (hf : Region.free md ops listed i = true) (hr : (Region.ready md ops listed).contains i = true)
    (hy : ∀ X, Stb S X → KeepsIf P ops X oi v a) (h : AllT P md ops S T i0 R fuel (listed.setIfInBounds i true) (a.put oi.dst v)) : AllT P md ops S T i0 R (fuel + 1) listed a :=
  AllT.first hi (by simpa using hne) (Region.noSelect_spec hs) fuel listed a (Region.free_spec hi hf) (by simpa using hr) (hy S ⟨fun _ h => h, hS⟩) (fun u => hy (T u) (hT u)) h

/-- the call itself, where nothing else is ready -/
theorem AllT.call {o : Oper} {fuel : Nat} {listed : Array Bool} {a : Act} (hi : ops[i0]? = some o) (hr : Region.ready md ops listed = [i0]) (hk : KeepsEx P ops S T o a)
    (h : ∀ u, AllS P md ops (T u) (R u) fuel (listed.setIfInBounds i0 true) (a.put o.dst u)) : AllT P md ops S T i0 R (fuel + 1) listed a :=
  ⟨by rw [hr]; simp, fun i hi' => by
    rw [hr, List.mem_singleton] at hi'
    subst hi'
    exact ⟨fun _ => ⟨o, hi, hk, h⟩, fun e => absurd rfl e⟩⟩

theorem KeepsEx.mk_ {o : Oper} {a : Act} (f : Nat) (args : Array Value) (hw : Region.wanted o (yielded ops a.tmps) = true) (h : ∀ w, (execOp a.eval o).run P w = .ok (.enter f args) w)
    (hc : ∀ w, S w → Calls P f args w fun e w' => ∃ u, e = .returned u ∧ T u w') : KeepsEx P ops S T o a := ⟨hw, f, args, h, hc⟩

theorem region_T {id : Nat} {a : Act} {w : World} (hm : P.follows .mixedOrders = true) (S : World → Prop) (T : Value → World → Prop) (i0 : Nat) (h0 : S w.drew)
    (h : ∀ R : Value → Act → Prop, Hid (∀ u a', (∀ w', T u w' → Q .normal a' w') → R u a') → AllT P .any ops S T i0 R ops.size (Array.replicate ops.size false) a) : (Code.region id ops true).wp P Q a w :=
  wp_region_any hm (AllT.sound (R := fun u a' => ∀ w', T u w' → Q .normal a' w') (fun _ _ w' hS hR => hR w' hS) _ _ _ _ (h _ (Lib.hid fun _ _ h => h)) h0)
end
end Go.Proofs.YtgpobhnonjdamaaDoor

/- A region that draws its order, of reads (each yields one value in every world that meets a condition S) and of EFFECTS: operations that change the world or make memory (stores, makes, calls), each of which establishes a fact of its own (phi) that all others keep. One order stands for all; behind the region all facts hold. For any layer. No walk. -/
namespace Go.Proofs.YtgpobhnonjdamaaDoor
open Go.ChangeShapes Go.WideShapes Go.ChangeAt Go.RowKit

section
variable {P : Program} {ops : Array Oper} {Q : Exit → Act → World → Prop} {md : Region.Mode} {S : World → Prop} {V : Nat → Value → Prop} {phi : Nat → Value → World → Prop} {R : (World → Prop) → Act → Prop} {eff : Nat → Bool}

/-- a read: one value, in every world that meets S; or not wanted -/
def ReadIf (P : Program) (ops : Array Oper) (S : World → Prop) (o : Oper) (v : Value) (a : Act) : Prop :=
  (Region.wanted o (yielded ops a.tmps) = true ∧ ∀ w, S w → (execOp a.eval o).run P w = .ok (.value v) w) ∨
  (Region.wanted o (yielded ops a.tmps) = false ∧ v = undef)
theorem ReadIf.of_same {o : Oper} {v : Value} {a a' : Act} (hy : ReadIf P ops S o v a) (he : execOp a'.eval o = execOp a.eval o)
    (hw : Region.wanted o (yielded ops a'.tmps) = Region.wanted o (yielded ops a.tmps)) : ReadIf P ops S o v a' := by
  unfold ReadIf at *
  rw [he, hw]
  exact hy
theorem ReadIf.uniq {o : Oper} {v v' : Value} {a : Act} {w0 : World} (h0 : S w0) (h : ReadIf P ops S o v a) (h' : ReadIf P ops S o v' a) : v = v' := by
  rcases h with ⟨hw, hv⟩ | ⟨hw, rfl⟩
  · rcases h' with ⟨_, hv'⟩ | ⟨hw', _⟩
    · have h1 := hv w0 h0
      rw [hv' w0 h0] at h1
      injection h1 with h1 _
      injection h1 with h1
      exact h1.symm
    · rw [hw] at hw'; cases hw'
  · rcases h' with ⟨hw', _⟩ | ⟨_, rfl⟩
    · rw [hw] at hw'; cases hw'
    · rfl

/-- what an effect leaves -/
structure PostE (S : World → Prop) (phi : Nat → Value → World → Prop) (i : Nat) (u : Value) (w w' : World) : Prop where
  s : S w'
  fact : phi i u w'
  keep : ∀ j, j ≠ i → ∀ u', phi j u' w → phi j u' w'

/-- an effect: in every world that meets S -/
def GivesE (P : Program) (S : World → Prop) (V : Nat → Value → Prop) (phi : Nat → Value → World → Prop) (i : Nat) (w : World) (r : Result Next) : Prop :=
  (∃ u w', r = .ok (.value u) w' ∧ V i u ∧ PostE S phi i u w w') ∨ (∃ w', r = .ok .skip w' ∧ V i undef ∧ PostE S phi i undef w w') ∨
  (∃ f args w1, r = .ok (.enter f args) w1 ∧ Calls P f args w1 fun e w' => ∃ u, e = .returned u ∧ V i u ∧ PostE S phi i u w w')
def StepE (P : Program) (ops : Array Oper) (S : World → Prop) (V : Nat → Value → Prop) (phi : Nat → Value → World → Prop) (i : Nat) (o : Oper) (a : Act) : Prop :=
  Region.wanted o (yielded ops a.tmps) = true ∧ ∀ w, S w → GivesE P S V phi i w ((execOp a.eval o).run P w)
theorem StepE.of_same {i : Nat} {o : Oper} {a a' : Act} (hy : StepE P ops S V phi i o a) (he : execOp a'.eval o = execOp a.eval o)
    (hw : Region.wanted o (yielded ops a'.tmps) = Region.wanted o (yielded ops a.tmps)) : StepE P ops S V phi i o a' := by
  unfold StepE at *
  rw [he, hw]
  exact hy
theorem StepE.inh {i : Nat} {o : Oper} {a : Act} {w0 : World} (h0 : S w0) (h : StepE P ops S V phi i o a) : ∃ u, V i u := by
  rcases h.2 w0 h0 with ⟨u, _, _, hv, _⟩ | ⟨_, _, hv, _⟩ | ⟨f, args, w1, _, hc⟩
  · exact ⟨u, hv⟩
  · exact ⟨_, hv⟩
  · obtain ⟨e, w', fr, ⟨u, _, hv, _⟩, _⟩ := hc []
    exact ⟨u, hv⟩
theorem StepE.step {i : Nat} {o : Oper} {a : Act} {K : Act → World → Prop} {w : World} (hi : ops[i]? = some o) (hy : StepE P ops S V phi i o a) (hS : S w)
    (h : ∀ u w', V i u → PostE S phi i u w w' → K (a.put o.dst u) w') : Go.wpOp P ops Q i K a w := by
  unfold Go.wpOp
  simp only [hi]
  rw [if_pos hy.1]
  left
  rcases hy.2 w hS with ⟨u, w', hr, hv, hp⟩ | ⟨w', hr, hv, hp⟩ | ⟨f, args, w', hr, hc⟩
  · simp only [Oper.wp, hr, Oper.upon]
    exact h u w' hv hp
  · simp only [Oper.wp, hr, Oper.upon]
    exact h undef w' hv hp
  · simp only [Oper.wp, hr, Oper.upon]
    refine Calls.mono hc ?_
    rintro e w'' ⟨u, rfl, hv, hp⟩
    exact h u w'' hv hp
theorem ReadIf.step {i : Nat} {o : Oper} {v : Value} {a : Act} {K : Act → World → Prop} {w : World} (hi : ops[i]? = some o) (hy : ReadIf P ops S o v a) (hS : S w)
    (h : K (a.put o.dst v) w) : Go.wpOp P ops Q i K a w := by
  unfold Go.wpOp
  simp only [hi]
  rcases hy with ⟨hw, hv⟩ | ⟨hw, rfl⟩
  · rw [if_pos hw]
    left
    simp only [Oper.wp, hv w hS, Oper.upon]
    exact h
  · rw [if_neg (by simp [hw])]
    exact h

def AllE (P : Program) (md : Region.Mode) (ops : Array Oper) (S : World → Prop) (V : Nat → Value → Prop) (phi : Nat → Value → World → Prop) (eff : Nat → Bool) (R : (World → Prop) → Act → Prop) : Nat → Array Bool → Act → (World → Prop) → Prop
  | 0, listed, a, F => Region.ready md ops listed = [] ∧ R F a
  | fuel + 1, listed, a, F => (Region.ready md ops listed = [] → R F a) ∧
    ∀ i ∈ Region.ready md ops listed, (eff i = true → ∃ o, ops[i]? = some o ∧ StepE P ops S V phi i o a ∧ ∀ u, V i u → AllE P md ops S V phi eff R fuel (listed.setIfInBounds i true) (a.put o.dst u) (fun w => F w ∧ phi i u w)) ∧
      (eff i = false → ∃ oi v, ops[i]? = some oi ∧ ReadIf P ops S oi v a ∧ AllE P md ops S V phi eff R fuel (listed.setIfInBounds i true) (a.put oi.dst v) F)

/-- F is kept by every operation that has not come up -/
def KeptE (phi : Nat → Value → World → Prop) (listed : Array Bool) (F : World → Prop) : Prop :=
  ∀ i, listed.getD i true = false → ∀ w w', (∀ j, j ≠ i → ∀ u', phi j u' w → phi j u' w') → F w → F w'

theorem unset {listed : Array Bool} {i k : Nat} (h : (listed.setIfInBounds i true).getD k true = false) : listed.getD k true = false ∧ k ≠ i := by
  by_cases e : i = k
  · subst e
    by_cases hi : i < listed.size
    · simp [hi] at h
    · simp [hi] at h
  · rw [getD_set_ne true e] at h
    exact ⟨h, fun h' => e h'.symm⟩

theorem AllE.sound (hQ : ∀ F a w, S w → F w → R F a → Q .normal a w) : ∀ (fuel : Nat) (listed : Array Bool) (a : Act) (F : World → Prop) (w : World), KeptE phi listed F → AllE P md ops S V phi eff R fuel listed a F → S w → F w → wpAny P md ops Q fuel listed a w
  | 0, _, _, _, w, _, h, hS, hF => ⟨h.1, hQ _ _ w hS hF h.2⟩
  | fuel + 1, listed, _, F, w, hK, h, hS, hF => ⟨fun h0 => hQ _ _ w hS hF (h.1 h0), fun i hi => by
    have hun := (mem_ready.1 hi).1
    cases he : eff i with
    | true =>
      obtain ⟨o, ho, hk, hr⟩ := (h.2 i hi).1 he
      refine hk.step ho hS fun u w' hv hp => AllE.sound hQ fuel _ _ _ w' ?_ (hr u hv) hp.s ⟨hK i hun w w' hp.keep hF, hp.fact⟩
      intro k hk' w1 w2 hkeep ⟨hF1, hphi⟩
      obtain ⟨h1, h2⟩ := unset hk'
      exact ⟨hK k h1 w1 w2 hkeep hF1, hkeep i (Ne.symm h2) u hphi⟩
    | false =>
      obtain ⟨o, v, ho, hk, hr⟩ := (h.2 i hi).2 he
      exact hk.step ho hS (AllE.sound hQ fuel _ _ _ w (fun k hk' => hK k (unset hk').1) hr hS hF)⟩

theorem AllE.first {i : Nat} {oi : Oper} {w0 : World} (h0 : S w0) (hi : ops[i]? = some oi) (hsel : ∀ (j : Nat) (o : Oper) cs b, ops[j]? = some o → o.op ≠ .select cs b) :
    ∀ (fuel : Nat) (listed : Array Bool) (a : Act) (F : World → Prop),
      (∀ j oj, ops[j]? = some oj → j ≠ i → listed.getD j true = false → (∀ e ∈ oj.after, Region.binds md e = true → e.on ≠ i) → oi.apart ops oj = true) →
      i ∈ Region.ready md ops listed →
      (eff i = true → StepE P ops S V phi i oi a ∧ ∀ u, V i u → AllE P md ops S V phi eff R fuel (listed.setIfInBounds i true) (a.put oi.dst u) (fun w => F w ∧ phi i u w)) →
      (eff i = false → ∃ v, ReadIf P ops S oi v a ∧ AllE P md ops S V phi eff R fuel (listed.setIfInBounds i true) (a.put oi.dst v) F) →
      AllE P md ops S V phi eff R (fuel + 1) listed a F := by
  intro fuel
  induction fuel with
  | zero =>
    intro listed a F _ hr hX hP
    refine ⟨fun h => (by rw [h] at hr; cases hr), fun j hj => ?_⟩
    by_cases hji : j = i
    · subst hji
      refine ⟨fun e => ?_, fun e => ?_⟩
      · obtain ⟨h1, h2⟩ := hX e; exact ⟨oi, hi, h1, h2⟩
      · obtain ⟨v, h1, h2⟩ := hP e; exact ⟨oi, v, hi, h1, h2⟩
    · have hm := ready_mono hj hji
      cases he : eff i with
      | true =>
        obtain ⟨h1, h2⟩ := hX he
        obtain ⟨u, hu⟩ := h1.inh h0
        rw [(h2 u hu).1] at hm
        cases hm
      | false =>
        obtain ⟨v, _, h2⟩ := hP he
        rw [h2.1] at hm
        cases hm
  | succ fuel ih =>
    intro listed a F hfree hr hX hP
    refine ⟨fun h => (by rw [h] at hr; cases hr), fun j hj => ?_⟩
    by_cases hji : j = i
    · subst hji
      refine ⟨fun e => ?_, fun e => ?_⟩
      · obtain ⟨h1, h2⟩ := hX e; exact ⟨oi, hi, h1, h2⟩
      · obtain ⟨v, h1, h2⟩ := hP e; exact ⟨oi, v, hi, h1, h2⟩
    · obtain ⟨hjun, oj, hoj, hall⟩ := mem_ready.1 hj
      have hnot : ∀ e ∈ oj.after, Region.binds md e = true → e.on ≠ i := fun e he hb heq => by
        have h1 := hall e he hb
        have h0 := (mem_ready.1 hr).1
        rw [heq] at h1
        rcases Nat.lt_or_ge i listed.size with h' | h'
        · simp [h'] at h0 h1; rw [h0] at h1; cases h1
        · simp [Array.getElem?_eq_none h'] at h1
      have hap := hfree j oj hoj hji hjun hnot
      obtain ⟨h1, h2, h3⟩ := Oper.apart_spec hap
      have hsi : ∀ cs b, oi.op ≠ .select cs b := fun cs b => hsel i oi cs b hi
      have hsj : ∀ cs b, oj.op ≠ .select cs b := fun cs b => hsel j oj cs b hoj
      have hfree' : ∀ k ok, ops[k]? = some ok → k ≠ i → (listed.setIfInBounds j true).getD k true = false →
          (∀ e ∈ ok.after, Region.binds md e = true → e.on ≠ i) → oi.apart ops ok = true := fun k ok hok hki hun hno => hfree k ok hok hki (unset hun).1 hno
      have hm := ready_mono hj hji
      have hri := ready_mono hr (Ne.symm hji)
      have swapF : ∀ (A B : World → Prop), (fun w => (F w ∧ A w) ∧ B w) = fun w => (F w ∧ B w) ∧ A w := fun A B => by
        funext w
        exact propext ⟨fun ⟨⟨x, y⟩, z⟩ => ⟨⟨x, z⟩, y⟩, fun ⟨⟨x, y⟩, z⟩ => ⟨⟨x, z⟩, y⟩⟩
      refine ⟨fun e => ?_, fun e => ?_⟩
      · -- j is an effect
        refine ⟨oj, hoj, ?_, fun uj huj => ?_⟩
        · cases he : eff i with
          | true =>
            obtain ⟨s1, s2⟩ := hX he
            obtain ⟨u, hu⟩ := s1.inh h0
            obtain ⟨o', ho', hk, _⟩ := ((s2 u hu).2 j hm).1 e
            rw [hoj] at ho'; injection ho' with ho'; subst ho'
            exact hk.of_same (execOp_put oj hsj a oi.dst u h1).symm (wanted_put oj a oi.dst u h1).symm
          | false =>
            obtain ⟨v, _, s2⟩ := hP he
            obtain ⟨o', ho', hk, _⟩ := (s2.2 j hm).1 e
            rw [hoj] at ho'; injection ho' with ho'; subst ho'
            exact hk.of_same (execOp_put oj hsj a oi.dst v h1).symm (wanted_put oj a oi.dst v h1).symm
        · refine ih (listed.setIfInBounds j true) _ _ hfree' hri (fun he => ?_) (fun he => ?_)
          · obtain ⟨s1, s2⟩ := hX he
            refine ⟨s1.of_same (execOp_put oi hsi a oj.dst uj h3) (wanted_put oi a oj.dst uj h3), fun u hu => ?_⟩
            obtain ⟨o', ho', _, hrest⟩ := ((s2 u hu).2 j hm).1 e
            rw [hoj] at ho'; injection ho' with ho'; subst ho'
            rw [Array.setIfInBounds_comm _ _ hji, ← Act.put_comm a u uj h2, swapF]
            exact hrest uj huj
          · obtain ⟨v, s1, s2⟩ := hP he
            refine ⟨v, s1.of_same (execOp_put oi hsi a oj.dst uj h3) (wanted_put oi a oj.dst uj h3), ?_⟩
            obtain ⟨o', ho', _, hrest⟩ := (s2.2 j hm).1 e
            rw [hoj] at ho'; injection ho' with ho'; subst ho'
            rw [Array.setIfInBounds_comm _ _ hji, ← Act.put_comm a v uj h2]
            exact hrest uj huj
      · -- j is a read
        cases he : eff i with
        | true =>
          obtain ⟨s1, s2⟩ := hX he
          obtain ⟨u0, hu0⟩ := s1.inh h0
          obtain ⟨o', vj, ho', hk, _⟩ := ((s2 u0 hu0).2 j hm).2 e
          rw [hoj] at ho'; injection ho' with ho'; subst ho'
          have hka := hk.of_same (execOp_put oj hsj a oi.dst u0 h1).symm (wanted_put oj a oi.dst u0 h1).symm
          refine ⟨oj, vj, hoj, hka, ih (listed.setIfInBounds j true) _ _ hfree' hri (fun _ => ?_) (fun h => by rw [he] at h; cases h)⟩
          refine ⟨s1.of_same (execOp_put oi hsi a oj.dst vj h3) (wanted_put oi a oj.dst vj h3), fun u hu => ?_⟩
          obtain ⟨o', vj', ho', hk', hrest⟩ := ((s2 u hu).2 j hm).2 e
          rw [hoj] at ho'; injection ho' with ho'; subst ho'
          obtain rfl := hka.uniq h0 (hk'.of_same (execOp_put oj hsj a oi.dst u h1).symm (wanted_put oj a oi.dst u h1).symm)
          rw [Array.setIfInBounds_comm _ _ hji, ← Act.put_comm a u vj h2]
          exact hrest
        | false =>
          obtain ⟨v, s1, s2⟩ := hP he
          obtain ⟨o', vj, ho', hk, hrest⟩ := (s2.2 j hm).2 e
          rw [hoj] at ho'; injection ho' with ho'; subst ho'
          refine ⟨oj, vj, hoj, hk.of_same (execOp_put oj hsj a oi.dst v h1).symm (wanted_put oj a oi.dst v h1).symm, ih (listed.setIfInBounds j true) _ _ hfree' hri (fun h => by rw [he] at h; cases h) (fun _ => ?_)⟩
          refine ⟨v, s1.of_same (execOp_put oi hsi a oj.dst vj h3) (wanted_put oi a oj.dst vj h3), ?_⟩
          rw [Array.setIfInBounds_comm _ _ hji, ← Act.put_comm a v vj h2]
          exact hrest

/-- a read is taken first -/
theorem AllE.read {i : Nat} {oi : Oper} {v : Value} {fuel : Nat} {listed : Array Bool} {a : Act} {F : World → Prop} {w0 : World} (h0 : S w0) (hi : ops[i]? = some oi) (he : eff i = false)
    (hs : Region.noSelect ops = true) (hf : Region.free md ops listed i = true) (hr : (Region.ready md ops listed).contains i = true)
    (hw : Region.wanted oi (yielded ops a.tmps) = true) (hy : ∀ w, S w → (execOp a.eval oi).run P w = .ok (.value v) w)
    (h : AllE P md ops S V phi eff R fuel (listed.setIfInBounds i true) (a.put oi.dst v) F) : AllE P md ops S V phi eff R (fuel + 1) listed a F :=
  AllE.first h0 hi (Region.noSelect_spec hs) fuel listed a F (Region.free_spec hi hf) (by simpa using hr) (fun h => by rw [he] at h; cases h) (fun _ => ⟨v, .inl ⟨hw, hy⟩, h⟩)
/-- an effect is taken first -/
theorem AllE.effect {i : Nat} {oi : Oper} {fuel : Nat} {listed : Array Bool} {a : Act} {F : World → Prop} {w0 : World} (h0 : S w0) (hi : ops[i]? = some oi) (he : eff i = true)
    (hs : Region.noSelect ops = true) (hf : Region.free md ops listed i = true) (hr : (Region.ready md ops listed).contains i = true)
    (hw : Region.wanted oi (yielded ops a.tmps) = true) (hy : ∀ w, S w → GivesE P S V phi i w ((execOp a.eval oi).run P w))
    (h : ∀ u, V i u → AllE P md ops S V phi eff R fuel (listed.setIfInBounds i true) (a.put oi.dst u) (fun w => F w ∧ phi i u w)) : AllE P md ops S V phi eff R (fuel + 1) listed a F :=
  AllE.first h0 hi (Region.noSelect_spec hs) fuel listed a F (Region.free_spec hi hf) (by simpa using hr) (fun _ => ⟨⟨hw, hy⟩, h⟩) (fun h => by rw [he] at h; cases h)
theorem AllE.done {listed : Array Bool} {a : Act} {F : World → Prop} (hr : Region.ready md ops listed = []) (h : R F a) : ∀ fuel, AllE P md ops S V phi eff R fuel listed a F
  | 0 => ⟨hr, h⟩
  | _ + 1 => ⟨fun _ => h, by rw [hr]; simp⟩
theorem region_E {id : Nat} {a : Act} {w : World} (hm : P.follows .mixedOrders = true) (S : World → Prop) (V : Nat → Value → Prop) (phi : Nat → Value → World → Prop) (eff : Nat → Bool) (h0 : S w.drew)
    (h : ∀ R : (World → Prop) → Act → Prop, Hid (∀ F a', (∀ w', S w' → F w' → Q .normal a' w') → R F a') → AllE P .any ops S V phi eff R ops.size (Array.replicate ops.size false) a (fun _ => True)) : (Code.region id ops true).wp P Q a w :=
  wp_region_any hm (AllE.sound (R := fun F a' => ∀ w', S w' → F w' → Q .normal a' w') (fun _ _ w' hS hF hR => hR w' hS hF) _ _ _ (fun _ => True) _ (fun _ _ _ _ _ _ => trivial) (h _ (Lib.hid fun _ _ h => h)) h0 trivial)
end
end Go.Proofs.YtgpobhnonjdamaaDoor

/- Contract of arena.Styles. Conditions: the pointer leads to a tree of at most 1000 nodes; bits are 16-bit numbers. -/
namespace Go.Proofs.YtgpobhnonjdamaaDoor
open Go.ChangeShapes Go.WideShapes Go.ChangeAt Go.RowKit

theorem infoDc : (Tryd.prog.info? 33).map (fun i => (i.zero, i.size, i.bytes)) = some (some (.agg Dcl.zero.cells), 10, 56) := by kernel_rfl
theorem mkD (n : Nat) (hn : n ≤ 1000) (w : World) :
    (Instr.makeSlice 81 (.int .i64 (n : Int)) (.int .i64 (n : Int))).run Tryd.prog w = .ok (.slice (some ⟨w.heap.size, 0, none⟩) n n) (w.alloc (.cells (madeCells Dcl.zero.cells (n * 10)) 33)) := by
  obtain ⟨i0, hi, hz0, hz1, hz2⟩ := info_agg infoDc
  have := run_make_aggs (P := Tryd.prog) 81 33 i0 (.agg Dcl.zero.cells) Tryd.underlying81 hi hz0 .i64 .i64 n n (Nat.le_refl _) (by rw [hz2]; omega) (by omega) w
  rw [hz1] at this
  exact this
theorem strs_madeD (w : World) (n : Nat) : Strs (w.alloc (.cells (madeCells Dcl.zero.cells (n * 10)) 33)) w.heap.size 33 10 ((List.replicate n Dcl.zero).map Dcl.cells) := by
  refine ⟨_, Blk.new _ _ _, by simp [size_madeCells], fun i x hi => ?_⟩
  rw [List.getElem?_map] at hi
  have hin : i < n := by
    cases h : (List.replicate n Dcl.zero)[i]? with
    | none => rw [h] at hi; cases hi
    | some y => have := (List.getElem?_eq_some_iff.1 h).1; simpa using this
  rw [List.getElem?_eq_getElem (by simpa using hin), List.getElem_replicate] at hi
  injection hi with hi
  subst hi
  refine ⟨rfl, fun j v hv => ?_⟩
  have hj : j < 10 := (Array.getElem?_eq_some_iff.1 hv).1
  rw [made_get _ 10 n i j rfl hin hj]
  exact hv
theorem run_op_make {P : Program} {o : Oper} {a : Act} {w w' : World} {v : Value} {ty : TypeId} (x y : Operand) {n c : Value} (h1 : o.op = .makeSlice ty x y) (h2 : a.eval x = n) (h3 : a.eval y = c) (h : (Instr.makeSlice ty n c).run P w = .ok v w') :
    (execOp a.eval o).run P w = .ok (.value v) w' := by
  unfold execOp
  simp only [h1, h2, h3, Sem.run_bind, h, Sem.run_pure, Result.andThen_ok]

/-! ### what the region of the two makes leaves -/
def styV (n : Nat) (i : Nat) (u : Value) : Prop := match i with
  | 1 => u = .int .i64 (n : Int)
  | 4 => u = .int .i64 (n : Int)
  | _ => True
def styP (b n : Nat) (i : Nat) (u : Value) (w : World) : Prop := match i with
  | 2 => ∃ g, u = .slice (some ⟨g, 0, none⟩) n n ∧ b ≤ g ∧ Blk w g 3 (rowF n fun _ => 0)
  | 5 => ∃ g, u = .slice (some ⟨g, 0, none⟩) n n ∧ b ≤ g ∧ Strs w g 33 10 ((List.replicate n Dcl.zero).map Dcl.cells)
  | _ => True
theorem styP_below (b n : Nat) (w w' : World) (h : Below w.heap.size w w') (j : Nat) (u : Value) (hp : styP b n j u w) : styP b n j u w' := by
  unfold styP at hp ⊢
  split at hp
  · obtain ⟨g, h1, h2, h3⟩ := hp
    exact ⟨g, h1, h2, h3.keep (S := fun _ => False) (Mod.of_below h) id⟩
  · obtain ⟨g, h1, h2, h3⟩ := hp
    exact ⟨g, h1, h2, h3.below h⟩
  · trivial

/-! ### rows that are filled from the front -/
def fil {α : Type} (xs : List α) (z : α) (k : Nat) : List α := xs.take k ++ List.replicate (xs.length - k) z
theorem fil_len {α : Type} (xs : List α) (z : α) {k : Nat} (h : k ≤ xs.length) : (fil xs z k).length = xs.length := by
  unfold fil
  rw [List.length_append, List.length_take, List.length_replicate]
  omega
theorem fil_set {α : Type} (xs : List α) (z : α) {k : Nat} {x : α} (h : xs[k]? = some x) : (fil xs z k).set k x = fil xs z (k + 1) := by
  have hk : k < xs.length := (List.getElem?_eq_some_iff.1 h).1
  unfold fil
  rw [List.set_append_right _ _ (by rw [List.length_take]; omega), List.length_take, show k - min k xs.length = 0 by omega, show xs.length - k = (xs.length - (k + 1)) + 1 by omega, List.replicate_succ, List.set_cons_zero, List.take_add_one, h]
  simp
theorem set_same_list {α : Type} {xs : List α} {k : Nat} {x : α} (h : xs[k]? = some x) : xs.set k x = xs := by
  apply List.ext_getElem?
  intro j
  by_cases e : k = j
  · subst e
    rw [List.getElem?_set_self (List.getElem?_eq_some_iff.1 h).1, h]
  · rw [List.getElem?_set_ne e]
theorem fil_at {α : Type} (xs : List α) (z : α) {k : Nat} {x : α} (h : xs[k]? = some x) : (fil xs z (k + 1))[k]? = some x := by
  have hk : k < xs.length := (List.getElem?_eq_some_iff.1 h).1
  unfold fil
  rw [List.getElem?_append_left (by rw [List.length_take]; omega), List.getElem?_take_of_lt (by omega), h]
theorem fil_all {α : Type} (xs : List α) (z : α) : fil xs z xs.length = xs := by simp [fil]
theorem fil_none {α : Type} (xs : List α) (z : α) : fil xs z 0 = List.replicate xs.length z := by simp [fil]
def cellsZ (xs : List Int) : Array Value := (xs.map (Value.int .i64)).toArray
theorem cellsZ_set (xs : List Int) (k : Nat) (z : Int) : (cellsZ xs).setIfInBounds k (.int .i64 z) = cellsZ (xs.set k z) := by
  unfold cellsZ
  rw [List.setIfInBounds_toArray, List.map_set]
theorem cellsZ_get {xs : List Int} {k : Nat} (h : k < xs.length) : ∃ z, (cellsZ xs)[k]? = some (.int .i64 z) := by
  unfold cellsZ
  exact ⟨xs[k], by simp [h]⟩
theorem rowF_fil (n : Nat) (xs : List Int) (h : xs.length = n) : rowF n (fun _ => 0) = cellsZ (fil xs 0 0) := by
  rw [fil_none, h]
  apply Array.ext_getElem?
  intro j
  unfold cellsZ
  by_cases hj : j < n
  · rw [rowF_get hj]
    simp [hj, iv]
  · rw [Array.getElem?_eq_none_iff.2 (by rw [rowF_size]; omega), Array.getElem?_eq_none_iff.2 (by simp; omega)]
theorem Strs.ds {w : World} {g n c : Nat} {l : List Dcl} (h : Strs w g 33 10 (l.map Dcl.cells)) (hn : l.length = n) : Ds w (.slice (some ⟨g, 0, none⟩) n c) l := by
  have h2 : RowN 10 _ w (.slice (some ⟨g, 0, none⟩) n c) ((l.map Dcl.cells).map Array.toList) := h.row (by rw [List.length_map]; exact hn)
  rw [List.map_map] at h2
  exact RowN.mono (T := fun _ => False) h2 fun _ _ h => h.elim
/-- the region of the two stores: the fact that each leaves -/
def sto (gp gd : Nat) (cs : Array Value) (ds : List Dcl) (i : Nat) (_u : Value) (W : World) : Prop := match i with
  | 9 => Blk W gp 3 cs
  | 11 => Strs W gd 33 10 (ds.map Dcl.cells)
  | _ => True
structure StoS (w5 : World) (gp gd : Nat) (cs cs' : Array Value) (ds ds' : List Dcl) (W : World) : Prop where
  mod : Mod (fun j => j = gp ∨ j = gd) w5 W
  p : Blk W gp 3 cs ∨ Blk W gp 3 cs'
  d : Strs W gd 33 10 (ds.map Dcl.cells) ∨ Strs W gd 33 10 (ds'.map Dcl.cells)
theorem StoS.p_at {w5 W : World} {gp gd k : Nat} {xs : List Int} {ds ds' : List Dcl} {z : Int} (h : StoS w5 gp gd (cellsZ xs) (cellsZ (xs.set k z)) ds ds' W) (hk : k < xs.length) : (∃ y, W.cell? ⟨gp, k, none⟩ = some (.int .i64 y)) ∧ W.frozen? ⟨gp, k, none⟩ = false := by
  rcases h.p with h | h
  · obtain ⟨y, hy⟩ := cellsZ_get hk
    exact ⟨⟨y, (h.cell k).trans hy⟩, h.frozen k⟩
  · obtain ⟨y, hy⟩ := cellsZ_get (xs := xs.set k z) (k := k) (by rw [List.length_set]; exact hk)
    exact ⟨⟨y, (h.cell k).trans hy⟩, h.frozen k⟩
theorem StoS.set_p {w5 W : World} {gp gd k : Nat} {xs : List Int} {ds ds' : List Dcl} {z : Int} (h : StoS w5 gp gd (cellsZ xs) (cellsZ (xs.set k z)) ds ds' W) (hne : gp ≠ gd) :
    PostE (StoS w5 gp gd (cellsZ xs) (cellsZ (xs.set k z)) ds ds') (sto gp gd (cellsZ (xs.set k z)) ds') 9 undef W (W.setCell ⟨gp, k, none⟩ (.int .i64 z)) := by
  have m : Mod (fun j => j = gp) W (W.setCell ⟨gp, k, none⟩ (.int .i64 z)) := Mod.setCell (S := fun j => j = gp) (Mod.refl _ _) (.inl rfl) _
  have hb : Blk (W.setCell ⟨gp, k, none⟩ (.int .i64 z)) gp 3 (cellsZ (xs.set k z)) := by
    rcases h.p with h | h
    · have := h.set_ k (.int .i64 z)
      rwa [cellsZ_set] at this
    · have := h.set_ k (.int .i64 z)
      rwa [cellsZ_set, List.set_set] at this
  refine ⟨⟨h.mod.trans (m.mono fun j hj => .inl (.inl hj)), .inr hb, ?_⟩, hb, fun j hj u' hf => ?_⟩
  · rcases h.d with h | h
    · exact .inl (h.keep m (Ne.symm hne))
    · exact .inr (h.keep m (Ne.symm hne))
  · unfold sto at hf ⊢
    split at hf
    · exact absurd rfl hj
    · exact hf.keep m (Ne.symm hne)
    · trivial
theorem StoS.set_d {w5 W : World} {gp gd k : Nat} {cs cs' : Array Value} {ds : List Dcl} {d : Dcl} (h : StoS w5 gp gd cs cs' ds (ds.set k d) W) (hne : gp ≠ gd) (hk : k < ds.length)
    {o : Oper} {a : Act} (x y : Operand) (ho : o.op = .store 33 x y) (hx : a.eval x = .pointer (some ⟨gd, k * 10, none⟩)) (hy : a.eval y = .agg d.cells) :
    ∃ W', (execOp a.eval o).run Tryd.prog W = .ok .skip W' ∧ PostE (StoS w5 gp gd cs cs' ds (ds.set k d)) (sto gp gd cs' (ds.set k d)) 11 undef W W' := by
  obtain ⟨cur, hB, hsz, hat, hnew⟩ : ∃ cur, Blk W gd 33 cur ∧ cur.size = ds.length * 10 ∧ k * 10 + d.cells.size ≤ cur.size ∧ ∀ W', Blk W' gd 33 (spl cur (k * 10) d.cells.toList) → Strs W' gd 33 10 ((ds.set k d).map Dcl.cells) := by
    rcases h.d with h | h
    · obtain ⟨cur, hB, hsz, hat⟩ := h
      rw [List.length_map] at hsz
      refine ⟨cur, hB, hsz, by rw [hsz]; exact row_le (k := 10) hk, fun W' hW => ?_⟩
      have := Strs.set_ (l := ds.map Dcl.cells) (by rw [List.length_map]; exact hsz) hat (i := k) (by rw [List.length_map]; exact hk) (x := d.cells) rfl hW
      rwa [← List.map_set] at this
    · obtain ⟨cur, hB, hsz, hat⟩ := h
      rw [List.length_map, List.length_set] at hsz
      refine ⟨cur, hB, hsz, by rw [hsz]; exact row_le (k := 10) hk, fun W' hW => ?_⟩
      have := Strs.set_ (l := (ds.set k d).map Dcl.cells) (by rw [List.length_map, List.length_set]; exact hsz) hat (i := k) (by rw [List.length_map, List.length_set]; exact hk) (x := d.cells) rfl hW
      rwa [← List.map_set, List.set_set] at this
  have hi : (Tryd.prog.info? 33).map (·.size) = some d.cells.size := by kernel_rfl
  have hrun := run_op_store 33 x y ho gd (k * 10) hx d.cells hy 33 cur hB hi hat (by kernel_rfl)
  have m := mod_setRow W gd (spl cur (k * 10) d.cells.toList)
  have B := setRow_heap W gd cur (spl cur (k * 10) d.cells.toList) 33 (0, 0) hB
  have hs := hnew _ B
  refine ⟨_, hrun, ⟨h.mod.trans (m.mono fun j hj => .inl (.inr hj)), ?_, .inr hs⟩, hs, fun j hj u' hf => ?_⟩
  · rcases h.p with h | h
    · exact .inl (h.keep m hne)
    · exact .inr (h.keep m hne)
  · unfold sto at hf ⊢
    split at hf
    · exact hf.keep m hne
    · exact absurd rfl hj
    · trivial

theorem StoS.set_dG {w5 W : World} {gp gd k : Nat} {cs cs' : Array Value} {ds : List Dcl} {d : Dcl} (h : StoS w5 gp gd cs cs' ds (ds.set k d) W) (hne : gp ≠ gd) (hk : k < ds.length)
    {o : Oper} {a : Act} (x y : Operand) (ho : o.op = .store 33 x y) (hx : a.eval x = .pointer (some ⟨gd, k * 10, none⟩)) (hy : a.eval y = .agg d.cells) :
    GivesE Tryd.prog (StoS w5 gp gd cs cs' ds (ds.set k d)) (fun _ _ => True) (sto gp gd cs' (ds.set k d)) 11 W ((execOp a.eval o).run Tryd.prog W) := by
  obtain ⟨W', hrun, hpost⟩ := h.set_d hne hk x y ho hx hy
  exact .inr (.inl ⟨W', hrun, trivial, hpost⟩)

set_option maxRecDepth 100000 in
set_option maxHeartbeats 8000000 in
theorem asty_any (v : Value) (l : List Nod) (base : Sty) (w : World) (hTr : Tr w v l) (hpos : 0 < l.length) (hlen : l.length ≤ 1000) (h16 : Wf16 (l.map Nod.d)) :
    Calls Tryd.prog 23 #[v, .agg base.cells] w (StyPost w base (psOf l) (l.map Nod.d)) := by
  have LN0 : Hid (∀ W, Below w.heap.size w W → Calls Tryd.prog 31 #[v] W fun e w' => e = .returned (.int .i64 (l.length : Int)) ∧ W = w') := Lib.hid fun W b => alen_any v _ W (hTr.len.below b)
  obtain ⟨g, gn, ge, cn, ce, rfl, hTA⟩ := hTr
  obtain ⟨n, hl⟩ : ∃ n, l.length = n := ⟨_, rfl⟩
  have HL := Lib.hid hl
  have HTA := Lib.hid hTA
  have H16 := Lib.hid h16
  have LN : Hid (∀ W, Below w.heap.size w W → Calls Tryd.prog 31 #[.pointer (some ⟨g, 0, none⟩)] W fun e w' => e = .returned (.int .i64 (n : Int)) ∧ W = w') := Lib.hid fun W b => by
    have := LN0.out W b
    rwa [hl] at this
  rw [hl] at hpos hlen
  have hn0 : n ≤ 1000 := hlen
  have hn1 : n ≤ 1048576 := by omega
  have h0 : ((n : Int) == 0) = false := by simp; omega
  have PH := Lib.hid (styP_below)
  clear hTA h16 hl LN0 hlen
  go_enter Tryd.func23, Tryd.ntmps23
  go_wp2_with (refine bxSV rfl (.tmp 1) rfl base rfl ?_; intro w1 b1 B1)
  refine (LN.out _ b1).mono ?_
  rintro e w2 ⟨rfl, rfl⟩
  go_wp2_with fail
  refine region_E (by kernel_rfl) (fun W => Below w1.heap.size w1 W) (styV n) (styP w1.heap.size n) (fun i => i == 1 || i == 2 || i == 4 || i == 5) (below_drewN (Below.refl _ _) 1) (fun R hR => ?_)
  refine AllE.read (i := 0) (v := ?_) (below_drewN (Below.refl w1.heap.size w1) 1) (by rw [List.getElem?_toArray]; rfl) (by rfl) (by kernel_rfl) (by kernel_rfl) (by kernel_rfl) (by rfl) ?_ ?_
  rotate_left
  · intro W hSw
    (try dsimp only at hSw)
    go_simp
    (try with_reducible rfl)
  rotate_left
  (try simp only [Act.put, List.setIfInBounds_toArray, List.set_cons_zero, List.set_cons_succ])
  refine AllE.effect (i := 1) (below_drewN (Below.refl w1.heap.size w1) 1) (by rw [List.getElem?_toArray]; rfl) (by rfl) (by kernel_rfl) (by kernel_rfl) (by kernel_rfl) (by rfl) (fun W hSw => ?_) ?_
  · (try dsimp only at hSw)
    refine .inr (.inr ⟨31, #[.pointer (some ⟨g, 0, none⟩)], W, by go_simp, (LN.out W (below_seq b1 hSw)).mono ?_⟩)
    rintro e w' ⟨rfl, rfl⟩
    exact ⟨_, rfl, rfl, hSw, trivial, fun _ _ _ h => h⟩
  rintro _ rfl
  (try simp only [Act.put, List.setIfInBounds_toArray, List.set_cons_zero, List.set_cons_succ])
  refine AllE.effect (i := 2) (below_drewN (Below.refl w1.heap.size w1) 1) (by rw [List.getElem?_toArray]; rfl) (by rfl) (by kernel_rfl) (by kernel_rfl) (by kernel_rfl) (by rfl) (fun W hSw => ?_) ?_
  · (try dsimp only at hSw)
    refine .inl ⟨_, _, run_op_make (.tmp 14) (.tmp 14) rfl rfl rfl (make_ints n hn1 W), trivial, below_seq hSw (below_alloc W _), ⟨_, rfl, hSw.size, by have := Blk.new W 3 (rowF n fun _ => 0); exact this⟩, fun j hj u' h => ?_⟩
    exact PH.out _ _ _ _ (below_alloc W _) j u' h
  rintro u1 -
  (try simp only [Act.put, List.setIfInBounds_toArray, List.set_cons_zero, List.set_cons_succ])
  refine AllE.read (i := 3) (v := ?_) (below_drewN (Below.refl w1.heap.size w1) 1) (by rw [List.getElem?_toArray]; rfl) (by rfl) (by kernel_rfl) (by kernel_rfl) (by kernel_rfl) (by rfl) ?_ ?_
  rotate_left
  · intro W hSw
    (try dsimp only at hSw)
    go_simp
    (try with_reducible rfl)
  rotate_left
  (try simp only [Act.put, List.setIfInBounds_toArray, List.set_cons_zero, List.set_cons_succ])
  refine AllE.effect (i := 4) (below_drewN (Below.refl w1.heap.size w1) 1) (by rw [List.getElem?_toArray]; rfl) (by rfl) (by kernel_rfl) (by kernel_rfl) (by kernel_rfl) (by rfl) (fun W hSw => ?_) ?_
  · (try dsimp only at hSw)
    refine .inr (.inr ⟨31, #[.pointer (some ⟨g, 0, none⟩)], W, by go_simp, (LN.out W (below_seq b1 hSw)).mono ?_⟩)
    rintro e w' ⟨rfl, rfl⟩
    exact ⟨_, rfl, rfl, hSw, trivial, fun _ _ _ h => h⟩
  rintro _ rfl
  (try simp only [Act.put, List.setIfInBounds_toArray, List.set_cons_zero, List.set_cons_succ])
  refine AllE.effect (i := 5) (below_drewN (Below.refl w1.heap.size w1) 1) (by rw [List.getElem?_toArray]; rfl) (by rfl) (by kernel_rfl) (by kernel_rfl) (by kernel_rfl) (by rfl) (fun W hSw => ?_) ?_
  · (try dsimp only at hSw)
    refine .inl ⟨_, _, run_op_make (.tmp 17) (.tmp 17) rfl rfl rfl (mkD n hn0 W), trivial, below_seq hSw (below_alloc W _), ⟨_, rfl, hSw.size, strs_madeD W n⟩, fun j hj u' h => ?_⟩
    exact PH.out _ _ _ _ (below_alloc W _) j u' h
  rintro u2 -
  (try simp only [Act.put, List.setIfInBounds_toArray, List.set_cons_zero, List.set_cons_succ])
  refine AllE.read (i := 6) (v := ?_) (below_drewN (Below.refl w1.heap.size w1) 1) (by rw [List.getElem?_toArray]; rfl) (by rfl) (by kernel_rfl) (by kernel_rfl) (by kernel_rfl) (by rfl) ?_ ?_
  rotate_left
  · intro W hSw
    (try dsimp only at hSw)
    go_simp
    (try with_reducible rfl)
  rotate_left
  (try simp only [Act.put, List.setIfInBounds_toArray, List.set_cons_zero, List.set_cons_succ])
  refine AllE.read (i := 7) (v := ?_) (below_drewN (Below.refl w1.heap.size w1) 1) (by rw [List.getElem?_toArray]; rfl) (by rfl) (by kernel_rfl) (by kernel_rfl) (by kernel_rfl) (by rfl) ?_ ?_
  rotate_left
  · intro W hSw
    (try dsimp only at hSw)
    go_simp
    (try with_reducible rfl)
  rotate_left
  (try simp only [Act.put, List.setIfInBounds_toArray, List.set_cons_zero, List.set_cons_succ])
  refine AllE.done (by kernel_rfl) (hR.out _ _ ?_) _
  clear hR R
  intro w3 b3 ⟨⟨⟨⟨_, _⟩, ⟨gp, hu1, hgp, hBp⟩⟩, _⟩, ⟨gd, hu2, hgd, hSd⟩⟩
  subst hu1 hu2
  have hne : gp ≠ gd := fun e => by
    subst e
    obtain ⟨cur, hB, _⟩ := hSd
    have h1 : w3.heap[gp]? = _ := hBp
    rw [show w3.heap[gp]? = _ from hB] at h1
    injection h1 with h1
    injection h1 with _ h1 _
    exact absurd h1 (by decide)
  have hpl : (psOf l).length = n := by rw [psOf_len]; exact HL.out
  have hdl : (l.map Nod.d).length = n := by rw [List.length_map]; exact HL.out
  rw [rowF_fil n (psOf l) hpl] at hBp
  rw [show List.replicate n Dcl.zero = fil (l.map Nod.d) .zero 0 by rw [fil_none, hdl]] at hSd
  have b13 := below_seq b1 b3
  have hTA3 := HTA.out.below b13
  have c3 := hTA3.c0
  rw [HL.out] at c3
  have HPL := Lib.hid hpl
  have HDL := Lib.hid hdl
  have HBP := Lib.hid hBp
  have HSD := Lib.hid hSd
  have s1 := b1.size
  have s3 := b3.size
  have q1 := hTA3.hgn
  have q2 := HTA.out.hgn
  have hlp := hBp.lt
  have hld := hSd.lt
  clear hTA3 hpl hdl hBp hSd PH
  go_wp2_with fail
  have L3 := HTA.out.below b13
  have HL3 := Lib.hid L3
  have B13 := B1.keep (S := fun _ => False) (Mod.of_below b3) id
  have HB1 := Lib.hid B13
  have hl1 := B1.lt
  clear L3 B13 B1
  go_loopg [24] n (fun kx s24 wr => ∃ k : Nat, s24 = .int .i64 k ∧ k ≤ n ∧ kx = n - k ∧ Mod (fun j => j = gp ∨ j = gd) w3 wr ∧ Blk wr gp 3 (cellsZ (fil (psOf l) 0 k)) ∧ Strs wr gd 33 10 ((fil (l.map Nod.d) .zero k).map Dcl.cells))
  case atStart => exact ⟨0, rfl, by omega, rfl, Mod.refl _ _, HBP.out, HSD.out⟩
  case round =>
    obtain ⟨k, rfl, hk, rfl, hm, hBp, hSd⟩ := hrel
    clear HBP HSD
    have hms := hm.size
    by_cases hlt : k < n
    · have hz : (k : Int) < n := by omega
      have hkl : k < l.length := by rw [HL.out]; exact hlt
      obtain ⟨x, hx⟩ := at_of hkl
      have hLi : Lies wr ⟨gn, k * 22, none⟩ x.cells := lies_keep (HL3.out.hn k x hx) (hm.block gn (by omega) (by omega))
      have hpk : (psOf l)[k]? = some x.p := by unfold psOf; rw [List.getElem?_map, hx]; rfl
      have hdk : (l.map Nod.d)[k]? = some x.d := by rw [List.getElem?_map, hx]; rfl
      have hSP := fil_set (psOf l) 0 hpk
      have hSD := fil_set (l.map Nod.d) .zero hdk
      have hlp : k < (fil (psOf l) 0 k).length := by rw [fil_len _ _ (by rw [HPL.out]; omega), HPL.out]; exact hlt
      have hld : k < (fil (l.map Nod.d) .zero k).length := by rw [fil_len _ _ (by rw [HDL.out]; omega), HDL.out]; exact hlt
      obtain ⟨X, hX⟩ : ∃ X, fil (psOf l) 0 k = X := ⟨_, rfl⟩
      obtain ⟨D, hD⟩ : ∃ D, fil (l.map Nod.d) .zero k = D := ⟨_, rfl⟩
      rw [hX] at hBp hSP hlp
      rw [hD] at hSd hSD hld
      have HBP := Lib.hid hBp
      have HSD := Lib.hid hSd
      have HSP2 := Lib.hid hSP
      have HSD2 := Lib.hid hSD
      have HLP : Hid (k < X.length) := Lib.hid hlp
      have HLD : Hid (k < D.length) := Lib.hid hld
      clear hx hkl hpk hdk hSP hSD hlp hld hX hD hBp hSd
      go_wp2_with (first
        | (refine ldN rfl (.tmp 27) rfl _ rfl x hLi ?_)
        | (refine alNV rfl rfl ?_; intro w6 b6 B6)
        | (refine stN rfl (.tmp 9) (.tmp 28) rfl rfl wr.heap.size rfl x rfl .zero B6 ?_; intro w5 m5 B5))
      have b5 : Below wr.heap.size wr w5 := b6.trans (m5.below b6.size (fun k hk => by omega))
      have S0 : StoS w5 gp gd (cellsZ X) (cellsZ (X.set k x.p)) D (D.set k x.d) w5.drew := ⟨(Mod.refl _ _).drew, .inl (HBP.out.keep (S := fun _ => False) (Mod.of_below (below_drewN b5 1)) id), .inl (HSD.out.keep (S := fun _ => False) (Mod.of_below (below_drewN b5 1)) id)⟩
      have CP : Hid (∀ W, StoS w5 gp gd (cellsZ X) (cellsZ (X.set k x.p)) D (D.set k x.d) W → Blk W wr.heap.size 37 x.cells) := Lib.hid fun W h => B5.keep h.mod (by omega)
      have m35 : Mod (fun j => j = gp ∨ j = gd) w3 w5 := hm.trans (Mod.of_below b5)
      have c1 : Hid (∀ W, StoS w5 gp gd (cellsZ X) (cellsZ (X.set k x.p)) D (D.set k x.d) W → W.cell? ⟨wr.heap.size, 1, none⟩ = some (.int .i64 x.p)) := Lib.hid fun W h => (CP.out W h).cell 1
      have HS0 := Lib.hid S0
      clear B5 B6 m5 b6 hLi HBP HSD
      go_wp2_with fail
      refine region_E (by kernel_rfl) (StoS w5 gp gd (cellsZ X) (cellsZ (X.set k x.p)) D (D.set k x.d)) (fun _ _ => True) (sto gp gd (cellsZ (X.set k x.p)) (D.set k x.d)) (fun i => i == 9 || i == 11) HS0.out (fun R hR => ?_)
      refine AllE.read (i := 0) (v := ?_) HS0.out (by rw [List.getElem?_toArray]; rfl) (by rfl) (by kernel_rfl) (by kernel_rfl) (by kernel_rfl) (by rfl) ?_ ?_
      rotate_left
      · intro W hSw
        (try dsimp only at hSw)
        go_simp
        (try with_reducible rfl)
      rotate_left
      (try simp only [Act.put, List.setIfInBounds_toArray, List.set_cons_zero, List.set_cons_succ])
      refine AllE.read (i := 1) (v := ?_) HS0.out (by rw [List.getElem?_toArray]; rfl) (by rfl) (by kernel_rfl) (by kernel_rfl) (by kernel_rfl) (by rfl) ?_ ?_
      rotate_left
      · intro W hSw
        (try dsimp only at hSw)
        go_simp
        (try with_reducible rfl)
      rotate_left
      (try simp only [Act.put, List.setIfInBounds_toArray, List.set_cons_zero, List.set_cons_succ])
      refine AllE.read (i := 2) (v := ?_) HS0.out (by rw [List.getElem?_toArray]; rfl) (by rfl) (by kernel_rfl) (by kernel_rfl) (by kernel_rfl) (by rfl) ?_ ?_
      rotate_left
      · intro W hSw
        (try dsimp only at hSw)
        go_simp
        (try with_reducible rfl)
      rotate_left
      (try simp only [Act.put, List.setIfInBounds_toArray, List.set_cons_zero, List.set_cons_succ])
      refine AllE.read (i := 3) (v := ?_) HS0.out (by rw [List.getElem?_toArray]; rfl) (by rfl) (by kernel_rfl) (by kernel_rfl) (by kernel_rfl) (by rfl) ?_ ?_
      rotate_left
      · intro W hSw
        (try dsimp only at hSw)
        go_simp
        (try with_reducible rfl)
      rotate_left
      (try simp only [Act.put, List.setIfInBounds_toArray, List.set_cons_zero, List.set_cons_succ])
      refine AllE.read (i := 4) (v := ?_) HS0.out (by rw [List.getElem?_toArray]; rfl) (by rfl) (by kernel_rfl) (by kernel_rfl) (by kernel_rfl) (by rfl) ?_ ?_
      rotate_left
      · intro W hSw
        (try dsimp only at hSw)
        go_simp
        (try with_reducible rfl)
      rotate_left
      (try simp only [Act.put, List.setIfInBounds_toArray, List.set_cons_zero, List.set_cons_succ])
      refine AllE.read (i := 5) (v := ?_) HS0.out (by rw [List.getElem?_toArray]; rfl) (by rfl) (by kernel_rfl) (by kernel_rfl) (by kernel_rfl) (by rfl) ?_ ?_
      rotate_left
      · intro W hSw
        (try dsimp only at hSw)
        have hq := c1.out W hSw
        go_simp
        (try with_reducible rfl)
      rotate_left
      (try simp only [Act.put, List.setIfInBounds_toArray, List.set_cons_zero, List.set_cons_succ])
      refine AllE.read (i := 6) (v := ?_) HS0.out (by rw [List.getElem?_toArray]; rfl) (by rfl) (by kernel_rfl) (by kernel_rfl) (by kernel_rfl) (by rfl) ?_ ?_
      rotate_left
      · intro W hSw
        (try dsimp only at hSw)
        go_simp
        (try with_reducible rfl)
      rotate_left
      (try simp only [Act.put, List.setIfInBounds_toArray, List.set_cons_zero, List.set_cons_succ])
      refine AllE.read (i := 7) (v := .agg x.d.cells) HS0.out (by rw [List.getElem?_toArray]; rfl) (by rfl) (by kernel_rfl) (by kernel_rfl) (by kernel_rfl) (by rfl) (fun W hSw => ?_) ?_
      · (try dsimp only at hSw)
        exact rdD (.tmp 35) rfl _ rfl x.d ((CP.out W hSw).lies.d)
      (try simp only [Act.put, List.setIfInBounds_toArray, List.set_cons_zero, List.set_cons_succ])
      refine AllE.read (i := 8) (v := ?_) HS0.out (by rw [List.getElem?_toArray]; rfl) (by rfl) (by kernel_rfl) (by kernel_rfl) (by kernel_rfl) (by rfl) ?_ ?_
      rotate_left
      · intro W hSw
        (try dsimp only at hSw)
        go_simp
        (try with_reducible rfl)
      rotate_left
      (try simp only [Act.put, List.setIfInBounds_toArray, List.set_cons_zero, List.set_cons_succ])
      refine AllE.effect (i := 9) HS0.out (by rw [List.getElem?_toArray]; rfl) (by rfl) (by kernel_rfl) (by kernel_rfl) (by kernel_rfl) (by rfl) (fun W hSw => ?_) ?_
      · (try dsimp only at hSw)
        obtain ⟨⟨y, hq⟩, hfz⟩ := hSw.p_at HLP.out
        exact .inr (.inl ⟨W.setCell ⟨gp, k, none⟩ (.int .i64 x.p), by go_simp, trivial, hSw.set_p hne⟩)
      rintro _ -
      (try simp only [Act.put])
      refine AllE.read (i := 10) (v := ?_) HS0.out (by rw [List.getElem?_toArray]; rfl) (by rfl) (by kernel_rfl) (by kernel_rfl) (by kernel_rfl) (by rfl) ?_ ?_
      rotate_left
      · intro W hSw
        (try dsimp only at hSw)
        go_simp
        (try with_reducible rfl)
      rotate_left
      (try simp only [Act.put, List.setIfInBounds_toArray, List.set_cons_zero, List.set_cons_succ])
      refine AllE.effect (i := 11) HS0.out (by rw [List.getElem?_toArray]; rfl) (by rfl) (by kernel_rfl) (by kernel_rfl) (by kernel_rfl) (by rfl) (fun W hSw => ?_) ?_
      · (try dsimp only at hSw)
        exact hSw.set_dG hne HLD.out (.tmp 38) (.tmp 36) rfl rfl rfl
      rintro _ -
      (try simp only [Act.put])
      refine AllE.done (by kernel_rfl) (hR.out _ _ ?_) _
      clear hR R
      intro w7 ⟨hm7, _, _⟩ ⟨⟨_, hp7⟩, hd7⟩
      go_wp2_with fail
      go_roundg (n - (k + 1))
      case measure => omega
      case rel =>
        refine ⟨k + 1, by go_num, by omega, rfl, m35.trans hm7, ?_, ?_⟩
        · rw [← HSP2.out]; exact hp7
        · rw [← HSD2.out]; exact hd7
    · obtain rfl : k = n := by omega
      have hrow : Row (fun _ => False) wr (.slice (some ⟨gp, 0, none⟩) k k) ((psOf l).map (Value.int .i64)) := by
        have h := fil_all (psOf l) (0 : Int)
        rw [HPL.out] at h
        rw [h] at hBp
        exact Blk.row hBp rfl (by rw [List.length_map]; exact HPL.out)
      have hds : Ds wr (.slice (some ⟨gd, 0, none⟩) k k) (l.map Nod.d) := by
        have h := fil_all (l.map Nod.d) Dcl.zero
        rw [HDL.out] at h
        rw [h] at hSd
        exact hSd.ds HDL.out
      have hB1 := HB1.out.keep hm (by omega)
      have CS := Lib.hid (ystyles_any base _ _ (psOf l) (l.map Nod.d) wr hrow hds H16.out (by rw [HPL.out]; omega) (by rw [HDL.out]; omega))
      have b0r : Below w.heap.size w wr := b13.trans (hm.below (by omega) (fun j hj => by omega))
      clear hrow hds hBp hSd HB1
      go_wp2_with (refine ldS rfl (.tmp 3) rfl _ rfl base hB1.lies ?_)
      refine CS.out.mono ?_
      rintro e w8 ⟨v8, z8, l8, rfl, hres, hss, b8⟩
      go_wp2_with fail
      go_ret2
      exact ⟨v8, z8, l8, rfl, hres, hss, below_seq b0r b8⟩
end Go.Proofs.YtgpobhnonjdamaaDoor
