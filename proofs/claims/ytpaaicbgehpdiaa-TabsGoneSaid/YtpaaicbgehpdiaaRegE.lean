/- A region that draws its order, of reads (each yields one value in every world that meets a condition S) and of EFFECTS: operations that change the world or make memory (stores, makes, calls), each of which establishes a fact of its own (phi) that all others keep. One order stands for all; behind the region all facts hold. For any layer. No walk. -/
import Derived.Test.YtpaaicbgehpdiaaRegT
namespace Go.Proofs.Ytpaaicbgehpdiaa
open Go.ChangeShapes Go.WideShapes Go.ChangeAt Go.RowKit

section
variable {P : Program} {ops : Array Oper} {Q : Exit → Act → World → Prop} {md : Region.Mode} {S : World → Prop} {V : Nat → Value → Prop} {phi : Nat → Value → World → Prop} {R : (World → Prop) → Act → Prop} {eff : Nat → Bool}

/-- a read: one value, in every world that meets S; or not wanted -/
def ReadIf (P : Program) (ops : Array Oper) (S : World → Prop) (o : Oper) (v : Value) (a : Act) : Prop :=
  (Region.wanted o (yielded ops a.tmps) = true ∧ ∀ w, S w → (execOp a.eval o).run P w = .ok (.value v) w) ∨
  (Region.wanted o (yielded ops a.tmps) = false ∧ v = undef)
theorem ReadIf.of_same {o : Oper} {v : Value} {a a' : Act} (hy : ReadIf P ops S o v a) (he : execOp a'.eval o = execOp a.eval o)
    (hw : Region.wanted o (yielded ops a'.tmps) = Region.wanted o (yielded ops a.tmps)) : ReadIf P ops S o v a' := by
  unfold ReadIf at *
  rw [he, hw]
  exact hy
theorem ReadIf.uniq {o : Oper} {v v' : Value} {a : Act} {w0 : World} (h0 : S w0) (h : ReadIf P ops S o v a) (h' : ReadIf P ops S o v' a) : v = v' := by
  rcases h with ⟨hw, hv⟩ | ⟨hw, rfl⟩
  · rcases h' with ⟨_, hv'⟩ | ⟨hw', _⟩
    · have h1 := hv w0 h0
      rw [hv' w0 h0] at h1
      injection h1 with h1 _
      injection h1 with h1
      exact h1.symm
    · rw [hw] at hw'; cases hw'
  · rcases h' with ⟨hw', _⟩ | ⟨_, rfl⟩
    · rw [hw] at hw'; cases hw'
    · rfl

/-- what an effect leaves -/
structure PostE (S : World → Prop) (phi : Nat → Value → World → Prop) (i : Nat) (u : Value) (w w' : World) : Prop where
  s : S w'
  fact : phi i u w'
  keep : ∀ j, j ≠ i → ∀ u', phi j u' w → phi j u' w'

/-- an effect: in every world that meets S -/
def GivesE (P : Program) (S : World → Prop) (V : Nat → Value → Prop) (phi : Nat → Value → World → Prop) (i : Nat) (w : World) (r : Result Next) : Prop :=
  (∃ u w', r = .ok (.value u) w' ∧ V i u ∧ PostE S phi i u w w') ∨ (∃ w', r = .ok .skip w' ∧ V i undef ∧ PostE S phi i undef w w') ∨
  (∃ f args w1, r = .ok (.enter f args) w1 ∧ Calls P f args w1 fun e w' => ∃ u, e = .returned u ∧ V i u ∧ PostE S phi i u w w')
def StepE (P : Program) (ops : Array Oper) (S : World → Prop) (V : Nat → Value → Prop) (phi : Nat → Value → World → Prop) (i : Nat) (o : Oper) (a : Act) : Prop :=
  Region.wanted o (yielded ops a.tmps) = true ∧ ∀ w, S w → GivesE P S V phi i w ((execOp a.eval o).run P w)
theorem StepE.of_same {i : Nat} {o : Oper} {a a' : Act} (hy : StepE P ops S V phi i o a) (he : execOp a'.eval o = execOp a.eval o)
    (hw : Region.wanted o (yielded ops a'.tmps) = Region.wanted o (yielded ops a.tmps)) : StepE P ops S V phi i o a' := by
  unfold StepE at *
  rw [he, hw]
  exact hy
theorem StepE.inh {i : Nat} {o : Oper} {a : Act} {w0 : World} (h0 : S w0) (h : StepE P ops S V phi i o a) : ∃ u, V i u := by
  rcases h.2 w0 h0 with ⟨u, _, _, hv, _⟩ | ⟨_, _, hv, _⟩ | ⟨f, args, w1, _, hc⟩
  · exact ⟨u, hv⟩
  · exact ⟨_, hv⟩
  · obtain ⟨e, w', fr, ⟨u, _, hv, _⟩, _⟩ := hc []
    exact ⟨u, hv⟩
theorem StepE.step {i : Nat} {o : Oper} {a : Act} {K : Act → World → Prop} {w : World} (hi : ops[i]? = some o) (hy : StepE P ops S V phi i o a) (hS : S w)
    (h : ∀ u w', V i u → PostE S phi i u w w' → K (a.put o.dst u) w') : Go.wpOp P ops Q i K a w := by
  unfold Go.wpOp
  simp only [hi]
  rw [if_pos hy.1]
  left
  rcases hy.2 w hS with ⟨u, w', hr, hv, hp⟩ | ⟨w', hr, hv, hp⟩ | ⟨f, args, w', hr, hc⟩
  · simp only [Oper.wp, hr, Oper.upon]
    exact h u w' hv hp
  · simp only [Oper.wp, hr, Oper.upon]
    exact h undef w' hv hp
  · simp only [Oper.wp, hr, Oper.upon]
    refine Calls.mono hc ?_
    rintro e w'' ⟨u, rfl, hv, hp⟩
    exact h u w'' hv hp
theorem ReadIf.step {i : Nat} {o : Oper} {v : Value} {a : Act} {K : Act → World → Prop} {w : World} (hi : ops[i]? = some o) (hy : ReadIf P ops S o v a) (hS : S w)
    (h : K (a.put o.dst v) w) : Go.wpOp P ops Q i K a w := by
  unfold Go.wpOp
  simp only [hi]
  rcases hy with ⟨hw, hv⟩ | ⟨hw, rfl⟩
  · rw [if_pos hw]
    left
    simp only [Oper.wp, hv w hS, Oper.upon]
    exact h
  · rw [if_neg (by simp [hw])]
    exact h

def AllE (P : Program) (md : Region.Mode) (ops : Array Oper) (S : World → Prop) (V : Nat → Value → Prop) (phi : Nat → Value → World → Prop) (eff : Nat → Bool) (R : (World → Prop) → Act → Prop) : Nat → Array Bool → Act → (World → Prop) → Prop
  | 0, listed, a, F => Region.ready md ops listed = [] ∧ R F a
  | fuel + 1, listed, a, F => (Region.ready md ops listed = [] → R F a) ∧
    ∀ i ∈ Region.ready md ops listed, (eff i = true → ∃ o, ops[i]? = some o ∧ StepE P ops S V phi i o a ∧ ∀ u, V i u → AllE P md ops S V phi eff R fuel (listed.setIfInBounds i true) (a.put o.dst u) (fun w => F w ∧ phi i u w)) ∧
      (eff i = false → ∃ oi v, ops[i]? = some oi ∧ ReadIf P ops S oi v a ∧ AllE P md ops S V phi eff R fuel (listed.setIfInBounds i true) (a.put oi.dst v) F)

/-- F is kept by every operation that has not come up -/
def KeptE (phi : Nat → Value → World → Prop) (listed : Array Bool) (F : World → Prop) : Prop :=
  ∀ i, listed.getD i true = false → ∀ w w', (∀ j, j ≠ i → ∀ u', phi j u' w → phi j u' w') → F w → F w'

theorem unset {listed : Array Bool} {i k : Nat} (h : (listed.setIfInBounds i true).getD k true = false) : listed.getD k true = false ∧ k ≠ i := by
  by_cases e : i = k
  · subst e
    by_cases hi : i < listed.size
    · simp [hi] at h
    · simp [hi] at h
  · rw [getD_set_ne true e] at h
    exact ⟨h, fun h' => e h'.symm⟩

theorem AllE.sound (hQ : ∀ F a w, S w → F w → R F a → Q .normal a w) : ∀ (fuel : Nat) (listed : Array Bool) (a : Act) (F : World → Prop) (w : World), KeptE phi listed F → AllE P md ops S V phi eff R fuel listed a F → S w → F w → wpAny P md ops Q fuel listed a w
  | 0, _, _, _, w, _, h, hS, hF => ⟨h.1, hQ _ _ w hS hF h.2⟩
  | fuel + 1, listed, _, F, w, hK, h, hS, hF => ⟨fun h0 => hQ _ _ w hS hF (h.1 h0), fun i hi => by
    have hun := (mem_ready.1 hi).1
    cases he : eff i with
    | true =>
      obtain ⟨o, ho, hk, hr⟩ := (h.2 i hi).1 he
      refine hk.step ho hS fun u w' hv hp => AllE.sound hQ fuel _ _ _ w' ?_ (hr u hv) hp.s ⟨hK i hun w w' hp.keep hF, hp.fact⟩
      intro k hk' w1 w2 hkeep ⟨hF1, hphi⟩
      obtain ⟨h1, h2⟩ := unset hk'
      exact ⟨hK k h1 w1 w2 hkeep hF1, hkeep i (Ne.symm h2) u hphi⟩
    | false =>
      obtain ⟨o, v, ho, hk, hr⟩ := (h.2 i hi).2 he
      exact hk.step ho hS (AllE.sound hQ fuel _ _ _ w (fun k hk' => hK k (unset hk').1) hr hS hF)⟩

theorem AllE.first {i : Nat} {oi : Oper} {w0 : World} (h0 : S w0) (hi : ops[i]? = some oi) (hsel : ∀ (j : Nat) (o : Oper) cs b, ops[j]? = some o → o.op ≠ .select cs b) :
    ∀ (fuel : Nat) (listed : Array Bool) (a : Act) (F : World → Prop),
      (∀ j oj, ops[j]? = some oj → j ≠ i → listed.getD j true = false → (∀ e ∈ oj.after, Region.binds md e = true → e.on ≠ i) → oi.apart ops oj = true) →
      i ∈ Region.ready md ops listed →
      (eff i = true → StepE P ops S V phi i oi a ∧ ∀ u, V i u → AllE P md ops S V phi eff R fuel (listed.setIfInBounds i true) (a.put oi.dst u) (fun w => F w ∧ phi i u w)) →
      (eff i = false → ∃ v, ReadIf P ops S oi v a ∧ AllE P md ops S V phi eff R fuel (listed.setIfInBounds i true) (a.put oi.dst v) F) →
      AllE P md ops S V phi eff R (fuel + 1) listed a F := by
  intro fuel
  induction fuel with
  | zero =>
    intro listed a F _ hr hX hP
    refine ⟨fun h => (by rw [h] at hr; cases hr), fun j hj => ?_⟩
    by_cases hji : j = i
    · subst hji
      refine ⟨fun e => ?_, fun e => ?_⟩
      · obtain ⟨h1, h2⟩ := hX e; exact ⟨oi, hi, h1, h2⟩
      · obtain ⟨v, h1, h2⟩ := hP e; exact ⟨oi, v, hi, h1, h2⟩
    · have hm := ready_mono hj hji
      cases he : eff i with
      | true =>
        obtain ⟨h1, h2⟩ := hX he
        obtain ⟨u, hu⟩ := h1.inh h0
        rw [(h2 u hu).1] at hm
        cases hm
      | false =>
        obtain ⟨v, _, h2⟩ := hP he
        rw [h2.1] at hm
        cases hm
  | succ fuel ih =>
    intro listed a F hfree hr hX hP
    refine ⟨fun h => (by rw [h] at hr; cases hr), fun j hj => ?_⟩
    by_cases hji : j = i
    · subst hji
      refine ⟨fun e => ?_, fun e => ?_⟩
      · obtain ⟨h1, h2⟩ := hX e; exact ⟨oi, hi, h1, h2⟩
      · obtain ⟨v, h1, h2⟩ := hP e; exact ⟨oi, v, hi, h1, h2⟩
    · obtain ⟨hjun, oj, hoj, hall⟩ := mem_ready.1 hj
      have hnot : ∀ e ∈ oj.after, Region.binds md e = true → e.on ≠ i := fun e he hb heq => by
        have h1 := hall e he hb
        have h0 := (mem_ready.1 hr).1
        rw [heq] at h1
        rcases Nat.lt_or_ge i listed.size with h' | h'
        · simp [h'] at h0 h1; rw [h0] at h1; cases h1
        · simp [Array.getElem?_eq_none h'] at h1
      have hap := hfree j oj hoj hji hjun hnot
      obtain ⟨h1, h2, h3⟩ := Oper.apart_spec hap
      have hsi : ∀ cs b, oi.op ≠ .select cs b := fun cs b => hsel i oi cs b hi
      have hsj : ∀ cs b, oj.op ≠ .select cs b := fun cs b => hsel j oj cs b hoj
      have hfree' : ∀ k ok, ops[k]? = some ok → k ≠ i → (listed.setIfInBounds j true).getD k true = false →
          (∀ e ∈ ok.after, Region.binds md e = true → e.on ≠ i) → oi.apart ops ok = true := fun k ok hok hki hun hno => hfree k ok hok hki (unset hun).1 hno
      have hm := ready_mono hj hji
      have hri := ready_mono hr (Ne.symm hji)
      have swapF : ∀ (A B : World → Prop), (fun w => (F w ∧ A w) ∧ B w) = fun w => (F w ∧ B w) ∧ A w := fun A B => by
        funext w
        exact propext ⟨fun ⟨⟨x, y⟩, z⟩ => ⟨⟨x, z⟩, y⟩, fun ⟨⟨x, y⟩, z⟩ => ⟨⟨x, z⟩, y⟩⟩
      refine ⟨fun e => ?_, fun e => ?_⟩
      · -- j is an effect
        refine ⟨oj, hoj, ?_, fun uj huj => ?_⟩
        · cases he : eff i with
          | true =>
            obtain ⟨s1, s2⟩ := hX he
            obtain ⟨u, hu⟩ := s1.inh h0
            obtain ⟨o', ho', hk, _⟩ := ((s2 u hu).2 j hm).1 e
            rw [hoj] at ho'; injection ho' with ho'; subst ho'
            exact hk.of_same (execOp_put oj hsj a oi.dst u h1).symm (wanted_put oj a oi.dst u h1).symm
          | false =>
            obtain ⟨v, _, s2⟩ := hP he
            obtain ⟨o', ho', hk, _⟩ := (s2.2 j hm).1 e
            rw [hoj] at ho'; injection ho' with ho'; subst ho'
            exact hk.of_same (execOp_put oj hsj a oi.dst v h1).symm (wanted_put oj a oi.dst v h1).symm
        · refine ih (listed.setIfInBounds j true) _ _ hfree' hri (fun he => ?_) (fun he => ?_)
          · obtain ⟨s1, s2⟩ := hX he
            refine ⟨s1.of_same (execOp_put oi hsi a oj.dst uj h3) (wanted_put oi a oj.dst uj h3), fun u hu => ?_⟩
            obtain ⟨o', ho', _, hrest⟩ := ((s2 u hu).2 j hm).1 e
            rw [hoj] at ho'; injection ho' with ho'; subst ho'
            rw [Array.setIfInBounds_comm _ _ hji, ← Act.put_comm a u uj h2, swapF]
            exact hrest uj huj
          · obtain ⟨v, s1, s2⟩ := hP he
            refine ⟨v, s1.of_same (execOp_put oi hsi a oj.dst uj h3) (wanted_put oi a oj.dst uj h3), ?_⟩
            obtain ⟨o', ho', _, hrest⟩ := (s2.2 j hm).1 e
            rw [hoj] at ho'; injection ho' with ho'; subst ho'
            rw [Array.setIfInBounds_comm _ _ hji, ← Act.put_comm a v uj h2]
            exact hrest uj huj
      · -- j is a read
        cases he : eff i with
        | true =>
          obtain ⟨s1, s2⟩ := hX he
          obtain ⟨u0, hu0⟩ := s1.inh h0
          obtain ⟨o', vj, ho', hk, _⟩ := ((s2 u0 hu0).2 j hm).2 e
          rw [hoj] at ho'; injection ho' with ho'; subst ho'
          have hka := hk.of_same (execOp_put oj hsj a oi.dst u0 h1).symm (wanted_put oj a oi.dst u0 h1).symm
          refine ⟨oj, vj, hoj, hka, ih (listed.setIfInBounds j true) _ _ hfree' hri (fun _ => ?_) (fun h => by rw [he] at h; cases h)⟩
          refine ⟨s1.of_same (execOp_put oi hsi a oj.dst vj h3) (wanted_put oi a oj.dst vj h3), fun u hu => ?_⟩
          obtain ⟨o', vj', ho', hk', hrest⟩ := ((s2 u hu).2 j hm).2 e
          rw [hoj] at ho'; injection ho' with ho'; subst ho'
          obtain rfl := hka.uniq h0 (hk'.of_same (execOp_put oj hsj a oi.dst u h1).symm (wanted_put oj a oi.dst u h1).symm)
          rw [Array.setIfInBounds_comm _ _ hji, ← Act.put_comm a u vj h2]
          exact hrest
        | false =>
          obtain ⟨v, s1, s2⟩ := hP he
          obtain ⟨o', vj, ho', hk, hrest⟩ := (s2.2 j hm).2 e
          rw [hoj] at ho'; injection ho' with ho'; subst ho'
          refine ⟨oj, vj, hoj, hk.of_same (execOp_put oj hsj a oi.dst v h1).symm (wanted_put oj a oi.dst v h1).symm, ih (listed.setIfInBounds j true) _ _ hfree' hri (fun h => by rw [he] at h; cases h) (fun _ => ?_)⟩
          refine ⟨v, s1.of_same (execOp_put oi hsi a oj.dst vj h3) (wanted_put oi a oj.dst vj h3), ?_⟩
          rw [Array.setIfInBounds_comm _ _ hji, ← Act.put_comm a v vj h2]
          exact hrest

/-- a read is taken first -/
theorem AllE.read {i : Nat} {oi : Oper} {v : Value} {fuel : Nat} {listed : Array Bool} {a : Act} {F : World → Prop} {w0 : World} (h0 : S w0) (hi : ops[i]? = some oi) (he : eff i = false)
    (hs : Region.noSelect ops = true) (hf : Region.free md ops listed i = true) (hr : (Region.ready md ops listed).contains i = true)
    (hw : Region.wanted oi (yielded ops a.tmps) = true) (hy : ∀ w, S w → (execOp a.eval oi).run P w = .ok (.value v) w)
    (h : AllE P md ops S V phi eff R fuel (listed.setIfInBounds i true) (a.put oi.dst v) F) : AllE P md ops S V phi eff R (fuel + 1) listed a F :=
  AllE.first h0 hi (Region.noSelect_spec hs) fuel listed a F (Region.free_spec hi hf) (by simpa using hr) (fun h => by rw [he] at h; cases h) (fun _ => ⟨v, .inl ⟨hw, hy⟩, h⟩)
/-- an effect is taken first -/
theorem AllE.effect {i : Nat} {oi : Oper} {fuel : Nat} {listed : Array Bool} {a : Act} {F : World → Prop} {w0 : World} (h0 : S w0) (hi : ops[i]? = some oi) (he : eff i = true)
    (hs : Region.noSelect ops = true) (hf : Region.free md ops listed i = true) (hr : (Region.ready md ops listed).contains i = true)
    (hw : Region.wanted oi (yielded ops a.tmps) = true) (hy : ∀ w, S w → GivesE P S V phi i w ((execOp a.eval oi).run P w))
    (h : ∀ u, V i u → AllE P md ops S V phi eff R fuel (listed.setIfInBounds i true) (a.put oi.dst u) (fun w => F w ∧ phi i u w)) : AllE P md ops S V phi eff R (fuel + 1) listed a F :=
  AllE.first h0 hi (Region.noSelect_spec hs) fuel listed a F (Region.free_spec hi hf) (by simpa using hr) (fun _ => ⟨⟨hw, hy⟩, h⟩) (fun h => by rw [he] at h; cases h)
theorem AllE.done {listed : Array Bool} {a : Act} {F : World → Prop} (hr : Region.ready md ops listed = []) (h : R F a) : ∀ fuel, AllE P md ops S V phi eff R fuel listed a F
  | 0 => ⟨hr, h⟩
  | _ + 1 => ⟨fun _ => h, by rw [hr]; simp⟩
theorem region_E {id : Nat} {a : Act} {w : World} (hm : P.follows .mixedOrders = true) (S : World → Prop) (V : Nat → Value → Prop) (phi : Nat → Value → World → Prop) (eff : Nat → Bool) (h0 : S w.drew)
    (h : ∀ R : (World → Prop) → Act → Prop, Hid (∀ F a', (∀ w', S w' → F w' → Q .normal a' w') → R F a') → AllE P .any ops S V phi eff R ops.size (Array.replicate ops.size false) a (fun _ => True)) : (Code.region id ops true).wp P Q a w :=
  wp_region_any hm (AllE.sound (R := fun F a' => ∀ w', S w' → F w' → Q .normal a' w') (fun _ _ w' hS hF hR => hR w' hS hF) _ _ _ (fun _ => True) _ (fun _ _ _ _ _ _ => trivial) (h _ (Lib.hid fun _ _ h => h)) h0 trivial)
end
end Go.Proofs.Ytpaaicbgehpdiaa
