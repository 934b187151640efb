/- A region that draws its order, of reads (each yields one value in every world that meets S) and of a CHAIN of effects: operations that change the world or make memory (literals, appends, stores, calls), of which each waits for the one ahead of it. One order stands for all; what holds of the world (F) may be another thing behind each effect. For any layer. No walk. -/
import Derived.Test.YtpaaicbgehpdiaaRegE
import Derived.Test.YtpaaicbgehpdiaaRegK
import Derived.Test.YtpaaicbgehpdiaaRegQ
namespace Go.Proofs.Ytpaaicbgehpdiaa
open Go.ChangeShapes Go.WideShapes Go.ChangeAt Go.RowKit

section
variable {P : Program} {ops : Array Oper} {Q : Exit → Act → World → Prop} {md : Region.Mode} {S : World → Prop} {R : (World → Prop) → Act → Prop} {eff : Nat → Bool}

def GivesC (P : Program) (S : World → Prop) (V : Value → Prop) (F' : Value → World → Prop) (r : Result Next) : Prop :=
  (∃ u w', r = .ok (.value u) w' ∧ V u ∧ S w' ∧ F' u w') ∨ (∃ w', r = .ok .skip w' ∧ V undef ∧ S w' ∧ F' undef w') ∨
  (∃ f args w1, r = .ok (.enter f args) w1 ∧ Calls P f args w1 fun e w' => ∃ u, e = .returned u ∧ V u ∧ S w' ∧ F' u w')
def StepC (P : Program) (ops : Array Oper) (S F : World → Prop) (V : Value → Prop) (F' : Value → World → Prop) (o : Oper) (a : Act) : Prop :=
  Region.wanted o (yielded ops a.tmps) = true ∧ ∀ w, S w → F w → GivesC P S V F' ((execOp a.eval o).run P w)
theorem StepC.of_same {F : World → Prop} {V : Value → Prop} {F' : Value → World → Prop} {o : Oper} {a a' : Act} (hy : StepC P ops S F V F' o a) (he : execOp a'.eval o = execOp a.eval o)
    (hw : Region.wanted o (yielded ops a'.tmps) = Region.wanted o (yielded ops a.tmps)) : StepC P ops S F V F' o a' := by
  unfold StepC at *
  rw [he, hw]
  exact hy
theorem StepC.inh {F : World → Prop} {V : Value → Prop} {F' : Value → World → Prop} {o : Oper} {a : Act} {w0 : World} (h0 : S w0) (hF : F w0) (h : StepC P ops S F V F' o a) : ∃ u w', V u ∧ S w' ∧ F' u w' := by
  rcases h.2 w0 h0 hF with ⟨u, w', _, hv⟩ | ⟨w', _, hv⟩ | ⟨f, args, w1, _, hc⟩
  · exact ⟨u, w', hv⟩
  · exact ⟨_, w', hv⟩
  · obtain ⟨e, w', fr, ⟨u, _, hv⟩, _⟩ := hc []
    exact ⟨u, w', hv⟩
theorem StepC.step {F : World → Prop} {V : Value → Prop} {F' : Value → World → Prop} {i : Nat} {o : Oper} {a : Act} {K : Act → World → Prop} {w : World} (hi : ops[i]? = some o) (hy : StepC P ops S F V F' o a) (hS : S w) (hF : F w)
    (h : ∀ u w', V u → S w' → F' u w' → K (a.put o.dst u) w') : Go.wpOp P ops Q i K a w := by
  unfold Go.wpOp
  simp only [hi]
  rw [if_pos hy.1]
  left
  rcases hy.2 w hS hF with ⟨u, w', hr, hv, hs, hp⟩ | ⟨w', hr, hv, hs, hp⟩ | ⟨f, args, w', hr, hc⟩
  · simp only [Oper.wp, hr, Oper.upon]
    exact h u w' hv hs hp
  · simp only [Oper.wp, hr, Oper.upon]
    exact h undef w' hv hs hp
  · simp only [Oper.wp, hr, Oper.upon]
    refine Calls.mono hc ?_
    rintro e w'' ⟨u, rfl, hv, hs, hp⟩
    exact h u w'' hv hs hp

/-- what has come up has all that it waits for come up -/
def Closed (md : Region.Mode) (ops : Array Oper) (listed : Array Bool) : Prop := ∀ k o, ops[k]? = some o → listed.getD k true = true → ∀ e ∈ o.after, Region.binds md e = true → listed.getD e.on false = true
theorem Closed.none_ (n : Nat) (hn : ops.size = n) : Closed md ops (Array.replicate n false) := fun k o ho hl => by
  have hk := (Array.getElem?_eq_some_iff.1 ho).1
  simp [show k < n by omega] at hl
theorem Closed.set_ {listed : Array Bool} (h : Closed md ops listed) {i : Nat} (hi : i ∈ Region.ready md ops listed) : Closed md ops (listed.setIfInBounds i true) := fun k o ho hl e he hb => by
  obtain ⟨h1, o', ho', hall⟩ := mem_ready.1 hi
  have key : listed.getD e.on false = true := by
    by_cases hk : k = i
    · subst hk
      rw [ho] at ho'; injection ho' with ho'; subst ho'
      exact hall e he hb
    · rw [getD_set_ne true (Ne.symm hk)] at hl
      exact h k o ho hl e he hb
  by_cases hon : i = e.on
  · subst hon
    exfalso
    by_cases hs : e.on < listed.size
    · simp [hs] at key h1
      rw [h1] at key; cases key
    · simp [hs] at key
  · rw [getD_set_ne false hon]
    exact key

def AllC (P : Program) (md : Region.Mode) (ops : Array Oper) (S : World → Prop) (eff : Nat → Bool) (R : (World → Prop) → Act → Prop) : Nat → Array Bool → Act → (World → Prop) → Prop
  | 0, listed, a, F => (∃ w, S w ∧ F w) → Closed md ops listed → Region.ready md ops listed = [] ∧ R F a
  | fuel + 1, listed, a, F => (∃ w, S w ∧ F w) → Closed md ops listed → (Region.ready md ops listed = [] → R F a) ∧
    ∀ i ∈ Region.ready md ops listed, (eff i = true → ∃ o V F', ops[i]? = some o ∧ StepC P ops S F V F' o a ∧ ∀ u, V u → AllC P md ops S eff R fuel (listed.setIfInBounds i true) (a.put o.dst u) (F' u)) ∧
      (eff i = false → ∃ oi v, ops[i]? = some oi ∧ ReadIf P ops S oi v a ∧ AllC P md ops S eff R fuel (listed.setIfInBounds i true) (a.put oi.dst v) F)

theorem AllC.sound (hQ : ∀ F a w, S w → F w → R F a → Q .normal a w) : ∀ (fuel : Nat) (listed : Array Bool) (a : Act) (F : World → Prop) (w : World), Closed md ops listed → AllC P md ops S eff R fuel listed a F → S w → F w → wpAny P md ops Q fuel listed a w
  | 0, _, _, _, w, hc, h, hS, hF => ⟨(h ⟨w, hS, hF⟩ hc).1, hQ _ _ w hS hF (h ⟨w, hS, hF⟩ hc).2⟩
  | fuel + 1, listed, _, F, w, hc, h, hS, hF => ⟨fun h0 => hQ _ _ w hS hF ((h ⟨w, hS, hF⟩ hc).1 h0), fun i hi => by
    cases he : eff i with
    | true =>
      obtain ⟨o, V, F', ho, hk, hr⟩ := ((h ⟨w, hS, hF⟩ hc).2 i hi).1 he
      exact hk.step ho hS hF fun u w' hv hs hp => AllC.sound hQ fuel _ _ _ w' (hc.set_ hi) (hr u hv) hs hp
    | false =>
      obtain ⟨o, v, ho, hk, hr⟩ := ((h ⟨w, hS, hF⟩ hc).2 i hi).2 he
      exact hk.step ho hS (AllC.sound hQ fuel _ _ _ w (hc.set_ hi) hr hS hF)⟩

/-- no two effects can come up at once -/
def Chain (md : Region.Mode) (ops : Array Oper) (eff : Nat → Bool) : Prop := ∀ (listed : Array Bool) i j, Closed md ops listed → eff i = true → eff j = true → i ∈ Region.ready md ops listed → j ∈ Region.ready md ops listed → j = i

theorem AllC.first (hch : Chain md ops eff) {i : Nat} {oi : Oper} (hi : ops[i]? = some oi) (hsel : ∀ (j : Nat) (o : Oper) cs b, ops[j]? = some o → o.op ≠ .select cs b) :
    ∀ (fuel : Nat) (listed : Array Bool) (a : Act) (F : World → Prop),
      (∀ j oj, ops[j]? = some oj → j ≠ i → listed.getD j true = false → (∀ e ∈ oj.after, Region.binds md e = true → e.on ≠ i) → oi.apart ops oj = true) →
      i ∈ Region.ready md ops listed →
      (eff i = true → ∃ V F', StepC P ops S F V F' oi a ∧ ∀ u, V u → AllC P md ops S eff R fuel (listed.setIfInBounds i true) (a.put oi.dst u) (F' u)) →
      (eff i = false → ∃ v, ReadIf P ops S oi v a ∧ AllC P md ops S eff R fuel (listed.setIfInBounds i true) (a.put oi.dst v) F) →
      AllC P md ops S eff R (fuel + 1) listed a F := by
  intro fuel
  induction fuel with
  | zero =>
    intro listed a F _ hr hX hP hin hcl
    obtain ⟨w0, h0, hF0⟩ := hin
    refine ⟨fun h => (by rw [h] at hr; cases hr), fun j hj => ?_⟩
    by_cases hji : j = i
    · subst hji
      refine ⟨fun e => ?_, fun e => ?_⟩
      · obtain ⟨V, F', h1, h2⟩ := hX e; exact ⟨oi, V, F', hi, h1, h2⟩
      · obtain ⟨v, h1, h2⟩ := hP e; exact ⟨oi, v, hi, h1, h2⟩
    · have hm := ready_mono hj hji
      cases he : eff i with
      | true =>
        obtain ⟨V, F', h1, h2⟩ := hX he
        obtain ⟨u, w', hu, hs, hf⟩ := h1.inh h0 hF0
        rw [(h2 u hu ⟨w', hs, hf⟩ (hcl.set_ hr)).1] at hm
        cases hm
      | false =>
        obtain ⟨v, _, h2⟩ := hP he
        rw [(h2 ⟨w0, h0, hF0⟩ (hcl.set_ hr)).1] at hm
        cases hm
  | succ fuel ih =>
    intro listed a F hfree hr hX hP hin hcl
    obtain ⟨w0, h0, hF0⟩ := hin
    refine ⟨fun h => (by rw [h] at hr; cases hr), fun j hj => ?_⟩
    by_cases hji : j = i
    · subst hji
      refine ⟨fun e => ?_, fun e => ?_⟩
      · obtain ⟨V, F', h1, h2⟩ := hX e; exact ⟨oi, V, F', hi, h1, h2⟩
      · obtain ⟨v, h1, h2⟩ := hP e; exact ⟨oi, v, hi, h1, h2⟩
    · obtain ⟨hjun, oj, hoj, hall⟩ := mem_ready.1 hj
      have hnot : ∀ e ∈ oj.after, Region.binds md e = true → e.on ≠ i := fun e he hb heq => by
        have h1 := hall e he hb
        have h0 := (mem_ready.1 hr).1
        rw [heq] at h1
        rcases Nat.lt_or_ge i listed.size with h' | h'
        · simp [h'] at h0 h1; rw [h0] at h1; cases h1
        · simp [Array.getElem?_eq_none h'] at h1
      have hap := hfree j oj hoj hji hjun hnot
      obtain ⟨h1, h2, h3⟩ := Oper.apart_spec hap
      have hsi : ∀ cs b, oi.op ≠ .select cs b := fun cs b => hsel i oi cs b hi
      have hsj : ∀ cs b, oj.op ≠ .select cs b := fun cs b => hsel j oj cs b hoj
      have hfree' : ∀ k ok, ops[k]? = some ok → k ≠ i → (listed.setIfInBounds j true).getD k true = false →
          (∀ e ∈ ok.after, Region.binds md e = true → e.on ≠ i) → oi.apart ops ok = true := fun k ok hok hki hun hno => hfree k ok hok hki (unset hun).1 hno
      have hm := ready_mono hj hji
      have hri := ready_mono hr (Ne.symm hji)
      refine ⟨fun e => ?_, fun e => ?_⟩
      · -- j is an effect: then i is a read
        cases he : eff i with
        | true => exact absurd (hch listed i j hcl he e hr hj) hji
        | false =>
          obtain ⟨v, s1, s2⟩ := hP he
          obtain ⟨o', V, F', ho', hk, hrest⟩ := ((s2 ⟨w0, h0, hF0⟩ (hcl.set_ hr)).2 j hm).1 e
          rw [hoj] at ho'; injection ho' with ho'; subst ho'
          refine ⟨oj, V, F', hoj, hk.of_same (execOp_put oj hsj a oi.dst v h1).symm (wanted_put oj a oi.dst v h1).symm, fun uj huj => ?_⟩
          refine ih (listed.setIfInBounds j true) _ _ hfree' hri (fun h => by rw [he] at h; cases h) (fun _ => ?_)
          refine ⟨v, s1.of_same (execOp_put oi hsi a oj.dst uj h3) (wanted_put oi a oj.dst uj h3), ?_⟩
          rw [Array.setIfInBounds_comm _ _ hji, ← Act.put_comm a v uj h2]
          exact hrest uj huj
      · -- j is a read
        cases he : eff i with
        | true =>
          obtain ⟨V, F', s1, s2⟩ := hX he
          obtain ⟨u0, w1, hu0, hs1, hf1⟩ := s1.inh h0 hF0
          obtain ⟨o', vj, ho', hk, _⟩ := ((s2 u0 hu0 ⟨w1, hs1, hf1⟩ (hcl.set_ hr)).2 j hm).2 e
          rw [hoj] at ho'; injection ho' with ho'; subst ho'
          have hka := hk.of_same (execOp_put oj hsj a oi.dst u0 h1).symm (wanted_put oj a oi.dst u0 h1).symm
          refine ⟨oj, vj, hoj, hka, ih (listed.setIfInBounds j true) _ _ hfree' hri (fun _ => ?_) (fun h => by rw [he] at h; cases h)⟩
          refine ⟨V, F', s1.of_same (execOp_put oi hsi a oj.dst vj h3) (wanted_put oi a oj.dst vj h3), fun u hu => ?_⟩
          by_cases hne : ∃ w, S w ∧ F' u w
          · obtain ⟨o', vj', ho', hk', hrest⟩ := ((s2 u hu hne (hcl.set_ hr)).2 j hm).2 e
            rw [hoj] at ho'; injection ho' with ho'; subst ho'
            obtain rfl := hka.uniq h0 (hk'.of_same (execOp_put oj hsj a oi.dst u h1).symm (wanted_put oj a oi.dst u h1).symm)
            rw [Array.setIfInBounds_comm _ _ hji, ← Act.put_comm a u vj h2]
            exact hrest
          · cases fuel <;> exact fun hw _ => absurd hw hne
        | false =>
          obtain ⟨v, s1, s2⟩ := hP he
          obtain ⟨o', vj, ho', hk, hrest⟩ := ((s2 ⟨w0, h0, hF0⟩ (hcl.set_ hr)).2 j hm).2 e
          rw [hoj] at ho'; injection ho' with ho'; subst ho'
          refine ⟨oj, vj, hoj, hk.of_same (execOp_put oj hsj a oi.dst v h1).symm (wanted_put oj a oi.dst v h1).symm, ih (listed.setIfInBounds j true) _ _ hfree' hri (fun h => by rw [he] at h; cases h) (fun _ => ?_)⟩
          refine ⟨v, s1.of_same (execOp_put oi hsi a oj.dst vj h3) (wanted_put oi a oj.dst vj h3), ?_⟩
          rw [Array.setIfInBounds_comm _ _ hji, ← Act.put_comm a v vj h2]
          exact hrest

/-! ### how it is used -/
def chainB (ops : Array Oper) (eff : Nat → Bool) : Bool := (List.range ops.size).all fun i => (List.range ops.size).all fun j => !(eff i && eff j && decide (i < j)) || reach ops ops.size j i
theorem chain_of (h : chainB ops eff = true) : Chain .any ops eff := by
  have key : ∀ (listed : Array Bool) i j, Closed .any ops listed → eff i = true → eff j = true → i ∈ Region.ready .any ops listed → j ∈ Region.ready .any ops listed → i < j → False := by
    intro listed i j hcl hi hj hri hrj hij
    obtain ⟨h1, oi, hoi, _⟩ := mem_ready.1 hri
    obtain ⟨h2, oj, hoj, hall⟩ := mem_ready.1 hrj
    have hin := (Array.getElem?_eq_some_iff.1 hoi).1
    have hjn := (Array.getElem?_eq_some_iff.1 hoj).1
    have hc := List.all_eq_true.1 (List.all_eq_true.1 h i (List.mem_range.2 hin)) j (List.mem_range.2 hjn)
    simp only [hi, hj, hij, Bool.and_self, decide_true, Bool.not_true, Bool.false_or] at hc
    have wl : ∀ k m, listed.getD k true = true → waits ops k m = true → listed.getD m false = true := fun k m hk hw => by
      unfold waits at hw
      split at hw
      · rename_i o ho
        obtain ⟨e, he, hb⟩ := List.any_eq_true.1 hw
        simp only [Bool.and_eq_true, beq_iff_eq] at hb
        rw [← hb.2]
        exact hcl k o ho hk e (by simpa using he) hb.1
      · cases hw
    have up : ∀ k, listed.getD k false = true → listed.getD k true = true := fun k hk => by
      by_cases hs : k < listed.size
      · simpa [hs] using hk
      · simp [hs] at hk
    have wj : ∀ m, waits ops j m = true → listed.getD m false = true := fun m hw => by
      unfold waits at hw
      rw [hoj] at hw
      obtain ⟨e, he, hb⟩ := List.any_eq_true.1 hw
      simp only [Bool.and_eq_true, beq_iff_eq] at hb
      rw [← hb.2]
      exact hall e (by simpa using he) hb.1
    have fin : listed.getD i false = true := by
      cases hn : ops.size with
      | zero => omega
      | succ n =>
        rw [hn] at hc
        unfold reach at hc
        rcases Bool.or_eq_true .. ▸ hc with hc | hc
        · exact wj i hc
        · obtain ⟨k, _, hk⟩ := List.any_eq_true.1 hc
          simp only [Bool.and_eq_true] at hk
          exact reach_listed (listed := fun k => listed.getD k false) (fun k m a b => wl k m (up k a) b) n k i (wj k hk.1) hk.2
    rw [up i fin] at h1
    cases h1
  intro listed i j hcl hi hj hri hrj
  rcases Nat.lt_trichotomy i j with hlt | he | hgt
  · exact (key listed i j hcl hi hj hri hrj hlt).elim
  · exact he.symm
  · exact (key listed j i hcl hj hi hrj hri hgt).elim

theorem AllC.read {i : Nat} {oi : Oper} {v : Value} {fuel : Nat} {listed : Array Bool} {a : Act} {F : World → Prop} (hch : chainB ops eff = true) (hi : ops[i]? = some oi) (he : eff i = false)
    (hs : Region.noSelect ops = true) (hf : Region.free .any ops listed i = true) (hr : (Region.ready .any ops listed).contains i = true)
    (hw : Region.wanted oi (yielded ops a.tmps) = true) (hy : ∀ w, S w → (execOp a.eval oi).run P w = .ok (.value v) w)
    (h : AllC P .any ops S eff R fuel (listed.setIfInBounds i true) (a.put oi.dst v) F) : AllC P .any ops S eff R (fuel + 1) listed a F :=
  AllC.first (chain_of hch) hi (Region.noSelect_spec hs) fuel listed a F (Region.free_spec hi hf) (by simpa using hr) (fun h => by rw [he] at h; cases h) (fun _ => ⟨v, .inl ⟨hw, hy⟩, h⟩)
theorem AllC.unwanted {i : Nat} {oi : Oper} {fuel : Nat} {listed : Array Bool} {a : Act} {F : World → Prop} (hch : chainB ops eff = true) (hi : ops[i]? = some oi) (he : eff i = false)
    (hs : Region.noSelect ops = true) (hf : Region.free .any ops listed i = true) (hr : (Region.ready .any ops listed).contains i = true)
    (hw : Region.wanted oi (yielded ops a.tmps) = false)
    (h : AllC P .any ops S eff R fuel (listed.setIfInBounds i true) (a.put oi.dst undef) F) : AllC P .any ops S eff R (fuel + 1) listed a F :=
  AllC.first (chain_of hch) hi (Region.noSelect_spec hs) fuel listed a F (Region.free_spec hi hf) (by simpa using hr) (fun h => by rw [he] at h; cases h) (fun _ => ⟨undef, .inr ⟨hw, rfl⟩, h⟩)
theorem AllC.effect {i : Nat} {oi : Oper} {fuel : Nat} {listed : Array Bool} {a : Act} {F : World → Prop} (V : Value → Prop) (F' : Value → World → Prop) (hch : chainB ops eff = true) (hi : ops[i]? = some oi) (he : eff i = true)
    (hs : Region.noSelect ops = true) (hf : Region.free .any ops listed i = true) (hr : (Region.ready .any ops listed).contains i = true)
    (hw : Region.wanted oi (yielded ops a.tmps) = true) (hy : ∀ w, S w → F w → GivesC P S V F' ((execOp a.eval oi).run P w))
    (h : ∀ u, V u → AllC P .any ops S eff R fuel (listed.setIfInBounds i true) (a.put oi.dst u) (F' u)) : AllC P .any ops S eff R (fuel + 1) listed a F :=
  AllC.first (chain_of hch) hi (Region.noSelect_spec hs) fuel listed a F (Region.free_spec hi hf) (by simpa using hr) (fun _ => ⟨V, F', ⟨hw, hy⟩, h⟩) (fun h => by rw [he] at h; cases h)
theorem AllC.done {listed : Array Bool} {a : Act} {F : World → Prop} (hr : Region.ready md ops listed = []) (h : R F a) : ∀ fuel, AllC P md ops S eff R fuel listed a F
  | 0 => fun _ _ => ⟨hr, h⟩
  | _ + 1 => fun _ _ => ⟨fun _ => h, by rw [hr]; simp⟩
theorem AllC.start {n fuel : Nat} {a : Act} {F : World → Prop} (hch : chainB ops eff = true) (h : Hid (chainB ops eff = true) → AllC P .any ops S eff R fuel (lst n 0) a F) : AllC P .any ops S eff R fuel (Array.replicate n false) a F := by
  have := h (Lib.hid hch)
  rwa [lst_zero] at this
section
variable {n k fuel : Nat} {oi : Oper} {a : Act} {F : World → Prop}
/-- the next one, a read -/
theorem AllC.rq {v : Value} (hch : Hid (chainB ops eff = true)) (hy : ∀ w, S w → (execOp a.eval oi).run P w = .ok (.value v) w) (h : AllC P .any ops S eff R fuel (lst n (k + 1)) (a.put oi.dst v) F)
    (hi : ops[k]? = some oi := by rw [List.getElem?_toArray]; rfl) (he : eff k = false := by rfl) (hw : Region.wanted oi (yielded ops a.tmps) = true := by rfl) (hk : decide (k < n) = true := by kernel_rfl)
    (hs : Region.noSelect ops = true := by kernel_rfl) (hf : Region.free .any ops (lst n k) k = true := by kernel_rfl) (hr : (Region.ready .any ops (lst n k)).contains k = true := by kernel_rfl) : AllC P .any ops S eff R (fuel + 1) (lst n k) a F :=
  AllC.read hch.out hi he hs hf hr hw hy (by rwa [lst_set (of_decide_eq_true hk)])
/-- the next one, not wanted -/
theorem AllC.uq (hch : Hid (chainB ops eff = true)) (h : AllC P .any ops S eff R fuel (lst n (k + 1)) (a.put oi.dst undef) F)
    (hi : ops[k]? = some oi := by rw [List.getElem?_toArray]; rfl) (he : eff k = false := by rfl) (hw : Region.wanted oi (yielded ops a.tmps) = false := by kernel_rfl) (hk : decide (k < n) = true := by kernel_rfl)
    (hs : Region.noSelect ops = true := by kernel_rfl) (hf : Region.free .any ops (lst n k) k = true := by kernel_rfl) (hr : (Region.ready .any ops (lst n k)).contains k = true := by kernel_rfl) : AllC P .any ops S eff R (fuel + 1) (lst n k) a F :=
  AllC.unwanted hch.out hi he hs hf hr hw (by rwa [lst_set (of_decide_eq_true hk)])
/-- the next one, an effect -/
theorem AllC.eq_ (V : Value → Prop) (F' : Value → World → Prop) (hch : Hid (chainB ops eff = true)) (hy : ∀ w, S w → F w → GivesC P S V F' ((execOp a.eval oi).run P w)) (h : ∀ u, V u → AllC P .any ops S eff R fuel (lst n (k + 1)) (a.put oi.dst u) (F' u))
    (hi : ops[k]? = some oi := by rw [List.getElem?_toArray]; rfl) (he : eff k = true := by rfl) (hw : Region.wanted oi (yielded ops a.tmps) = true := by rfl) (hk : decide (k < n) = true := by kernel_rfl)
    (hs : Region.noSelect ops = true := by kernel_rfl) (hf : Region.free .any ops (lst n k) k = true := by kernel_rfl) (hr : (Region.ready .any ops (lst n k)).contains k = true := by kernel_rfl) : AllC P .any ops S eff R (fuel + 1) (lst n k) a F :=
  AllC.effect V F' hch.out hi he hs hf hr hw hy (fun u hu => by rw [lst_set (of_decide_eq_true hk)]; exact h u hu)
/-- the next one, a call -/
theorem AllC.cq (f : Nat) (args : Array Value) (V : Value → Prop) (F' : Value → World → Prop) (hch : Hid (chainB ops eff = true)) (hrun : ∀ w, (execOp a.eval oi).run P w = .ok (.enter f args) w)
    (hc : ∀ w, S w → F w → Calls P f args w fun e w' => ∃ u, e = .returned u ∧ V u ∧ S w' ∧ F' u w') (h : ∀ u, V u → AllC P .any ops S eff R fuel (lst n (k + 1)) (a.put oi.dst u) (F' u))
    (hi : ops[k]? = some oi := by rw [List.getElem?_toArray]; rfl) (he : eff k = true := by rfl) (hw : Region.wanted oi (yielded ops a.tmps) = true := by rfl) (hk : decide (k < n) = true := by kernel_rfl)
    (hs : Region.noSelect ops = true := by kernel_rfl) (hf : Region.free .any ops (lst n k) k = true := by kernel_rfl) (hr : (Region.ready .any ops (lst n k)).contains k = true := by kernel_rfl) : AllC P .any ops S eff R (fuel + 1) (lst n k) a F :=
  AllC.eq_ V F' hch (fun w hS hF => .inr (.inr ⟨f, args, w, hrun w, hc w hS hF⟩)) h hi he hw hk hs hf hr
end
theorem region_C {id : Nat} {a : Act} {w : World} (hm : P.follows .mixedOrders = true) (S F : World → Prop) (eff : Nat → Bool) (h0 : S w.drew) (hF : F w.drew)
    (h : ∀ R : (World → Prop) → Act → Prop, Hid (∀ F a', (∀ w', S w' → F w' → Q .normal a' w') → R F a') → AllC P .any ops S eff R ops.size (Array.replicate ops.size false) a F) : (Code.region id ops true).wp P Q a w :=
  wp_region_any hm (AllC.sound (R := fun F a' => ∀ w', S w' → F w' → Q .normal a' w') (fun _ _ w' hS hF hR => hR w' hS hF) _ _ _ F _ (Closed.none_ _ rfl) (h _ (Lib.hid fun _ _ h => h)) h0 hF)
end
end Go.Proofs.Ytpaaicbgehpdiaa
