/- A region that draws its order, of operations that each yield one value in every world that meets a condition S (reads, and calls that may make memory), and whose LAST operation, a store, waits for all others: one order stands for all, the store last; it may hit a cell that the region loads. For any layer. No walk. -/
import Derived.Test.YtnoenccpbbkdeaaGB
namespace Go.Proofs.Ytnoenccpbbkdeaa
open Go.ChangeShapes Go.WideShapes Go.ChangeAt Go.RowKit

section
variable {P : Program} {ops : Array Oper} {Q : Exit → Act → World → Prop} {md : Region.Mode} {S : World → Prop} {R : Act → Prop}

theorem unlisted_ready (hac : ∀ i o, ops[i]? = some o → ∀ e ∈ o.after, Region.binds md e = true → e.on < i) {listed : Array Bool} (hsz : listed.size = ops.size) :
    ∀ j, listed.getD j true = false → Region.ready md ops listed ≠ [] := by
  intro j
  induction j using Nat.strongRecOn with
  | ind j ih =>
    intro hj
    have hjs : j < listed.size := by
      rcases Nat.lt_or_ge j listed.size with h | h
      · exact h
      · simp [Array.getElem?_eq_none h] at hj
    obtain ⟨o, ho⟩ : ∃ o, ops[j]? = some o := ⟨_, Array.getElem?_eq_getElem (by omega)⟩
    by_cases hall : ∀ e ∈ o.after, Region.binds md e = true → listed.getD e.on false = true
    · intro h0
      have := mem_ready.2 ⟨hj, o, ho, hall⟩
      rw [h0] at this
      cases this
    · have hex : ∃ e, e ∈ o.after ∧ Region.binds md e = true ∧ ¬ listed.getD e.on false = true := by
        apply Classical.byContradiction
        intro hno
        exact hall fun e he hb => Classical.byContradiction fun hn => hno ⟨e, he, hb, hn⟩
      obtain ⟨e, he, hb, hn⟩ := hex
      have hlt := hac j o ho e he hb
      refine ih e.on hlt ?_
      have hs2 : e.on < listed.size := by omega
      simp [hs2] at hn ⊢
      exact hn

theorem tail_sound {st : Nat} {os : Oper} (hst : ops[st]? = some os) (hlast : ops.size = st + 1)
    (hac : ∀ i o, ops[i]? = some o → ∀ e ∈ o.after, Region.binds md e = true → e.on < i)
    (hall : ∀ i, i < st → ∃ e ∈ os.after, Region.binds md e = true ∧ e.on = i)
    (hQ : ∀ a w, S w → R a → Go.wpOp P ops Q st (fun a' w' => Q .normal a' w') a w) :
    ∀ (fuel : Nat) (listed : Array Bool) (a : Act) (w : World), listed.size = ops.size → listed.getD st true = false →
      AllS P md ops S R fuel (listed.setIfInBounds st true) a → S w → wpAny P md ops Q (fuel + 1) listed a w := by
  intro fuel
  induction fuel with
  | zero =>
    intro listed a w hsz hun hA hS
    refine ⟨fun h => absurd h (unlisted_ready hac hsz st hun), fun i hi => ?_⟩
    by_cases e : i = st
    · subst e
      exact wpOp_mono (fun a' w' h => ⟨hA.1, h⟩) (hQ a w hS hA.2)
    · have := ready_mono hi e
      rw [hA.1] at this
      cases this
  | succ f ih =>
    intro listed a w hsz hun hA hS
    refine ⟨fun h => absurd h (unlisted_ready hac hsz st hun), fun i hi => ?_⟩
    by_cases e : i = st
    · subst e
      obtain ⟨_, o2, ho2, hl⟩ := mem_ready.1 hi
      rw [hst] at ho2
      injection ho2 with ho2
      subst ho2
      have hnone : Region.ready md ops (listed.setIfInBounds i true) = [] := by
        rw [List.eq_nil_iff_forall_not_mem]
        intro j hj
        obtain ⟨h1, o, ho, _⟩ := mem_ready.1 hj
        have hjs : j < ops.size := (Array.getElem?_eq_some_iff.1 ho).1
        by_cases ej : j = i
        · subst ej
          have hjl : j < listed.size := by omega
          simp [hjl] at h1
        · obtain ⟨ed, hed, hb, hon⟩ := hall j (by omega)
          have h2 := hl ed hed hb
          rw [hon] at h2
          rw [getD_set_ne true (Ne.symm ej)] at h1
          have hjl : j < listed.size := by omega
          simp [hjl] at h1 h2
          rw [h1] at h2
          cases h2
      exact wpOp_mono (fun a' w' h => ⟨fun _ => h, fun j hj => by rw [hnone] at hj; cases hj⟩) (hQ a w hS (hA.1 hnone))
    · obtain ⟨oi, v, ho, hk, hr⟩ := hA.2 i (ready_mono hi e)
      refine hk.step ho hS fun w' hS' => ?_
      refine ih (listed.setIfInBounds i true) _ w' (by simpa using hsz) (by rw [getD_set_ne true e]; exact hun) ?_ hS'
      rw [Array.setIfInBounds_comm _ _ e]
      exact hr

theorem wpOp_of_wp {i : Nat} {o : Oper} {a : Act} {w : World} {K : Act → World → Prop} (hi : ops[i]? = some o) (hg : o.guard = none) (h : o.wp P a w K Q) : Go.wpOp P ops Q i K a w := by
  unfold Go.wpOp
  simp only [hi]
  rw [if_pos (wanted_none hg _)]
  exact .inl h

/-- edges lead back -/
def backB (ops : Array Oper) : Bool := (List.range ops.size).all fun i => match ops[i]? with
  | some o => o.after.toList.all fun e => decide (e.on < i)
  | none => true
/-- the operation st waits for all others -/
def lastB (ops : Array Oper) (st : Nat) : Bool := (List.range st).all fun i => match ops[st]? with
  | some o => o.after.toList.any fun e => Region.binds .any e && decide (e.on = i)
  | none => false

/-- THE REGION: the store st last -/
theorem region_tail {id : Nat} {a : Act} {w : World} (hm : P.follows .mixedOrders = true) (S : World → Prop) (h0 : S w.drew) (st : Nat) (hlast : ops.size = st + 1) (hb : backB ops = true) (hl : lastB ops st = true)
    (h : ∀ R : Act → Prop, Hid (∀ a', (∀ w', S w' → Go.wpOp P ops Q st (fun a'' w'' => Q .normal a'' w'') a' w') → R a') → AllS P .any ops S R st ((Array.replicate ops.size false).setIfInBounds st true) a) : (Code.region id ops true).wp P Q a w := by
  refine wp_region_any hm ?_
  obtain ⟨os, hos⟩ : ∃ os, ops[st]? = some os := ⟨_, Array.getElem?_eq_getElem (by omega)⟩
  have hh := h (fun a' => ∀ w', S w' → Go.wpOp P ops Q st (fun a'' w'' => Q .normal a'' w'') a' w') (Lib.hid fun _ h => h)
  have hac : ∀ i o, ops[i]? = some o → ∀ e ∈ o.after, Region.binds .any e = true → e.on < i := fun i o ho e he _ => by
    have h1 := List.all_eq_true.1 hb i (List.mem_range.2 (Array.getElem?_eq_some_iff.1 ho).1)
    rw [ho] at h1
    exact of_decide_eq_true (List.all_eq_true.1 h1 e (by simpa using he))
  have hall : ∀ i, i < st → ∃ e ∈ os.after, Region.binds .any e = true ∧ e.on = i := fun i hi => by
    have h1 := List.all_eq_true.1 hl i (List.mem_range.2 hi)
    rw [hos] at h1
    obtain ⟨e, he, h2⟩ := List.any_eq_true.1 h1
    simp only [Bool.and_eq_true, decide_eq_true_eq] at h2
    exact ⟨e, by simpa using he, h2⟩
  have := tail_sound hos hlast hac hall (Q := Q) (S := S) (R := fun a' => ∀ w', S w' → Go.wpOp P ops Q st (fun a'' w'' => Q .normal a'' w'') a' w') (fun a w hS hR => hR w hS) st (Array.replicate ops.size false) a w.drew (by simp) (by simp [hlast]) hh h0
  rw [hlast]
  rw [hlast] at this
  exact this
end
end Go.Proofs.Ytnoenccpbbkdeaa

/- A region that draws its order, of operations that make memory and hand back what they have made, each with a fact (phi) on its value that hangs on the values of those that it waits for alone: shown once, in the order of the text. For any layer. No walk. -/
namespace Go.Proofs.Ytnoenccpbbkdeaa
open Go.ChangeShapes Go.WideShapes Go.ChangeAt Go.RowKit

section
variable {P : Program} {ops : Array Oper} {Q : Exit → Act → World → Prop} {S : World → Prop} {Φ : Nat → Value → World → Prop}

/-- the slots of the operations l, numbered from k, filled with us: of those that are listed -/
def putS (listed : Nat → Bool) : List Oper → Nat → (Nat → Value) → Act → Act
  | [], _, _, a => a
  | o :: l, k, us, a => putS listed l (k + 1) us (if listed k then a.put o.dst (us k) else a)
/-- all of them -/
def putAll : List Oper → Nat → (Nat → Value) → Act → Act
  | [], _, _, a => a
  | o :: l, k, us, a => putAll l (k + 1) us (a.put o.dst (us k))
theorem putS_all {listed : Nat → Bool} : ∀ (l : List Oper) (k : Nat) (us : Nat → Value) (a : Act), (∀ m, k ≤ m → m < k + l.length → listed m = true) → putS listed l k us a = putAll l k us a
  | [], _, _, _, _ => rfl
  | o :: l, k, us, a, h => by
    rw [putS, putAll, if_pos (h k (Nat.le_refl _) (by simp))]
    exact putS_all l (k + 1) us _ fun m h1 h2 => h m (by omega) (by simp at h2 ⊢; omega)
theorem putS_none {listed : Nat → Bool} : ∀ (l : List Oper) (k : Nat) (us : Nat → Value) (a : Act), (∀ m, listed m = false) → putS listed l k us a = a
  | [], _, _, _, _ => rfl
  | o :: l, k, us, a, h => by
    rw [putS, h k]
    exact putS_none l (k + 1) us a h
theorem putS_out {listed : Nat → Bool} {d : Option Tmp} {u : Value} : ∀ (l : List Oper) (k : Nat) (us : Nat → Value) (a : Act), (∀ o ∈ l, ∀ e, d = some e → o.dst ≠ some e) → putS listed l k us (a.put d u) = (putS listed l k us a).put d u
  | [], _, _, _, _ => rfl
  | o :: l, k, us, a, h => by
    rw [putS, putS]
    have h1 := h o (List.mem_cons_self ..)
    have ih := fun a => putS_out (listed := listed) (d := d) (u := u) l (k + 1) us a fun o ho => h o (List.mem_cons_of_mem _ ho)
    split
    · rw [Act.put_comm a u (us k) h1, ih]
    · exact ih a
def updB (listed : Nat → Bool) (i j : Nat) : Bool := if j = i then true else listed j
def updU (us : Nat → Value) (i : Nat) (u : Value) (j : Nat) : Value := if j = i then u else us j
theorem updB_eq (listed : Nat → Bool) (i : Nat) : updB listed i i = true := if_pos rfl
theorem updB_ne (listed : Nat → Bool) {i j : Nat} (h : j ≠ i) : updB listed i j = listed j := if_neg h
theorem updU_eq (us : Nat → Value) (i : Nat) (u : Value) : updU us i u i = u := if_pos rfl
theorem updU_ne (us : Nat → Value) {i j : Nat} (u : Value) (h : j ≠ i) : updU us i u j = us j := if_neg h
theorem putS_above {listed : Nat → Bool} {i : Nat} {u : Value} : ∀ (l : List Oper) (k : Nat) (us : Nat → Value) (a : Act), i < k → putS (updB listed i) l k (updU us i u) a = putS listed l k us a
  | [], _, _, _, _ => rfl
  | o :: l, k, us, a, h => by
    rw [putS, putS, updB_ne _ (by omega), updU_ne _ _ (by omega)]
    exact putS_above l (k + 1) us _ (by omega)
/-- no two write one slot -/
def Dist (l : List Oper) : Prop := l.Pairwise fun x y => ∀ e, x.dst = some e → y.dst ≠ some e
theorem putS_in {listed : Nat → Bool} {i : Nat} {u : Value} {oi : Oper} (hi : listed i = false) : ∀ (l : List Oper) (k : Nat) (us : Nat → Value) (a : Act), k ≤ i → l[i - k]? = some oi → Dist l → putS (updB listed i) l k (updU us i u) a = (putS listed l k us a).put oi.dst u
  | [], _, _, _, _, h, _ => by simp at h
  | o :: l, k, us, a, hk, h, hd => by
    obtain ⟨h1, h2⟩ := List.pairwise_cons.1 hd
    by_cases e : i = k
    · subst e
      rw [Nat.sub_self] at h
      obtain rfl : o = oi := by simpa using h
      rw [putS, putS, hi, updB_eq, updU_eq]
      simp only [if_true, Bool.false_eq_true, if_false]
      rw [putS_above l (i + 1) us _ (by omega), putS_out l (i + 1) us a fun x hx e he => h1 x hx e he]
    · rw [putS, putS, updB_ne _ (fun h => e h.symm), updU_ne _ _ (fun h => e h.symm)]
      refine putS_in hi l (k + 1) us _ (by omega) ?_ h2
      rw [show i - k = (i - (k + 1)) + 1 by omega] at h
      simpa using h

/-- both frames say the same to operation o -/
structure SameTo (ops : Array Oper) (o : Oper) (a b : Act) : Prop where
  size : a.tmps.size = b.tmps.size
  at_ : ∀ d ∈ o.looksAt ops, a.tmps[d]? = b.tmps[d]?
theorem SameTo.put {o : Oper} {a b : Act} (h : SameTo ops o a b) (d : Option Tmp) (u : Value) : SameTo ops o (a.put d u) (b.put d u) := by
  cases d with
  | none => exact h
  | some d =>
    refine ⟨by simp [Act.put, h.size], fun e he => ?_⟩
    simp only [Act.put, Array.getElem?_setIfInBounds]
    rw [h.size, h.at_ e he]
theorem SameTo.right {o : Oper} {a b : Act} (h : SameTo ops o a b) {d : Option Tmp} (u : Value) (hd : ∀ e, d = some e → e ∉ o.looksAt ops) : SameTo ops o a (b.put d u) := by
  cases d with
  | none => exact h
  | some d =>
    refine ⟨by simp [Act.put, h.size], fun e he => ?_⟩
    have hne : d ≠ e := fun x => hd d rfl (x ▸ he)
    simp only [Act.put, Array.getElem?_setIfInBounds_ne hne]
    exact h.at_ e he
theorem same_puts {listed : Nat → Bool} {o : Oper} {us : Nat → Value} : ∀ (l : List Oper) (k : Nat) (a b : Act), SameTo ops o a b → (∀ m o', l[m]? = some o' → listed (k + m) = false → ∀ e, o'.dst = some e → e ∉ o.looksAt ops) → SameTo ops o (putS listed l k us a) (putAll l k us b)
  | [], _, _, _, h, _ => h
  | x :: l, k, a, b, h, hn => by
    rw [putS, putAll]
    refine same_puts l (k + 1) _ _ ?_ fun m o' ho hm => hn (m + 1) o' (by simpa using ho) (by rw [show k + (m + 1) = k + 1 + m by omega]; exact hm)
    cases hk : listed k with
    | true => exact h.put _ _
    | false => exact h.right _ (hn 0 x rfl hk)
theorem SameTo.exec {o : Oper} {a b : Act} (h : SameTo ops o a b) (hs : ∀ cs c, o.op ≠ .select cs c) : execOp a.eval o = execOp b.eval o :=
  execOp_congr o hs fun x hx => by
    cases x with
    | tmp t =>
      have := h.at_ t (List.mem_append_left _ (List.mem_filterMap.2 ⟨.tmp t, by simpa using hx, rfl⟩))
      simp [Act.eval, this]
    | _ => rfl
theorem SameTo.wanted {o : Oper} {a b : Act} (h : SameTo ops o a b) : Region.wanted o (yielded ops a.tmps) = Region.wanted o (yielded ops b.tmps) := by
  unfold Region.wanted
  cases hg : o.guard with
  | none => rfl
  | some gw =>
    obtain ⟨g, want⟩ := gw
    have hy : yielded ops a.tmps g = yielded ops b.tmps g := by
      unfold yielded
      cases ht : (ops[g]?).bind (·.dst) with
      | none => rfl
      | some t =>
        have := h.at_ t (by simp [Oper.looksAt, hg, ht])
        simp [this]
    simp only [hy]

/-- what one operation leaves -/
def GivesP (P : Program) (Φ : Nat → Value → World → Prop) (i : Nat) (w : World) (r : Result Next) : Prop :=
  (∃ u w', r = .ok (.value u) w' ∧ Below w.heap.size w w' ∧ Φ i u w') ∨
  (∃ f args, r = .ok (.enter f args) w ∧ Calls P f args w fun e w' => ∃ u, e = .returned u ∧ Below w.heap.size w w' ∧ Φ i u w')
def StepP (P : Program) (ops : Array Oper) (Φ : Nat → Value → World → Prop) (i : Nat) (o : Oper) (a : Act) (w : World) : Prop :=
  (Region.wanted o (yielded ops a.tmps) = true ∧ GivesP P Φ i w ((execOp a.eval o).run P w)) ∨ (Region.wanted o (yielded ops a.tmps) = false ∧ Φ i undef w)
theorem StepP.step {i : Nat} {o : Oper} {a : Act} {K : Act → World → Prop} {w : World} (hi : ops[i]? = some o) (hy : StepP P ops Φ i o a w)
    (h : ∀ u w', Below w.heap.size w w' → Φ i u w' → K (a.put o.dst u) w') : Go.wpOp P ops Q i K a w := by
  unfold Go.wpOp
  simp only [hi]
  rcases hy with ⟨hw, ⟨u, w', hr, hb, hp⟩ | ⟨f, args, hr, hc⟩⟩ | ⟨hw, hp⟩
  · rw [if_pos hw]
    left
    simp only [Oper.wp, hr, Oper.upon]
    exact h u w' hb hp
  · rw [if_pos hw]
    left
    simp only [Oper.wp, hr, Oper.upon]
    refine Calls.mono hc ?_
    rintro e w'' ⟨u, rfl, hb, hp⟩
    exact h u w'' hb hp
  · rw [if_neg (by simp [hw])]
    exact h undef w (Below.refl _ _) hp

/-- operation i waits for operation j -/
def waits (ops : Array Oper) (i j : Nat) : Bool := match ops[i]? with
  | some o => o.after.toList.any fun e => Region.binds .any e && e.on == j
  | none => false
def distB (ops : Array Oper) : Bool := decide ((ops.toList.filterMap (·.dst)).Nodup)
/-- what an operation looks at, and another one writes: it waits for that one -/
def looksB (ops : Array Oper) : Bool := (List.range ops.size).all fun i => (List.range ops.size).all fun j => match ops[i]?, ops[j]? with
  | some o, some o' => (match o'.dst with | some d => !(o.looksAt ops).contains d || waits ops i j | none => true)
  | _, _ => true
theorem dist_of : ∀ {l : List Oper}, (l.filterMap (·.dst)).Nodup → Dist l
  | [], _ => List.Pairwise.nil
  | o :: l, h => by
    refine List.pairwise_cons.2 ⟨fun y hy e he hye => ?_, ?_⟩
    · rw [List.filterMap_cons, he] at h
      exact (List.nodup_cons.1 h).1 (List.mem_filterMap.2 ⟨y, hy, hye⟩)
    · rw [List.filterMap_cons] at h
      split at h
      · exact dist_of h
      · exact dist_of (List.nodup_cons.1 h).2

def unl (listed : Array Bool) (n : Nat) : Nat := (List.range n).countP fun j => !listed.getD j true
theorem unl_zero {listed : Array Bool} {n : Nat} (h : unl listed n = 0) : ∀ j, j < n → listed.getD j true = true := fun j hj => by
  have := List.countP_eq_zero.1 h j (List.mem_range.2 hj)
  simpa using this
theorem countP_one {p q : Nat → Bool} {i : Nat} (hp : p i = true) (hq : q i = false) (hs : ∀ j, j ≠ i → q j = p j) : ∀ L : List Nat, L.Nodup → L.countP q + (if i ∈ L then 1 else 0) = L.countP p
  | [], _ => rfl
  | x :: L, h => by
    obtain ⟨h1, h2⟩ := List.nodup_cons.1 h
    have ih := countP_one hp hq hs L h2
    rw [List.countP_cons, List.countP_cons]
    by_cases e : x = i
    · subst e
      rw [if_neg h1] at ih
      simp [hp, hq]
      omega
    · rw [hs x e]
      have : (i ∈ x :: L) ↔ i ∈ L := by
        rw [List.mem_cons]
        exact ⟨fun h => h.resolve_left fun h => e h.symm, .inr⟩
      simp only [this]
      omega
theorem unl_set {listed : Array Bool} {n i : Nat} (hi : i < n) (hs : listed.size = n) (h : listed.getD i true = false) : unl (listed.setIfInBounds i true) n + 1 = unl listed n := by
  have := countP_one (p := fun j => !listed.getD j true) (q := fun j => !(listed.setIfInBounds i true).getD j true) (i := i) (by simp at h ⊢; exact h) (by simp [hs, hi]) (fun j hj => by simp only [getD_set_ne true (Ne.symm hj)]) (List.range n) List.nodup_range
  rw [if_pos (List.mem_range.2 hi)] at this
  exact this

theorem regP_sound (hS : ∀ w w', S w → Below w.heap.size w w' → S w') (hΦ : ∀ j u w w', Φ j u w → Below w.heap.size w w' → Φ j u w') {a : Act}
    (hd : Dist ops.toList) (hlk : ∀ i o j o' d, ops[i]? = some o → ops[j]? = some o' → o'.dst = some d → d ∈ o.looksAt ops → waits ops i j = true)
    (hac : ∀ i o, ops[i]? = some o → ∀ e ∈ o.after, Region.binds .any e = true → e.on < i) (hsel : ∀ (j : Nat) (o : Oper) cs b, ops[j]? = some o → o.op ≠ .select cs b)
    (hstep : ∀ i o, ops[i]? = some o → ∀ us w, S w → (∀ j, waits ops i j = true → Φ j (us j) w) → StepP P ops Φ i o (putAll ops.toList 0 us a) w)
    (hdone : ∀ us w, S w → (∀ j, j < ops.size → Φ j (us j) w) → Q .normal (putAll ops.toList 0 us a) w) :
    ∀ (fuel : Nat) (listed : Array Bool) (us : Nat → Value) (w : World), listed.size = ops.size → unl listed ops.size ≤ fuel → S w → (∀ j, listed.getD j false = true → Φ j (us j) w) → wpAny P .any ops Q fuel listed (putS (fun j => listed.getD j false) ops.toList 0 us a) w := by
  have hall : ∀ (listed : Array Bool) (us : Nat → Value) (w : World), listed.size = ops.size → (∀ j, j < ops.size → listed.getD j true = true) → S w → (∀ j, listed.getD j false = true → Φ j (us j) w) → Q .normal (putS (fun j => listed.getD j false) ops.toList 0 us a) w := by
    intro listed us w hs hl hw hp
    have hl2 : ∀ j, j < ops.size → listed.getD j false = true := fun j hj => by
      have h1 : j < listed.size := by omega
      have := hl j hj
      simp [h1] at this ⊢
      exact this
    rw [putS_all _ _ _ _ fun m _ h => hl2 m (by simpa using h)]
    exact hdone us w hw fun j hj => hp j (hl2 j hj)
  intro fuel
  induction fuel with
  | zero =>
    intro listed us w hs hu hw hp
    have hz := unl_zero (Nat.le_zero.1 hu)
    refine ⟨?_, hall listed us w hs hz hw hp⟩
    rw [List.eq_nil_iff_forall_not_mem]
    intro j hj
    obtain ⟨h1, o, ho, _⟩ := mem_ready.1 hj
    have := hz j (Array.getElem?_eq_some_iff.1 ho).1
    rw [h1] at this
    cases this
  | succ fuel ih =>
    intro listed us w hs hu hw hp
    refine ⟨fun h0 => hall listed us w hs (fun j _ => ?_) hw hp, fun i hi => ?_⟩
    · cases hj : listed.getD j true with
      | true => rfl
      | false => exact absurd h0 (unlisted_ready hac hs j hj)
    · obtain ⟨h1, o, ho, hdep⟩ := mem_ready.1 hi
      have hin : i < ops.size := (Array.getElem?_eq_some_iff.1 ho).1
      have h1f : listed.getD i false = false := by
        have : i < listed.size := by omega
        simp [this] at h1 ⊢
        exact h1
      have hw2 : ∀ j, waits ops i j = true → listed.getD j false = true := fun j hj => by
        unfold waits at hj
        rw [ho] at hj
        obtain ⟨e, he, hb⟩ := List.any_eq_true.1 hj
        simp only [Bool.and_eq_true, beq_iff_eq] at hb
        rw [← hb.2]
        exact hdep e (by simpa using he) hb.1
      have hst := hstep i o ho us w hw fun j hj => hp j (hw2 j hj)
      have hsame : SameTo ops o (putS (fun j => listed.getD j false) ops.toList 0 us a) (putAll ops.toList 0 us a) := by
        refine same_puts _ 0 _ _ ⟨rfl, fun _ _ => rfl⟩ fun m o' ho' hm e he hle => ?_
        rw [Nat.zero_add] at hm
        have := hw2 m (hlk i o m o' e ho (by simpa using ho') he hle)
        rw [hm] at this
        cases this
      have hst2 : StepP P ops Φ i o (putS (fun j => listed.getD j false) ops.toList 0 us a) w := by
        unfold StepP at hst ⊢
        rw [hsame.exec (hsel i o · · ho), hsame.wanted]
        exact hst
      refine hst2.step ho fun u w' hb hpi => ?_
      have e1 : (fun j => (listed.setIfInBounds i true).getD j false) = updB (fun j => listed.getD j false) i := by
        funext j
        unfold updB
        by_cases e : j = i
        · subst e
          have : j < listed.size := by omega
          simp [this]
        · rw [if_neg e, getD_set_ne false (Ne.symm e)]
      have hput := putS_in (u := u) (listed := fun j => listed.getD j false) h1f ops.toList 0 us a (Nat.zero_le _) (by simpa using ho) hd
      rw [← hput, ← e1]
      refine ih _ _ w' (by simpa using hs) (by have := unl_set hin hs h1; omega) (hS w w' hw hb) fun j hj => ?_
      unfold updU
      by_cases e : j = i
      · subst e
        rw [if_pos rfl]
        exact hpi
      · rw [if_neg e]
        rw [getD_set_ne false (Ne.symm e)] at hj
        exact hΦ _ _ _ _ (hp j hj) hb

/-- THE REGION -/
theorem region_P {id : Nat} {a : Act} {w : World} (hm : P.follows .mixedOrders = true) (S : World → Prop) (hS : ∀ w w', S w → Below w.heap.size w w' → S w') (Φ : Nat → Value → World → Prop) (hΦ : ∀ j u w w', Φ j u w → Below w.heap.size w w' → Φ j u w') (h0 : S w.drew)
    (hd : distB ops = true) (hlk : looksB ops = true) (hb : backB ops = true) (hs : Region.noSelect ops = true)
    (hstep : ∀ us w, S w → ∀ i o, ops[i]? = some o → (∀ j, waits ops i j = true → Φ j (us j) w) → StepP P ops Φ i o (putAll ops.toList 0 us a) w)
    (hdone : ∀ us w, S w → (∀ j, j < ops.size → Φ j (us j) w) → Q .normal (putAll ops.toList 0 us a) w) : (Code.region id ops true).wp P Q a w := by
  refine wp_region_any hm ?_
  have hac : ∀ i o, ops[i]? = some o → ∀ e ∈ o.after, Region.binds .any e = true → e.on < i := fun i o ho e he _ => by
    have h1 := List.all_eq_true.1 hb i (List.mem_range.2 (Array.getElem?_eq_some_iff.1 ho).1)
    rw [ho] at h1
    exact of_decide_eq_true (List.all_eq_true.1 h1 e (by simpa using he))
  have hl : ∀ i o j o' d, ops[i]? = some o → ops[j]? = some o' → o'.dst = some d → d ∈ o.looksAt ops → waits ops i j = true := fun i o j o' d ho ho' hd' hx => by
    have h1 := List.all_eq_true.1 (List.all_eq_true.1 hlk i (List.mem_range.2 (Array.getElem?_eq_some_iff.1 ho).1)) j (List.mem_range.2 (Array.getElem?_eq_some_iff.1 ho').1)
    simp only [ho, ho', hd'] at h1
    simpa [hx] using h1
  have := regP_sound (P := P) (Q := Q) (a := a) hS hΦ (dist_of (of_decide_eq_true hd)) hl hac (Region.noSelect_spec hs) (fun i o ho us w hw hx => hstep us w hw i o ho hx) hdone ops.size (Array.replicate ops.size false) (fun _ => undef) w.drew (by simp) (Nat.le_trans List.countP_le_length (by simp)) h0 (fun j hj => by
    by_cases h : j < ops.size
    · simp [h] at hj
    · simp [h] at hj)
  rw [putS_none] at this
  · exact this
  · intro m
    by_cases h : m < ops.size
    · simp [h]
    · simp [h]
end
end Go.Proofs.Ytnoenccpbbkdeaa

/- As XRegP, where an operation may also write into what others of the region have made: it names those whose fact it ends (kill), and no other one that waits for such a fact may come behind it. For any layer. No walk. -/
namespace Go.Proofs.Ytnoenccpbbkdeaa
open Go.ChangeShapes Go.WideShapes Go.ChangeAt Go.RowKit

section
variable {P : Program} {ops : Array Oper} {Q : Exit → Act → World → Prop} {S : World → Prop} {Φ : Nat → Value → World → Prop} {kill : Nat → Nat → Bool}

/-- operation i waits for operation j, by way of others too -/
def reach (ops : Array Oper) : Nat → Nat → Nat → Bool
  | 0, _, _ => false
  | f + 1, i, j => waits ops i j || (List.range ops.size).any fun k => waits ops i k && reach ops f k j
def killB (ops : Array Oper) (kill : Nat → Nat → Bool) : Bool := (List.range ops.size).all fun i => (List.range ops.size).all fun j => !kill i j ||
  (if reach ops ops.size i j then (List.range ops.size).all fun k => !waits ops k j || k == i || reach ops ops.size i k || reach ops ops.size k i else reach ops ops.size j i)
/-- operation i may lean on what operation j left: it waits for it, and none that ends it has come before -/
def givenB (ops : Array Oper) (kill : Nat → Nat → Bool) (i j : Nat) : Bool := waits ops i j && (List.range ops.size).all fun k => !(kill k j && reach ops ops.size k j && reach ops ops.size i k)

def GivesK (P : Program) (S : World → Prop) (Φ : Nat → Value → World → Prop) (kill : Nat → Nat → Bool) (us : Nat → Value) (i : Nat) (w : World) (r : Result Next) : Prop :=
  (∃ u w', r = .ok (.value u) w' ∧ S w' ∧ Φ i u w' ∧ ∀ j, j ≠ i → kill i j = false → Φ j (us j) w → Φ j (us j) w') ∨
  (∃ f args, r = .ok (.enter f args) w ∧ Calls P f args w fun e w' => ∃ u, e = .returned u ∧ S w' ∧ Φ i u w' ∧ ∀ j, j ≠ i → kill i j = false → Φ j (us j) w → Φ j (us j) w')
def StepK (P : Program) (ops : Array Oper) (S : World → Prop) (Φ : Nat → Value → World → Prop) (kill : Nat → Nat → Bool) (us : Nat → Value) (i : Nat) (o : Oper) (a : Act) (w : World) : Prop :=
  (Region.wanted o (yielded ops a.tmps) = true ∧ GivesK P S Φ kill us i w ((execOp a.eval o).run P w)) ∨ (Region.wanted o (yielded ops a.tmps) = false ∧ Φ i undef w)
theorem StepK.step {us : Nat → Value} {i : Nat} {o : Oper} {a : Act} {K : Act → World → Prop} {w : World} (hi : ops[i]? = some o) (hS : S w) (hy : StepK P ops S Φ kill us i o a w)
    (h : ∀ u w', S w' → Φ i u w' → (∀ j, j ≠ i → kill i j = false → Φ j (us j) w → Φ j (us j) w') → K (a.put o.dst u) w') : Go.wpOp P ops Q i K a w := by
  unfold Go.wpOp
  simp only [hi]
  rcases hy with ⟨hw, ⟨u, w', hr, h1, h2, h3⟩ | ⟨f, args, hr, hc⟩⟩ | ⟨hw, hp⟩
  · rw [if_pos hw]
    left
    simp only [Oper.wp, hr, Oper.upon]
    exact h u w' h1 h2 h3
  · rw [if_pos hw]
    left
    simp only [Oper.wp, hr, Oper.upon]
    refine Calls.mono hc ?_
    rintro e w'' ⟨u, rfl, h1, h2, h3⟩
    exact h u w'' h1 h2 h3
  · rw [if_neg (by simp [hw])]
    exact h undef w hS hp fun _ _ _ h => h

theorem reach_listed {listed : Nat → Bool} (hcl : ∀ k m, listed k = true → waits ops k m = true → listed m = true) : ∀ (f i j : Nat), listed i = true → reach ops f i j = true → listed j = true
  | 0, _, _, _, h => by cases h
  | f + 1, i, j, hi, h => by
    unfold reach at h
    rcases Bool.or_eq_true .. ▸ h with h | h
    · exact hcl i j hi h
    · obtain ⟨k, _, hk⟩ := List.any_eq_true.1 h
      simp only [Bool.and_eq_true] at hk
      exact reach_listed hcl f k j (hcl i k hi hk.1) hk.2

structure InvK (ops : Array Oper) (Φ : Nat → Value → World → Prop) (kill : Nat → Nat → Bool) (listed : Nat → Bool) (us : Nat → Value) (w : World) : Prop where
  cl : ∀ k m, listed k = true → waits ops k m = true → listed m = true
  fact : ∀ j, listed j = true → (∀ i, listed i = true → kill i j = true → reach ops ops.size i j = true → False) → Φ j (us j) w

theorem regK_sound {a : Act}
    (hd : Dist ops.toList) (hlk : ∀ i o j o' d, ops[i]? = some o → ops[j]? = some o' → o'.dst = some d → d ∈ o.looksAt ops → waits ops i j = true)
    (hac : ∀ i o, ops[i]? = some o → ∀ e ∈ o.after, Region.binds .any e = true → e.on < i) (hsel : ∀ (j : Nat) (o : Oper) cs b, ops[j]? = some o → o.op ≠ .select cs b)
    (hk1 : ∀ i j, i < ops.size → j < ops.size → kill i j = true → reach ops ops.size i j = true → ∀ k, k < ops.size → waits ops k j = true → k = i ∨ reach ops ops.size i k = true ∨ reach ops ops.size k i = true)
    (hk2 : ∀ i j, i < ops.size → j < ops.size → kill i j = true → reach ops ops.size i j = false → reach ops ops.size j i = true)
    (hstep : ∀ i o, ops[i]? = some o → ∀ us w, S w → (∀ j, givenB ops kill i j = true → Φ j (us j) w) → StepK P ops S Φ kill us i o (putAll ops.toList 0 us a) w)
    (hdone : ∀ us w, S w → (∀ j, j < ops.size → (∀ i, i < ops.size → kill i j = true → reach ops ops.size i j = true → False) → Φ j (us j) w) → Q .normal (putAll ops.toList 0 us a) w) :
    ∀ (fuel : Nat) (listed : Array Bool) (us : Nat → Value) (w : World), listed.size = ops.size → unl listed ops.size ≤ fuel → S w → InvK ops Φ kill (fun j => listed.getD j false) us w → wpAny P .any ops Q fuel listed (putS (fun j => listed.getD j false) ops.toList 0 us a) w := by
  have hlt : ∀ (listed : Array Bool) j, listed.size = ops.size → listed.getD j false = true → j < ops.size := fun listed j hs h => by
    by_cases e : j < listed.size
    · omega
    · simp [e] at h
  have hall : ∀ (listed : Array Bool) (us : Nat → Value) (w : World), listed.size = ops.size → (∀ j, j < ops.size → listed.getD j true = true) → S w → InvK ops Φ kill (fun j => listed.getD j false) us w → Q .normal (putS (fun j => listed.getD j false) ops.toList 0 us a) w := by
    intro listed us w hs hl hw hp
    have hl2 : ∀ j, j < ops.size → listed.getD j false = true := fun j hj => by
      have h1 : j < listed.size := by omega
      have := hl j hj
      simp [h1] at this ⊢
      exact this
    rw [putS_all _ _ _ _ fun m _ h => hl2 m (by simpa using h)]
    exact hdone us w hw fun j hj hk => hp.fact j (hl2 j hj) fun i hi => hk i (hlt listed i hs hi)
  intro fuel
  induction fuel with
  | zero =>
    intro listed us w hs hu hw hp
    have hz := unl_zero (Nat.le_zero.1 hu)
    refine ⟨?_, hall listed us w hs hz hw hp⟩
    rw [List.eq_nil_iff_forall_not_mem]
    intro j hj
    obtain ⟨h1, o, ho, _⟩ := mem_ready.1 hj
    have := hz j (Array.getElem?_eq_some_iff.1 ho).1
    rw [h1] at this
    cases this
  | succ fuel ih =>
    intro listed us w hs hu hw hp
    refine ⟨fun h0 => hall listed us w hs (fun j _ => ?_) hw hp, fun i hi => ?_⟩
    · cases hj : listed.getD j true with
      | true => rfl
      | false => exact absurd h0 (unlisted_ready hac hs j hj)
    · obtain ⟨h1, o, ho, hdep⟩ := mem_ready.1 hi
      have hin : i < ops.size := (Array.getElem?_eq_some_iff.1 ho).1
      have h1f : listed.getD i false = false := by
        have : i < listed.size := by omega
        simp [this] at h1 ⊢
        exact h1
      have hw2 : ∀ j, waits ops i j = true → listed.getD j false = true := fun j hj => by
        unfold waits at hj
        rw [ho] at hj
        obtain ⟨e, he, hb⟩ := List.any_eq_true.1 hj
        simp only [Bool.and_eq_true, beq_iff_eq] at hb
        rw [← hb.2]
        exact hdep e (by simpa using he) hb.1
      have hreach : ∀ k, listed.getD k false = true → reach ops ops.size k i = true → False := fun k hk hr => by
        have := reach_listed (listed := fun j => listed.getD j false) hp.cl ops.size k i hk hr
        simp only [h1f] at this
        cases this
      have hst := hstep i o ho us w hw fun j hg => by
        obtain ⟨hj, hng⟩ : waits ops i j = true ∧ _ := by
          unfold givenB at hg
          rw [Bool.and_eq_true] at hg
          exact hg
        refine hp.fact j (hw2 j hj) fun k hk hkill hr => ?_
        rcases hk1 k j (hlt listed k hs hk) (hlt listed j hs (hw2 j hj)) hkill hr i hin hj with e | e | e
        · subst e
          simp only [h1f] at hk
          cases hk
        · exact hreach k hk e
        · have := List.all_eq_true.1 hng k (List.mem_range.2 (hlt listed k hs hk))
          rw [hkill, hr, e] at this
          cases this
      have hsame : SameTo ops o (putS (fun j => listed.getD j false) ops.toList 0 us a) (putAll ops.toList 0 us a) := by
        refine same_puts _ 0 _ _ ⟨rfl, fun _ _ => rfl⟩ fun m o' ho' hm e he hle => ?_
        rw [Nat.zero_add] at hm
        have := hw2 m (hlk i o m o' e ho (by simpa using ho') he hle)
        rw [hm] at this
        cases this
      have hst2 : StepK P ops S Φ kill us i o (putS (fun j => listed.getD j false) ops.toList 0 us a) w := by
        unfold StepK at hst ⊢
        rw [hsame.exec (hsel i o · · ho), hsame.wanted]
        exact hst
      refine hst2.step ho hw fun u w' hSw' hpi hkeep => ?_
      have e1 : (fun j => (listed.setIfInBounds i true).getD j false) = updB (fun j => listed.getD j false) i := by
        funext j
        unfold updB
        by_cases e : j = i
        · subst e
          have : j < listed.size := by omega
          simp [this]
        · rw [if_neg e, getD_set_ne false (Ne.symm e)]
      have hput := putS_in (u := u) (listed := fun j => listed.getD j false) h1f ops.toList 0 us a (Nat.zero_le _) (by simpa using ho) hd
      rw [← hput, ← e1]
      refine ih _ _ w' (by simpa using hs) (by have := unl_set hin hs h1; omega) hSw' ?_
      rw [e1]
      refine ⟨fun k m hk hkm => ?_, fun j hj hnk => ?_⟩
      · by_cases e2 : k = i
        · subst e2
          by_cases e3 : m = k
          · rw [e3, updB_eq]
          · rw [updB_ne _ e3]; exact hw2 m hkm
        · rw [updB_ne _ e2] at hk
          by_cases e3 : m = i
          · rw [e3, updB_eq]
          · rw [updB_ne _ e3]; exact hp.cl k m hk hkm
      · by_cases e : j = i
        · subst e
          rw [updU_eq]
          exact hpi
        · rw [updU_ne _ _ e]
          rw [updB_ne _ e] at hj
          have hjn := hlt listed j hs hj
          have hfj := hp.fact j hj fun k hk hkill hr => hnk k (by
            by_cases e2 : k = i
            · rw [e2, updB_eq]
            · rw [updB_ne _ e2]; exact hk) hkill hr
          cases hkij : kill i j with
          | false => exact hkeep j e hkij hfj
          | true =>
            cases hr : reach ops ops.size i j with
            | true => exact (hnk i (updB_eq _ _) hkij hr).elim
            | false => exact (hreach j hj (hk2 i j hin hjn hkij hr)).elim

/-- an operation waits for earlier ones alone (of the edges that bind) -/
def backB2 (ops : Array Oper) : Bool := (List.range ops.size).all fun i => match ops[i]? with
  | some o => o.after.toList.all fun e => !Region.binds .any e || decide (e.on < i)
  | none => true
/-- THE REGION -/
theorem region_K {id : Nat} {a : Act} {w : World} (hm : P.follows .mixedOrders = true) (S : World → Prop) (Φ : Nat → Value → World → Prop) (kill : Nat → Nat → Bool) (h0 : S w.drew)
    (hd : distB ops = true) (hlk : looksB ops = true) (hb : backB2 ops = true) (hs : Region.noSelect ops = true) (hkl : killB ops kill = true)
    (hstep : ∀ us w, S w → ∀ i o, ops[i]? = some o → (∀ j, givenB ops kill i j = true → Φ j (us j) w) → StepK P ops S Φ kill us i o (putAll ops.toList 0 us a) w)
    (hdone : ∀ us w, S w → (∀ j, j < ops.size → (∀ i, i < ops.size → kill i j = true → reach ops ops.size i j = true → False) → Φ j (us j) w) → Q .normal (putAll ops.toList 0 us a) w) : (Code.region id ops true).wp P Q a w := by
  refine wp_region_any hm ?_
  have hac : ∀ i o, ops[i]? = some o → ∀ e ∈ o.after, Region.binds .any e = true → e.on < i := fun i o ho e he hbe => by
    have h1 := List.all_eq_true.1 hb i (List.mem_range.2 (Array.getElem?_eq_some_iff.1 ho).1)
    rw [ho] at h1
    have h2 := List.all_eq_true.1 h1 e (by simpa using he)
    rw [hbe] at h2
    exact of_decide_eq_true (by simpa using h2)
  have hl : ∀ i o j o' d, ops[i]? = some o → ops[j]? = some o' → o'.dst = some d → d ∈ o.looksAt ops → waits ops i j = true := fun i o j o' d ho ho' hd' hx => by
    have h1 := List.all_eq_true.1 (List.all_eq_true.1 hlk i (List.mem_range.2 (Array.getElem?_eq_some_iff.1 ho).1)) j (List.mem_range.2 (Array.getElem?_eq_some_iff.1 ho').1)
    simp only [ho, ho', hd'] at h1
    simpa [hx] using h1
  have hkk : ∀ i j, i < ops.size → j < ops.size → kill i j = true → (if reach ops ops.size i j then (List.range ops.size).all fun k => !waits ops k j || k == i || reach ops ops.size i k || reach ops ops.size k i else reach ops ops.size j i) = true := fun i j hi hj hk => by
    have := List.all_eq_true.1 (List.all_eq_true.1 hkl i (List.mem_range.2 hi)) j (List.mem_range.2 hj)
    rw [hk] at this
    simpa using this
  have := regK_sound (P := P) (Q := Q) (a := a) (dist_of (of_decide_eq_true hd)) hl hac (Region.noSelect_spec hs)
    (fun i j hi hj hk hr k hkn hw => by
      have h1 := hkk i j hi hj hk
      rw [if_pos hr] at h1
      have h2 := List.all_eq_true.1 h1 k (List.mem_range.2 hkn)
      rw [hw] at h2
      simp only [Bool.not_true, Bool.false_or, Bool.or_eq_true, beq_iff_eq, or_assoc] at h2
      exact h2)
    (fun i j hi hj hk hr => by
      have h1 := hkk i j hi hj hk
      rw [if_neg (by simp [hr])] at h1
      exact h1)
    (fun i o ho us w hw hx => hstep us w hw i o ho hx) hdone ops.size (Array.replicate ops.size false) (fun _ => undef) w.drew (by simp) (Nat.le_trans List.countP_le_length (by simp)) h0
    ⟨fun k m hk _ => by
      by_cases h : k < ops.size
      · simp [h] at hk
      · simp [h] at hk, fun j hj _ => by
      by_cases h : j < ops.size
      · simp [h] at hj
      · simp [h] at hj⟩
  rw [putS_none] at this
  · exact this
  · intro m
    by_cases h : m < ops.size
    · simp [h]
    · simp [h]
end
end Go.Proofs.Ytnoenccpbbkdeaa

/- region_P where edges that do not bind may point ahead. For any layer. No walk. -/
namespace Go.Proofs.Ytnoenccpbbkdeaa
open Go.ChangeShapes Go.WideShapes Go.ChangeAt Go.RowKit

section
variable {P : Program} {ops : Array Oper} {Q : Exit → Act → World → Prop}
def nokill : Nat → Nat → Bool := fun _ _ => false
theorem StepP.toK {S : World → Prop} {Φ : Nat → Value → World → Prop} {us : Nat → Value} {i : Nat} {o : Oper} {a : Act} {w : World} (hS : ∀ w w', S w → Below w.heap.size w w' → S w') (hΦ : ∀ j u w w', Φ j u w → Below w.heap.size w w' → Φ j u w')
    (hw : S w) (h : StepP P ops Φ i o a w) : StepK P ops S Φ nokill us i o a w := by
  rcases h with ⟨h1, ⟨u, w', hr, hb, hp⟩ | ⟨f, args, hr, hc⟩⟩ | h
  · exact .inl ⟨h1, .inl ⟨u, w', hr, hS _ _ hw hb, hp, fun j _ _ hj => hΦ _ _ _ _ hj hb⟩⟩
  · refine .inl ⟨h1, .inr ⟨f, args, hr, hc.mono ?_⟩⟩
    rintro e w' ⟨u, rfl, hb, hp⟩
    exact ⟨u, rfl, hS _ _ hw hb, hp, fun j _ _ hj => hΦ _ _ _ _ hj hb⟩
  · exact .inr h
theorem killB_no (ops : Array Oper) : killB ops nokill = true := by simp [killB, nokill]
theorem region_P2 {id : Nat} {a : Act} {w : World} (hm : P.follows .mixedOrders = true) (S : World → Prop) (hS : ∀ w w', S w → Below w.heap.size w w' → S w') (Φ : Nat → Value → World → Prop) (hΦ : ∀ j u w w', Φ j u w → Below w.heap.size w w' → Φ j u w') (h0 : S w.drew)
    (hd : distB ops = true) (hlk : looksB ops = true) (hb : backB2 ops = true) (hs : Region.noSelect ops = true)
    (hstep : ∀ us w, S w → ∀ i o, ops[i]? = some o → (∀ j, waits ops i j = true → Φ j (us j) w) → StepP P ops Φ i o (putAll ops.toList 0 us a) w)
    (hdone : ∀ us w, S w → (∀ j, j < ops.size → Φ j (us j) w) → Q .normal (putAll ops.toList 0 us a) w) : (Code.region id ops true).wp P Q a w :=
  region_K hm S Φ nokill h0 hd hlk hb hs (killB_no ops)
    (fun us w hw i o ho hg => (hstep us w hw i o ho fun j hj => hg j (by simp [givenB, hj, nokill])).toK hS hΦ hw)
    (fun us w hw hg => hdone us w hw fun j hj => hg j hj fun i _ h => by cases h)
end
end Go.Proofs.Ytnoenccpbbkdeaa

/- A region that draws its order, with ONE invariant over what has come up, what it left and the world (for what XRegK's facts, one for each operation, cannot say: new variables that lie apart). For any layer. No walk. -/
namespace Go.Proofs.Ytnoenccpbbkdeaa
open Go.ChangeShapes Go.WideShapes Go.ChangeAt Go.RowKit

section
variable {P : Program} {ops : Array Oper} {Q : Exit → Act → World → Prop} {J : (Nat → Bool) → (Nat → Value) → World → Prop}

def GivesJ (P : Program) (J : (Nat → Bool) → (Nat → Value) → World → Prop) (listed : Nat → Bool) (us : Nat → Value) (i : Nat) (w : World) (r : Result Next) : Prop :=
  (∃ u w', r = .ok (.value u) w' ∧ J (updB listed i) (updU us i u) w') ∨ (∃ w', r = .ok .skip w' ∧ J (updB listed i) (updU us i undef) w') ∨
  (∃ f args, r = .ok (.enter f args) w ∧ Calls P f args w fun e w' => ∃ u, e = .returned u ∧ J (updB listed i) (updU us i u) w')
def StepJ (P : Program) (ops : Array Oper) (J : (Nat → Bool) → (Nat → Value) → World → Prop) (listed : Nat → Bool) (us : Nat → Value) (i : Nat) (o : Oper) (a : Act) (w : World) : Prop :=
  (Region.wanted o (yielded ops a.tmps) = true ∧ GivesJ P J listed us i w ((execOp a.eval o).run P w)) ∨ (Region.wanted o (yielded ops a.tmps) = false ∧ J (updB listed i) (updU us i undef) w)
theorem StepJ.step {listed : Nat → Bool} {us : Nat → Value} {i : Nat} {o : Oper} {a : Act} {K : Act → World → Prop} {w : World} (hi : ops[i]? = some o) (hy : StepJ P ops J listed us i o a w)
    (h : ∀ u w', J (updB listed i) (updU us i u) w' → K (a.put o.dst u) w') : Go.wpOp P ops Q i K a w := by
  unfold Go.wpOp
  simp only [hi]
  rcases hy with ⟨hw, ⟨u, w', hr, h1⟩ | ⟨w', hr, h1⟩ | ⟨f, args, hr, hc⟩⟩ | ⟨hw, hp⟩
  · rw [if_pos hw]
    left
    simp only [Oper.wp, hr, Oper.upon]
    exact h u w' h1
  · rw [if_pos hw]
    left
    simp only [Oper.wp, hr, Oper.upon]
    exact h undef w' h1
  · rw [if_pos hw]
    left
    simp only [Oper.wp, hr, Oper.upon]
    refine Calls.mono hc ?_
    rintro e w'' ⟨u, rfl, h1⟩
    exact h u w'' h1
  · rw [if_neg (by simp [hw])]
    exact h undef w hp

theorem regJ_sound {a : Act}
    (hd : Dist ops.toList) (hlk : ∀ i o j o' d, ops[i]? = some o → ops[j]? = some o' → o'.dst = some d → d ∈ o.looksAt ops → waits ops i j = true)
    (hac : ∀ i o, ops[i]? = some o → ∀ e ∈ o.after, Region.binds .any e = true → e.on < i) (hsel : ∀ (j : Nat) (o : Oper) cs b, ops[j]? = some o → o.op ≠ .select cs b)
    (hstep : ∀ i o, ops[i]? = some o → ∀ listed us w, J listed us w → listed i = false → (∀ j, waits ops i j = true → listed j = true) → (∀ k m, listed k = true → waits ops k m = true → listed m = true) → StepJ P ops J listed us i o (putAll ops.toList 0 us a) w)
    (hdone : ∀ listed us w, (∀ j, j < ops.size → listed j = true) → J listed us w → Q .normal (putAll ops.toList 0 us a) w) :
    ∀ (fuel : Nat) (listed : Array Bool) (us : Nat → Value) (w : World), listed.size = ops.size → unl listed ops.size ≤ fuel → (∀ k m, listed.getD k false = true → waits ops k m = true → listed.getD m false = true) → J (fun j => listed.getD j false) us w → wpAny P .any ops Q fuel listed (putS (fun j => listed.getD j false) ops.toList 0 us a) w := by
  have hall : ∀ (listed : Array Bool) (us : Nat → Value) (w : World), listed.size = ops.size → (∀ j, j < ops.size → listed.getD j true = true) → J (fun j => listed.getD j false) us w → Q .normal (putS (fun j => listed.getD j false) ops.toList 0 us a) w := by
    intro listed us w hs hl hp
    have hl2 : ∀ j, j < ops.size → listed.getD j false = true := fun j hj => by
      have h1 : j < listed.size := by omega
      have := hl j hj
      simp [h1] at this ⊢
      exact this
    rw [putS_all _ _ _ _ fun m _ h => hl2 m (by simpa using h)]
    exact hdone _ us w hl2 hp
  intro fuel
  induction fuel with
  | zero =>
    intro listed us w hs hu hcl hp
    have hz := unl_zero (Nat.le_zero.1 hu)
    refine ⟨?_, hall listed us w hs hz hp⟩
    rw [List.eq_nil_iff_forall_not_mem]
    intro j hj
    obtain ⟨h1, o, ho, _⟩ := mem_ready.1 hj
    have := hz j (Array.getElem?_eq_some_iff.1 ho).1
    rw [h1] at this
    cases this
  | succ fuel ih =>
    intro listed us w hs hu hcl hp
    refine ⟨fun h0 => hall listed us w hs (fun j _ => ?_) hp, fun i hi => ?_⟩
    · cases hj : listed.getD j true with
      | true => rfl
      | false => exact absurd h0 (unlisted_ready hac hs j hj)
    · obtain ⟨h1, o, ho, hdep⟩ := mem_ready.1 hi
      have hin : i < ops.size := (Array.getElem?_eq_some_iff.1 ho).1
      have h1f : listed.getD i false = false := by
        have : i < listed.size := by omega
        simp [this] at h1 ⊢
        exact h1
      have hw2 : ∀ j, waits ops i j = true → listed.getD j false = true := fun j hj => by
        unfold waits at hj
        rw [ho] at hj
        obtain ⟨e, he, hb⟩ := List.any_eq_true.1 hj
        simp only [Bool.and_eq_true, beq_iff_eq] at hb
        rw [← hb.2]
        exact hdep e (by simpa using he) hb.1
      have hst := hstep i o ho _ us w hp h1f hw2 hcl
      have hsame : SameTo ops o (putS (fun j => listed.getD j false) ops.toList 0 us a) (putAll ops.toList 0 us a) := by
        refine same_puts _ 0 _ _ ⟨rfl, fun _ _ => rfl⟩ fun m o' ho' hm e he hle => ?_
        rw [Nat.zero_add] at hm
        have := hw2 m (hlk i o m o' e ho (by simpa using ho') he hle)
        rw [hm] at this
        cases this
      have hst2 : StepJ P ops J (fun j => listed.getD j false) us i o (putS (fun j => listed.getD j false) ops.toList 0 us a) w := by
        unfold StepJ at hst ⊢
        rw [hsame.exec (hsel i o · · ho), hsame.wanted]
        exact hst
      refine hst2.step ho fun u w' hJ => ?_
      have e1 : (fun j => (listed.setIfInBounds i true).getD j false) = updB (fun j => listed.getD j false) i := by
        funext j
        unfold updB
        by_cases e : j = i
        · subst e
          have : j < listed.size := by omega
          simp [this]
        · rw [if_neg e, getD_set_ne false (Ne.symm e)]
      have hput := putS_in (u := u) (listed := fun j => listed.getD j false) h1f ops.toList 0 us a (Nat.zero_le _) (by simpa using ho) hd
      rw [← hput, ← e1]
      refine ih _ _ w' (by simpa using hs) (by have := unl_set hin hs h1; omega) ?_ (by rw [e1]; exact hJ)
      intro k m hk hkm
      have e1' : ∀ j, (listed.setIfInBounds i true).getD j false = updB (fun j => listed.getD j false) i j := fun j => congrFun e1 j
      rw [e1'] at hk ⊢
      by_cases e3 : m = i
      · rw [e3, updB_eq]
      · rw [updB_ne _ e3]
        by_cases e2 : k = i
        · subst e2
          exact hw2 m hkm
        · rw [updB_ne _ e2] at hk
          exact hcl k m hk hkm

/-- THE REGION -/
theorem region_J {id : Nat} {a : Act} {w : World} (hm : P.follows .mixedOrders = true) (J : (Nat → Bool) → (Nat → Value) → World → Prop) (h0 : J (fun _ => false) (fun _ => undef) w.drew)
    (hd : distB ops = true) (hlk : looksB ops = true) (hb : backB2 ops = true) (hs : Region.noSelect ops = true)
    (hstep : ∀ listed us w, J listed us w → ∀ i o, ops[i]? = some o → listed i = false → (∀ j, waits ops i j = true → listed j = true) → (∀ k m, listed k = true → waits ops k m = true → listed m = true) → StepJ P ops J listed us i o (putAll ops.toList 0 us a) w)
    (hdone : ∀ listed us w, (∀ j, j < ops.size → listed j = true) → J listed us w → Q .normal (putAll ops.toList 0 us a) w) : (Code.region id ops true).wp P Q a w := by
  refine wp_region_any hm ?_
  have hac : ∀ i o, ops[i]? = some o → ∀ e ∈ o.after, Region.binds .any e = true → e.on < i := fun i o ho e he hbe => by
    have h1 := List.all_eq_true.1 hb i (List.mem_range.2 (Array.getElem?_eq_some_iff.1 ho).1)
    rw [ho] at h1
    have h2 := List.all_eq_true.1 h1 e (by simpa using he)
    rw [hbe] at h2
    exact of_decide_eq_true (by simpa using h2)
  have hl : ∀ i o j o' d, ops[i]? = some o → ops[j]? = some o' → o'.dst = some d → d ∈ o.looksAt ops → waits ops i j = true := fun i o j o' d ho ho' hd' hx => by
    have h1 := List.all_eq_true.1 (List.all_eq_true.1 hlk i (List.mem_range.2 (Array.getElem?_eq_some_iff.1 ho).1)) j (List.mem_range.2 (Array.getElem?_eq_some_iff.1 ho').1)
    simp only [ho, ho', hd'] at h1
    simpa [hx] using h1
  have hz : ∀ j, (Array.replicate ops.size false).getD j false = false := fun j => by
    by_cases h : j < ops.size
    · simp [h]
    · simp [h]
  have ez : (fun j => (Array.replicate ops.size false).getD j false) = fun _ => false := funext hz
  have := regJ_sound (P := P) (Q := Q) (a := a) (J := J) (dist_of (of_decide_eq_true hd)) hl hac (Region.noSelect_spec hs)
    (fun i o ho listed us w hJ h1 h2 h3 => hstep listed us w hJ i o ho h1 h2 h3) hdone ops.size (Array.replicate ops.size false) (fun _ => undef) w.drew (by simp) (Nat.le_trans List.countP_le_length (by simp)) (fun k m hk => by rw [hz] at hk; cases hk) (by rw [ez]; exact h0)
  rw [putS_none] at this
  · exact this
  · exact hz

/-! ### where the last operation waits for all others, and writes what others look at -/
theorem putS_last {listed : Nat → Bool} {o : Oper} {us : Nat → Value} : ∀ (l : List Oper) (k : Nat) (a : Act), listed (k + l.length) = false → putS listed (l ++ [o]) k us a = putS listed l k us a
  | [], k, a, h => by
    have h' : listed k = false := h
    show putS listed [o] k us a = a
    rw [putS, h']
    rfl
  | x :: l, k, a, h => by
    show putS listed (x :: (l ++ [o])) k us a = _
    rw [putS, putS]
    exact putS_last l (k + 1) _ (by rw [show k + 1 + l.length = k + (x :: l).length by simp; omega]; exact h)
def looksLB (ops : Array Oper) (st : Nat) : Bool := (List.range ops.size).all fun i => (List.range st).all fun j => match ops[i]?, ops[j]? with
  | some o, some o' => (match o'.dst with | some d => !(o.looksAt ops).contains d || waits ops i j | none => true)
  | _, _ => true
theorem regJL_sound {a : Act} (st : Nat) (hlast : ops.size = st + 1) (hlw : ∀ i, i < st → waits ops st i = true)
    (hd : Dist ops.toList) (hlk : ∀ i o j o' d, j < st → ops[i]? = some o → ops[j]? = some o' → o'.dst = some d → d ∈ o.looksAt ops → waits ops i j = true)
    (hac : ∀ i o, ops[i]? = some o → ∀ e ∈ o.after, Region.binds .any e = true → e.on < i) (hsel : ∀ (j : Nat) (o : Oper) cs b, ops[j]? = some o → o.op ≠ .select cs b)
    (hstep : ∀ i o, ops[i]? = some o → ∀ listed us w, J listed us w → listed i = false → (∀ j, waits ops i j = true → listed j = true) → (∀ k m, listed k = true → waits ops k m = true → listed m = true) → StepJ P ops J listed us i o (putAll (ops.toList.take st) 0 us a) w)
    (hdone : ∀ listed us w, (∀ j, j < ops.size → listed j = true) → J listed us w → Q .normal (putAll ops.toList 0 us a) w) :
    ∀ (fuel : Nat) (listed : Array Bool) (us : Nat → Value) (w : World), listed.size = ops.size → unl listed ops.size ≤ fuel → (∀ k m, listed.getD k false = true → waits ops k m = true → listed.getD m false = true) → J (fun j => listed.getD j false) us w → wpAny P .any ops Q fuel listed (putS (fun j => listed.getD j false) ops.toList 0 us a) w := by
  have hall : ∀ (listed : Array Bool) (us : Nat → Value) (w : World), listed.size = ops.size → (∀ j, j < ops.size → listed.getD j true = true) → J (fun j => listed.getD j false) us w → Q .normal (putS (fun j => listed.getD j false) ops.toList 0 us a) w := by
    intro listed us w hs hl hp
    have hl2 : ∀ j, j < ops.size → listed.getD j false = true := fun j hj => by
      have h1 : j < listed.size := by omega
      have := hl j hj
      simp [h1] at this ⊢
      exact this
    rw [putS_all _ _ _ _ fun m _ h => hl2 m (by simpa using h)]
    exact hdone _ us w hl2 hp
  intro fuel
  induction fuel with
  | zero =>
    intro listed us w hs hu hcl hp
    have hz := unl_zero (Nat.le_zero.1 hu)
    refine ⟨?_, hall listed us w hs hz hp⟩
    rw [List.eq_nil_iff_forall_not_mem]
    intro j hj
    obtain ⟨h1, o, ho, _⟩ := mem_ready.1 hj
    have := hz j (Array.getElem?_eq_some_iff.1 ho).1
    rw [h1] at this
    cases this
  | succ fuel ih =>
    intro listed us w hs hu hcl hp
    refine ⟨fun h0 => hall listed us w hs (fun j _ => ?_) hp, fun i hi => ?_⟩
    · cases hj : listed.getD j true with
      | true => rfl
      | false => exact absurd h0 (unlisted_ready hac hs j hj)
    · obtain ⟨h1, o, ho, hdep⟩ := mem_ready.1 hi
      have hin : i < ops.size := (Array.getElem?_eq_some_iff.1 ho).1
      have h1f : listed.getD i false = false := by
        have : i < listed.size := by omega
        simp [this] at h1 ⊢
        exact h1
      have hw2 : ∀ j, waits ops i j = true → listed.getD j false = true := fun j hj => by
        unfold waits at hj
        rw [ho] at hj
        obtain ⟨e, he, hb⟩ := List.any_eq_true.1 hj
        simp only [Bool.and_eq_true, beq_iff_eq] at hb
        rw [← hb.2]
        exact hdep e (by simpa using he) hb.1
      have hst := hstep i o ho _ us w hp h1f hw2 hcl
      have hstf : listed.getD st false = false := by
        by_cases e : i = st
        · rw [← e]; exact h1f
        · cases hq : listed.getD st false with
          | false => rfl
          | true =>
            have := hcl st i hq (hlw i (by omega))
            rw [h1f] at this
            cases this
      have hcut : putS (fun j => listed.getD j false) ops.toList 0 us a = putS (fun j => listed.getD j false) (ops.toList.take st) 0 us a := by
        have hst : st < ops.toList.length := by simp; omega
        have e1 : ops.toList = ops.toList.take st ++ [ops.toList[st]] := by
          rw [← List.take_succ_eq_append_getElem hst]
          exact (List.take_of_length_le (by simp; omega)).symm
        have e2 := putS_last (listed := fun j => listed.getD j false) (o := ops.toList[st]) (us := us) (ops.toList.take st) 0 a (by rw [List.length_take, Nat.min_eq_left (by omega), Nat.zero_add]; exact hstf)
        rw [← e1] at e2
        exact e2
      have hsame : SameTo ops o (putS (fun j => listed.getD j false) ops.toList 0 us a) (putAll (ops.toList.take st) 0 us a) := by
        rw [hcut]
        refine same_puts _ 0 _ _ ⟨rfl, fun _ _ => rfl⟩ fun m o' ho' hm e he hle => ?_
        rw [Nat.zero_add] at hm
        have hms : m < st := by
          have := (List.getElem?_eq_some_iff.1 ho').1
          rw [List.length_take] at this
          omega
        rw [List.getElem?_take, if_pos hms] at ho'
        have := hw2 m (hlk i o m o' e hms ho (by simpa using ho') he hle)
        rw [hm] at this
        cases this
      have hst2 : StepJ P ops J (fun j => listed.getD j false) us i o (putS (fun j => listed.getD j false) ops.toList 0 us a) w := by
        unfold StepJ at hst ⊢
        rw [hsame.exec (hsel i o · · ho), hsame.wanted]
        exact hst
      refine hst2.step ho fun u w' hJ => ?_
      have e1 : (fun j => (listed.setIfInBounds i true).getD j false) = updB (fun j => listed.getD j false) i := by
        funext j
        unfold updB
        by_cases e : j = i
        · subst e
          have : j < listed.size := by omega
          simp [this]
        · rw [if_neg e, getD_set_ne false (Ne.symm e)]
      have hput := putS_in (u := u) (listed := fun j => listed.getD j false) h1f ops.toList 0 us a (Nat.zero_le _) (by simpa using ho) hd
      rw [← hput, ← e1]
      refine ih _ _ w' (by simpa using hs) (by have := unl_set hin hs h1; omega) ?_ (by rw [e1]; exact hJ)
      intro k m hk hkm
      have e1' : ∀ j, (listed.setIfInBounds i true).getD j false = updB (fun j => listed.getD j false) i j := fun j => congrFun e1 j
      rw [e1'] at hk ⊢
      by_cases e3 : m = i
      · rw [e3, updB_eq]
      · rw [updB_ne _ e3]
        by_cases e2 : k = i
        · subst e2
          exact hw2 m hkm
        · rw [updB_ne _ e2] at hk
          exact hcl k m hk hkm

theorem region_JL {id : Nat} {a : Act} {w : World} (hm : P.follows .mixedOrders = true) (J : (Nat → Bool) → (Nat → Value) → World → Prop) (st : Nat) (hlast : ops.size = st + 1) (hlw : ((List.range st).all fun i => waits ops st i) = true) (h0 : J (fun _ => false) (fun _ => undef) w.drew)
    (hd : distB ops = true) (hlk : looksLB ops st = true) (hb : backB2 ops = true) (hs : Region.noSelect ops = true)
    (hstep : ∀ listed us w, J listed us w → ∀ i o, ops[i]? = some o → listed i = false → (∀ j, waits ops i j = true → listed j = true) → (∀ k m, listed k = true → waits ops k m = true → listed m = true) → StepJ P ops J listed us i o (putAll (ops.toList.take st) 0 us a) w)
    (hdone : ∀ listed us w, (∀ j, j < ops.size → listed j = true) → J listed us w → Q .normal (putAll ops.toList 0 us a) w) : (Code.region id ops true).wp P Q a w := by
  refine wp_region_any hm ?_
  have hac : ∀ i o, ops[i]? = some o → ∀ e ∈ o.after, Region.binds .any e = true → e.on < i := fun i o ho e he hbe => by
    have h1 := List.all_eq_true.1 hb i (List.mem_range.2 (Array.getElem?_eq_some_iff.1 ho).1)
    rw [ho] at h1
    have h2 := List.all_eq_true.1 h1 e (by simpa using he)
    rw [hbe] at h2
    exact of_decide_eq_true (by simpa using h2)
  have hl : ∀ i o j o' d, j < st → ops[i]? = some o → ops[j]? = some o' → o'.dst = some d → d ∈ o.looksAt ops → waits ops i j = true := fun i o j o' d hj ho ho' hd' hx => by
    have h1 := List.all_eq_true.1 (List.all_eq_true.1 hlk i (List.mem_range.2 (Array.getElem?_eq_some_iff.1 ho).1)) j (List.mem_range.2 hj)
    simp only [ho, ho', hd'] at h1
    simpa [hx] using h1
  have hz : ∀ j, (Array.replicate ops.size false).getD j false = false := fun j => by
    by_cases h : j < ops.size
    · simp [h]
    · simp [h]
  have ez : (fun j => (Array.replicate ops.size false).getD j false) = fun _ => false := funext hz
  have := regJL_sound (P := P) (Q := Q) (a := a) (J := J) st hlast (fun i hi => List.all_eq_true.1 hlw i (List.mem_range.2 hi)) (dist_of (of_decide_eq_true hd)) hl hac (Region.noSelect_spec hs)
    (fun i o ho listed us w hJ h1 h2 h3 => hstep listed us w hJ i o ho h1 h2 h3) hdone ops.size (Array.replicate ops.size false) (fun _ => undef) w.drew (by simp) (Nat.le_trans List.countP_le_length (by simp)) (fun k m hk => by rw [hz] at hk; cases hk) (by rw [ez]; exact h0)
  rw [putS_none] at this
  · exact this
  · exact hz
end
end Go.Proofs.Ytnoenccpbbkdeaa
