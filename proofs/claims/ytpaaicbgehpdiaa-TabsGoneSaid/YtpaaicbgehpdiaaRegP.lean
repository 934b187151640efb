/- A region that draws its order, of operations that make memory and hand back what they have made, each with a fact (phi) on its value that hangs on the values of those that it waits for alone: shown once, in the order of the text. For any layer. No walk. -/
import Derived.Test.YtpaaicbgehpdiaaYTail
namespace Go.Proofs.Ytpaaicbgehpdiaa
open Go.ChangeShapes Go.WideShapes Go.ChangeAt Go.RowKit

section
variable {P : Program} {ops : Array Oper} {Q : Exit → Act → World → Prop} {S : World → Prop} {Φ : Nat → Value → World → Prop}

/-- the slots of the operations l, numbered from k, filled with us: of those that are listed -/
def putS (listed : Nat → Bool) : List Oper → Nat → (Nat → Value) → Act → Act
  | [], _, _, a => a
  | o :: l, k, us, a => putS listed l (k + 1) us (if listed k then a.put o.dst (us k) else a)
/-- all of them -/
def putAll : List Oper → Nat → (Nat → Value) → Act → Act
  | [], _, _, a => a
  | o :: l, k, us, a => putAll l (k + 1) us (a.put o.dst (us k))
theorem putS_all {listed : Nat → Bool} : ∀ (l : List Oper) (k : Nat) (us : Nat → Value) (a : Act), (∀ m, k ≤ m → m < k + l.length → listed m = true) → putS listed l k us a = putAll l k us a
  | [], _, _, _, _ => rfl
  | o :: l, k, us, a, h => by
    rw [putS, putAll, if_pos (h k (Nat.le_refl _) (by simp))]
    exact putS_all l (k + 1) us _ fun m h1 h2 => h m (by omega) (by simp at h2 ⊢; omega)
theorem putS_none {listed : Nat → Bool} : ∀ (l : List Oper) (k : Nat) (us : Nat → Value) (a : Act), (∀ m, listed m = false) → putS listed l k us a = a
  | [], _, _, _, _ => rfl
  | o :: l, k, us, a, h => by
    rw [putS, h k]
    exact putS_none l (k + 1) us a h
theorem putS_out {listed : Nat → Bool} {d : Option Tmp} {u : Value} : ∀ (l : List Oper) (k : Nat) (us : Nat → Value) (a : Act), (∀ o ∈ l, ∀ e, d = some e → o.dst ≠ some e) → putS listed l k us (a.put d u) = (putS listed l k us a).put d u
  | [], _, _, _, _ => rfl
  | o :: l, k, us, a, h => by
    rw [putS, putS]
    have h1 := h o (List.mem_cons_self ..)
    have ih := fun a => putS_out (listed := listed) (d := d) (u := u) l (k + 1) us a fun o ho => h o (List.mem_cons_of_mem _ ho)
    split
    · rw [Act.put_comm a u (us k) h1, ih]
    · exact ih a
def updB (listed : Nat → Bool) (i j : Nat) : Bool := if j = i then true else listed j
def updU (us : Nat → Value) (i : Nat) (u : Value) (j : Nat) : Value := if j = i then u else us j
theorem updB_eq (listed : Nat → Bool) (i : Nat) : updB listed i i = true := if_pos rfl
theorem updB_ne (listed : Nat → Bool) {i j : Nat} (h : j ≠ i) : updB listed i j = listed j := if_neg h
theorem updU_eq (us : Nat → Value) (i : Nat) (u : Value) : updU us i u i = u := if_pos rfl
theorem updU_ne (us : Nat → Value) {i j : Nat} (u : Value) (h : j ≠ i) : updU us i u j = us j := if_neg h
theorem putS_above {listed : Nat → Bool} {i : Nat} {u : Value} : ∀ (l : List Oper) (k : Nat) (us : Nat → Value) (a : Act), i < k → putS (updB listed i) l k (updU us i u) a = putS listed l k us a
  | [], _, _, _, _ => rfl
  | o :: l, k, us, a, h => by
    rw [putS, putS, updB_ne _ (by omega), updU_ne _ _ (by omega)]
    exact putS_above l (k + 1) us _ (by omega)
/-- no two write one slot -/
def Dist (l : List Oper) : Prop := l.Pairwise fun x y => ∀ e, x.dst = some e → y.dst ≠ some e
theorem putS_in {listed : Nat → Bool} {i : Nat} {u : Value} {oi : Oper} (hi : listed i = false) : ∀ (l : List Oper) (k : Nat) (us : Nat → Value) (a : Act), k ≤ i → l[i - k]? = some oi → Dist l → putS (updB listed i) l k (updU us i u) a = (putS listed l k us a).put oi.dst u
  | [], _, _, _, _, h, _ => by simp at h
  | o :: l, k, us, a, hk, h, hd => by
    obtain ⟨h1, h2⟩ := List.pairwise_cons.1 hd
    by_cases e : i = k
    · subst e
      rw [Nat.sub_self] at h
      obtain rfl : o = oi := by simpa using h
      rw [putS, putS, hi, updB_eq, updU_eq]
      simp only [if_true, Bool.false_eq_true, if_false]
      rw [putS_above l (i + 1) us _ (by omega), putS_out l (i + 1) us a fun x hx e he => h1 x hx e he]
    · rw [putS, putS, updB_ne _ (fun h => e h.symm), updU_ne _ _ (fun h => e h.symm)]
      refine putS_in hi l (k + 1) us _ (by omega) ?_ h2
      rw [show i - k = (i - (k + 1)) + 1 by omega] at h
      simpa using h

/-- both frames say the same to operation o -/
structure SameTo (ops : Array Oper) (o : Oper) (a b : Act) : Prop where
  size : a.tmps.size = b.tmps.size
  at_ : ∀ d ∈ o.looksAt ops, a.tmps[d]? = b.tmps[d]?
theorem SameTo.put {o : Oper} {a b : Act} (h : SameTo ops o a b) (d : Option Tmp) (u : Value) : SameTo ops o (a.put d u) (b.put d u) := by
  cases d with
  | none => exact h
  | some d =>
    refine ⟨by simp [Act.put, h.size], fun e he => ?_⟩
    simp only [Act.put, Array.getElem?_setIfInBounds]
    rw [h.size, h.at_ e he]
theorem SameTo.right {o : Oper} {a b : Act} (h : SameTo ops o a b) {d : Option Tmp} (u : Value) (hd : ∀ e, d = some e → e ∉ o.looksAt ops) : SameTo ops o a (b.put d u) := by
  cases d with
  | none => exact h
  | some d =>
    refine ⟨by simp [Act.put, h.size], fun e he => ?_⟩
    have hne : d ≠ e := fun x => hd d rfl (x ▸ he)
    simp only [Act.put, Array.getElem?_setIfInBounds_ne hne]
    exact h.at_ e he
theorem same_puts {listed : Nat → Bool} {o : Oper} {us : Nat → Value} : ∀ (l : List Oper) (k : Nat) (a b : Act), SameTo ops o a b → (∀ m o', l[m]? = some o' → listed (k + m) = false → ∀ e, o'.dst = some e → e ∉ o.looksAt ops) → SameTo ops o (putS listed l k us a) (putAll l k us b)
  | [], _, _, _, h, _ => h
  | x :: l, k, a, b, h, hn => by
    rw [putS, putAll]
    refine same_puts l (k + 1) _ _ ?_ fun m o' ho hm => hn (m + 1) o' (by simpa using ho) (by rw [show k + (m + 1) = k + 1 + m by omega]; exact hm)
    cases hk : listed k with
    | true => exact h.put _ _
    | false => exact h.right _ (hn 0 x rfl hk)
theorem SameTo.exec {o : Oper} {a b : Act} (h : SameTo ops o a b) (hs : ∀ cs c, o.op ≠ .select cs c) : execOp a.eval o = execOp b.eval o :=
  execOp_congr o hs fun x hx => by
    cases x with
    | tmp t =>
      have := h.at_ t (List.mem_append_left _ (List.mem_filterMap.2 ⟨.tmp t, by simpa using hx, rfl⟩))
      simp [Act.eval, this]
    | _ => rfl
theorem SameTo.wanted {o : Oper} {a b : Act} (h : SameTo ops o a b) : Region.wanted o (yielded ops a.tmps) = Region.wanted o (yielded ops b.tmps) := by
  unfold Region.wanted
  cases hg : o.guard with
  | none => rfl
  | some gw =>
    obtain ⟨g, want⟩ := gw
    have hy : yielded ops a.tmps g = yielded ops b.tmps g := by
      unfold yielded
      cases ht : (ops[g]?).bind (·.dst) with
      | none => rfl
      | some t =>
        have := h.at_ t (by simp [Oper.looksAt, hg, ht])
        simp [this]
    simp only [hy]

/-- what one operation leaves -/
def GivesP (P : Program) (Φ : Nat → Value → World → Prop) (i : Nat) (w : World) (r : Result Next) : Prop :=
  (∃ u w', r = .ok (.value u) w' ∧ Below w.heap.size w w' ∧ Φ i u w') ∨
  (∃ f args, r = .ok (.enter f args) w ∧ Calls P f args w fun e w' => ∃ u, e = .returned u ∧ Below w.heap.size w w' ∧ Φ i u w')
def StepP (P : Program) (ops : Array Oper) (Φ : Nat → Value → World → Prop) (i : Nat) (o : Oper) (a : Act) (w : World) : Prop :=
  (Region.wanted o (yielded ops a.tmps) = true ∧ GivesP P Φ i w ((execOp a.eval o).run P w)) ∨ (Region.wanted o (yielded ops a.tmps) = false ∧ Φ i undef w)
theorem StepP.step {i : Nat} {o : Oper} {a : Act} {K : Act → World → Prop} {w : World} (hi : ops[i]? = some o) (hy : StepP P ops Φ i o a w)
    (h : ∀ u w', Below w.heap.size w w' → Φ i u w' → K (a.put o.dst u) w') : Go.wpOp P ops Q i K a w := by
  unfold Go.wpOp
  simp only [hi]
  rcases hy with ⟨hw, ⟨u, w', hr, hb, hp⟩ | ⟨f, args, hr, hc⟩⟩ | ⟨hw, hp⟩
  · rw [if_pos hw]
    left
    simp only [Oper.wp, hr, Oper.upon]
    exact h u w' hb hp
  · rw [if_pos hw]
    left
    simp only [Oper.wp, hr, Oper.upon]
    refine Calls.mono hc ?_
    rintro e w'' ⟨u, rfl, hb, hp⟩
    exact h u w'' hb hp
  · rw [if_neg (by simp [hw])]
    exact h undef w (Below.refl _ _) hp

/-- operation i waits for operation j -/
def waits (ops : Array Oper) (i j : Nat) : Bool := match ops[i]? with
  | some o => o.after.toList.any fun e => Region.binds .any e && e.on == j
  | none => false
def distB (ops : Array Oper) : Bool := decide ((ops.toList.filterMap (·.dst)).Nodup)
/-- what an operation looks at, and another one writes: it waits for that one -/
def looksB (ops : Array Oper) : Bool := (List.range ops.size).all fun i => (List.range ops.size).all fun j => match ops[i]?, ops[j]? with
  | some o, some o' => (match o'.dst with | some d => !(o.looksAt ops).contains d || waits ops i j | none => true)
  | _, _ => true
theorem dist_of : ∀ {l : List Oper}, (l.filterMap (·.dst)).Nodup → Dist l
  | [], _ => List.Pairwise.nil
  | o :: l, h => by
    refine List.pairwise_cons.2 ⟨fun y hy e he hye => ?_, ?_⟩
    · rw [List.filterMap_cons, he] at h
      exact (List.nodup_cons.1 h).1 (List.mem_filterMap.2 ⟨y, hy, hye⟩)
    · rw [List.filterMap_cons] at h
      split at h
      · exact dist_of h
      · exact dist_of (List.nodup_cons.1 h).2

def unl (listed : Array Bool) (n : Nat) : Nat := (List.range n).countP fun j => !listed.getD j true
theorem unl_zero {listed : Array Bool} {n : Nat} (h : unl listed n = 0) : ∀ j, j < n → listed.getD j true = true := fun j hj => by
  have := List.countP_eq_zero.1 h j (List.mem_range.2 hj)
  simpa using this
theorem countP_one {p q : Nat → Bool} {i : Nat} (hp : p i = true) (hq : q i = false) (hs : ∀ j, j ≠ i → q j = p j) : ∀ L : List Nat, L.Nodup → L.countP q + (if i ∈ L then 1 else 0) = L.countP p
  | [], _ => rfl
  | x :: L, h => by
    obtain ⟨h1, h2⟩ := List.nodup_cons.1 h
    have ih := countP_one hp hq hs L h2
    rw [List.countP_cons, List.countP_cons]
    by_cases e : x = i
    · subst e
      rw [if_neg h1] at ih
      simp [hp, hq]
      omega
    · rw [hs x e]
      have : (i ∈ x :: L) ↔ i ∈ L := by
        rw [List.mem_cons]
        exact ⟨fun h => h.resolve_left fun h => e h.symm, .inr⟩
      simp only [this]
      omega
theorem unl_set {listed : Array Bool} {n i : Nat} (hi : i < n) (hs : listed.size = n) (h : listed.getD i true = false) : unl (listed.setIfInBounds i true) n + 1 = unl listed n := by
  have := countP_one (p := fun j => !listed.getD j true) (q := fun j => !(listed.setIfInBounds i true).getD j true) (i := i) (by simp at h ⊢; exact h) (by simp [hs, hi]) (fun j hj => by simp only [getD_set_ne true (Ne.symm hj)]) (List.range n) List.nodup_range
  rw [if_pos (List.mem_range.2 hi)] at this
  exact this

theorem regP_sound (hS : ∀ w w', S w → Below w.heap.size w w' → S w') (hΦ : ∀ j u w w', Φ j u w → Below w.heap.size w w' → Φ j u w') {a : Act}
    (hd : Dist ops.toList) (hlk : ∀ i o j o' d, ops[i]? = some o → ops[j]? = some o' → o'.dst = some d → d ∈ o.looksAt ops → waits ops i j = true)
    (hac : ∀ i o, ops[i]? = some o → ∀ e ∈ o.after, Region.binds .any e = true → e.on < i) (hsel : ∀ (j : Nat) (o : Oper) cs b, ops[j]? = some o → o.op ≠ .select cs b)
    (hstep : ∀ i o, ops[i]? = some o → ∀ us w, S w → (∀ j, waits ops i j = true → Φ j (us j) w) → StepP P ops Φ i o (putAll ops.toList 0 us a) w)
    (hdone : ∀ us w, S w → (∀ j, j < ops.size → Φ j (us j) w) → Q .normal (putAll ops.toList 0 us a) w) :
    ∀ (fuel : Nat) (listed : Array Bool) (us : Nat → Value) (w : World), listed.size = ops.size → unl listed ops.size ≤ fuel → S w → (∀ j, listed.getD j false = true → Φ j (us j) w) → wpAny P .any ops Q fuel listed (putS (fun j => listed.getD j false) ops.toList 0 us a) w := by
  have hall : ∀ (listed : Array Bool) (us : Nat → Value) (w : World), listed.size = ops.size → (∀ j, j < ops.size → listed.getD j true = true) → S w → (∀ j, listed.getD j false = true → Φ j (us j) w) → Q .normal (putS (fun j => listed.getD j false) ops.toList 0 us a) w := by
    intro listed us w hs hl hw hp
    have hl2 : ∀ j, j < ops.size → listed.getD j false = true := fun j hj => by
      have h1 : j < listed.size := by omega
      have := hl j hj
      simp [h1] at this ⊢
      exact this
    rw [putS_all _ _ _ _ fun m _ h => hl2 m (by simpa using h)]
    exact hdone us w hw fun j hj => hp j (hl2 j hj)
  intro fuel
  induction fuel with
  | zero =>
    intro listed us w hs hu hw hp
    have hz := unl_zero (Nat.le_zero.1 hu)
    refine ⟨?_, hall listed us w hs hz hw hp⟩
    rw [List.eq_nil_iff_forall_not_mem]
    intro j hj
    obtain ⟨h1, o, ho, _⟩ := mem_ready.1 hj
    have := hz j (Array.getElem?_eq_some_iff.1 ho).1
    rw [h1] at this
    cases this
  | succ fuel ih =>
    intro listed us w hs hu hw hp
    refine ⟨fun h0 => hall listed us w hs (fun j _ => ?_) hw hp, fun i hi => ?_⟩
    · cases hj : listed.getD j true with
      | true => rfl
      | false => exact absurd h0 (unlisted_ready hac hs j hj)
    · obtain ⟨h1, o, ho, hdep⟩ := mem_ready.1 hi
      have hin : i < ops.size := (Array.getElem?_eq_some_iff.1 ho).1
      have h1f : listed.getD i false = false := by
        have : i < listed.size := by omega
        simp [this] at h1 ⊢
        exact h1
      have hw2 : ∀ j, waits ops i j = true → listed.getD j false = true := fun j hj => by
        unfold waits at hj
        rw [ho] at hj
        obtain ⟨e, he, hb⟩ := List.any_eq_true.1 hj
        simp only [Bool.and_eq_true, beq_iff_eq] at hb
        rw [← hb.2]
        exact hdep e (by simpa using he) hb.1
      have hst := hstep i o ho us w hw fun j hj => hp j (hw2 j hj)
      have hsame : SameTo ops o (putS (fun j => listed.getD j false) ops.toList 0 us a) (putAll ops.toList 0 us a) := by
        refine same_puts _ 0 _ _ ⟨rfl, fun _ _ => rfl⟩ fun m o' ho' hm e he hle => ?_
        rw [Nat.zero_add] at hm
        have := hw2 m (hlk i o m o' e ho (by simpa using ho') he hle)
        rw [hm] at this
        cases this
      have hst2 : StepP P ops Φ i o (putS (fun j => listed.getD j false) ops.toList 0 us a) w := by
        unfold StepP at hst ⊢
        rw [hsame.exec (hsel i o · · ho), hsame.wanted]
        exact hst
      refine hst2.step ho fun u w' hb hpi => ?_
      have e1 : (fun j => (listed.setIfInBounds i true).getD j false) = updB (fun j => listed.getD j false) i := by
        funext j
        unfold updB
        by_cases e : j = i
        · subst e
          have : j < listed.size := by omega
          simp [this]
        · rw [if_neg e, getD_set_ne false (Ne.symm e)]
      have hput := putS_in (u := u) (listed := fun j => listed.getD j false) h1f ops.toList 0 us a (Nat.zero_le _) (by simpa using ho) hd
      rw [← hput, ← e1]
      refine ih _ _ w' (by simpa using hs) (by have := unl_set hin hs h1; omega) (hS w w' hw hb) fun j hj => ?_
      unfold updU
      by_cases e : j = i
      · subst e
        rw [if_pos rfl]
        exact hpi
      · rw [if_neg e]
        rw [getD_set_ne false (Ne.symm e)] at hj
        exact hΦ _ _ _ _ (hp j hj) hb

/-- THE REGION -/
theorem region_P {id : Nat} {a : Act} {w : World} (hm : P.follows .mixedOrders = true) (S : World → Prop) (hS : ∀ w w', S w → Below w.heap.size w w' → S w') (Φ : Nat → Value → World → Prop) (hΦ : ∀ j u w w', Φ j u w → Below w.heap.size w w' → Φ j u w') (h0 : S w.drew)
    (hd : distB ops = true) (hlk : looksB ops = true) (hb : backB ops = true) (hs : Region.noSelect ops = true)
    (hstep : ∀ us w, S w → ∀ i o, ops[i]? = some o → (∀ j, waits ops i j = true → Φ j (us j) w) → StepP P ops Φ i o (putAll ops.toList 0 us a) w)
    (hdone : ∀ us w, S w → (∀ j, j < ops.size → Φ j (us j) w) → Q .normal (putAll ops.toList 0 us a) w) : (Code.region id ops true).wp P Q a w := by
  refine wp_region_any hm ?_
  have hac : ∀ i o, ops[i]? = some o → ∀ e ∈ o.after, Region.binds .any e = true → e.on < i := fun i o ho e he _ => by
    have h1 := List.all_eq_true.1 hb i (List.mem_range.2 (Array.getElem?_eq_some_iff.1 ho).1)
    rw [ho] at h1
    exact of_decide_eq_true (List.all_eq_true.1 h1 e (by simpa using he))
  have hl : ∀ i o j o' d, ops[i]? = some o → ops[j]? = some o' → o'.dst = some d → d ∈ o.looksAt ops → waits ops i j = true := fun i o j o' d ho ho' hd' hx => by
    have h1 := List.all_eq_true.1 (List.all_eq_true.1 hlk i (List.mem_range.2 (Array.getElem?_eq_some_iff.1 ho).1)) j (List.mem_range.2 (Array.getElem?_eq_some_iff.1 ho').1)
    simp only [ho, ho', hd'] at h1
    simpa [hx] using h1
  have := regP_sound (P := P) (Q := Q) (a := a) hS hΦ (dist_of (of_decide_eq_true hd)) hl hac (Region.noSelect_spec hs) (fun i o ho us w hw hx => hstep us w hw i o ho hx) hdone ops.size (Array.replicate ops.size false) (fun _ => undef) w.drew (by simp) (Nat.le_trans List.countP_le_length (by simp)) h0 (fun j hj => by
    by_cases h : j < ops.size
    · simp [h] at hj
    · simp [h] at hj)
  rw [putS_none] at this
  · exact this
  · intro m
    by_cases h : m < ops.size
    · simp [h]
    · simp [h]
end
end Go.Proofs.Ytpaaicbgehpdiaa
