/- Copies of styles that a law makes and changes, each in its place. Conditions: the styles lie in a block of the law's own. -/
import Derived.Test.YtnoenccpbbkdeaaCh15
namespace Go.Proofs.Ytnoenccpbbkdeaa
open Go.ChangeShapes Go.WideShapes Go.ChangeAt Go.RowKit Go.Shelf
open Wh (Cr)
open Ch

/-- of the styles, the first k changed -/
def mixS (f : Nat → Sty → Sty) (ss : List Sty) (k : Nat) : List Sty := ss.mapIdx fun i s => if i < k then f i s else s
theorem mixS_len (f : Nat → Sty → Sty) (ss : List Sty) (k : Nat) : (mixS f ss k).length = ss.length := by simp [mixS]
theorem mixS_at {f : Nat → Sty → Sty} {ss : List Sty} {k i : Nat} {s : Sty} (h : ss[i]? = some s) : (mixS f ss k)[i]? = some (if i < k then f i s else s) := by simp [mixS, h]
theorem mixS_zero (f : Nat → Sty → Sty) (ss : List Sty) : mixS f ss 0 = ss := by
  apply List.ext_getElem?
  intro i
  simp [mixS]
theorem mixS_set {f : Nat → Sty → Sty} {ss : List Sty} {k : Nat} {s : Sty} (h : ss[k]? = some s) : (mixS f ss k).set k (f k s) = mixS f ss (k + 1) := by
  have hk := (List.getElem?_eq_some_iff.1 h).1
  apply List.ext_getElem?
  intro i
  by_cases e : i = k
  · subst e
    rw [mixS_at h, List.getElem?_set_self (by rw [mixS_len]; exact hk), if_pos (by omega)]
  · rw [List.getElem?_set_ne (by omega)]
    cases hi : ss[i]? with
    | none =>
      have : ss.length ≤ i := by simpa using hi
      rw [List.getElem?_eq_none (by rw [mixS_len]; exact this), List.getElem?_eq_none (by rw [mixS_len]; exact this)]
    | some t =>
      rw [mixS_at hi, mixS_at hi]
      congr 1
      by_cases h2 : i < k
      · rw [if_pos h2, if_pos (by omega)]
      · rw [if_neg h2, if_neg (by omega)]
theorem mixS_all {f : Nat → Sty → Sty} {ss : List Sty} {k : Nat} (hk : ss.length ≤ k) {p : Sty → Prop} (hp : ∀ i s, p (f i s)) : ∀ s ∈ mixS f ss k, p s := fun s hs => by
  obtain ⟨i, hi⟩ := List.getElem?_of_mem hs
  have hil := (List.getElem?_eq_some_iff.1 hi).1
  rw [mixS_len] at hil
  obtain ⟨t, ht⟩ := at_ (l := ss) (k := i) hil
  rw [mixS_at ht, if_pos (by omega)] at hi
  injection hi with hi
  subst hi
  exact hp _ _
theorem mixS_map {f : Sty → Sty} {ss : List Sty} {k : Nat} (hk : ss.length ≤ k) : mixS (fun _ => f) ss k = ss.map f := by
  apply List.ext_getElem?
  intro i
  cases hi : ss[i]? with
  | none =>
    have : ss.length ≤ i := by simpa using hi
    rw [List.getElem?_eq_none (by rw [mixS_len]; exact this), List.getElem?_map, hi]
    rfl
  | some t =>
    have hil := (List.getElem?_eq_some_iff.1 hi).1
    rw [mixS_at hi, if_pos (by omega), List.getElem?_map, hi]
    rfl

/-- block g begins with the styles l -/
def StP (w : World) (g : Nat) (l : List Sty) : Prop := ∃ cur, Blk w g 36 cur ∧ l.length * 9 ≤ cur.size ∧ ∀ (i : Nat) (s : Sty), l[i]? = some s → ∀ (j : Nat) (v : Value), s.cells[j]? = some v → cur[i * 9 + j]? = some v
theorem StP.keep {S : Nat → Prop} {w w' : World} {g : Nat} {l : List Sty} (h : StP w g l) (m : Mod S w w') (hS : ¬ S g) : StP w' g l := by
  obtain ⟨cur, B, h2, h3⟩ := h
  exact ⟨cur, B.keep m hS, h2, h3⟩
theorem StP.below {w w' : World} {g : Nat} {l : List Sty} (h : StP w g l) (b : Below w.heap.size w w') : StP w' g l := h.keep (S := fun _ => False) (Mod.of_below b) id
theorem StP.lt {w : World} {g : Nat} {l : List Sty} (h : StP w g l) : g < w.heap.size := by
  obtain ⟨cur, B, _⟩ := h
  exact B.lt
theorem StP.of_own {w : World} {base g n c : Nat} {l : List Sty} (h : w.ownsRow base 36 9 (.slice (some ⟨g, 0, none⟩) n c) n (flatS l)) (hn : l.length = n) : StP w g l ∧ base ≤ g := by
  subst hn
  rcases h.2 with ⟨hv, _⟩ | ⟨g', cap, cur, hv, hb, hg, h1, _, h3, h4⟩
  · cases hv
  · injection hv with e1 _ e2
    injection e1 with e1
    injection e1 with e1 _ _
    subst e1 e2
    refine ⟨⟨cur, hg, by rw [h3]; exact Nat.mul_le_mul_right 9 h1, fun i s hi j v hj => ?_⟩, hb⟩
    have h5 := flat_get 9 (l.map fun s => s.cells.toList) (fun x hx => by obtain ⟨s, _, rfl⟩ := List.mem_map.1 hx; rfl) i s.cells.toList (by rw [List.getElem?_map, hi]; rfl) j v (by simpa using hj)
    have h6 : (flatS l)[i * 9 + j]? = some v := h5
    rw [← h4, List.getElem?_take] at h6
    split at h6
    · simpa using h6
    · cases h6
theorem StP.ss {w : World} {g n c : Nat} {l : List Sty} (h : StP w g l) (hn : l.length = n) : Ss w (.slice (some ⟨g, 0, none⟩) n c) l := by
  subst hn
  obtain ⟨cur, B, h2, h3⟩ := h
  refine .inr ⟨⟨g, 0, none⟩, c, by rw [List.length_map], .inr ⟨B.lt, id⟩, fun i x hx j u hj => ?_⟩
  rw [List.getElem?_map] at hx
  cases hi : l[i]? with
  | none => rw [hi] at hx; cases hx
  | some s =>
    rw [hi] at hx
    injection hx with hx
    subst hx
    rw [add0, B.cell]
    exact h3 i s hi j u (by simpa using hj)
theorem StP.cell {w : World} {g : Nat} {l : List Sty} (h : StP w g l) {i : Nat} {s : Sty} (hi : l[i]? = some s) (j : Nat) {v : Value} (hv : s.cells[j]? = some v) : w.cell? ⟨g, i * 9 + j, none⟩ = some v ∧ w.frozen? ⟨g, i * 9 + j, none⟩ = false := by
  obtain ⟨cur, B, h2, h3⟩ := h
  exact ⟨(B.cell _).trans (h3 i s hi j v hv), B.frozen _⟩
theorem StP.set {w : World} {g : Nat} {l : List Sty} (h : StP w g l) {i : Nat} {s s' : Sty} (hi : l[i]? = some s) (f : Nat) (hf : f < 9) (u : Value) (hu : s'.cells = s.cells.setIfInBounds f u) : StP (w.setCell ⟨g, i * 9 + f, none⟩ u) g (l.set i s') := by
  obtain ⟨cur, B, h2, h3⟩ := h
  have hil := (List.getElem?_eq_some_iff.1 hi).1
  have hrow := row_le (k := 9) hil
  refine ⟨cur.setIfInBounds (i * 9 + f) u, B.set_ _ _, by simpa using h2, fun k t hk j v hj => ?_⟩
  have hj9 : j < 9 := (Array.getElem?_eq_some_iff.1 hj).1
  by_cases e : k = i
  · subst e
    rw [List.getElem?_set_self hil] at hk
    injection hk with hk
    subst hk
    rw [hu] at hj
    by_cases e2 : j = f
    · subst e2
      rw [Array.getElem?_setIfInBounds_self_of_lt (show j < s.cells.size from hj9)] at hj
      rw [Array.getElem?_setIfInBounds_self_of_lt (by omega)]
      exact hj
    · rw [Array.getElem?_setIfInBounds_ne (Ne.symm e2)] at hj
      rw [Array.getElem?_setIfInBounds_ne (by omega)]
      exact h3 k s hi j v hj
  · rw [List.getElem?_set_ne (Ne.symm e)] at hk
    rw [Array.getElem?_setIfInBounds_ne (by omega)]
    exact h3 k t hk j v hj

/-! ### empty literals -/
theorem own_none (t : TypeId) (size base : Nat) (W : World) (hb : base ≤ W.heap.size) : (W.alloc (.cells #[] t)).ownsRow base t size (.slice (some ⟨W.heap.size, 0, none⟩) 0 0) 0 [] :=
  ⟨by simp, .inr ⟨W.heap.size, 0, #[], rfl, hb, Blk.new W _ _, Nat.le_refl _, by unfold maxLen; omega, by simp, by simp⟩⟩
section
variable {ops : Array Oper} {Q : Exit → Act → World → Prop} {a : Act} {w : World} {rest : List Oper} {o : Oper}
theorem bs0G {P : Program} {T E : TypeId} (hg : o.guard = none) (ho : o.op = .buildSlice T 0 #[]) (size : Nat) (hrun : ∀ w, (Instr.buildSlice T 0 #[]).run P w = .ok (.slice (some ⟨w.heap.size, 0, none⟩) 0 0) (w.alloc (.cells #[] E)))
    (h : ∀ w', Below w.heap.size w w' → w'.ownsRow w.heap.size E size (.slice (some ⟨w.heap.size, 0, none⟩) 0 0) 0 [] → wpList P ops Q rest (a.put o.dst (.slice (some ⟨w.heap.size, 0, none⟩) 0 0)) w') : wpList P ops Q (o :: rest) a w := by
  refine wpList_valIf (wanted_none hg _) _ rfl _ _ ?_ (h _ (below_alloc w _) (own_none E size _ w (Nat.le_refl _)))
  unfold execOp
  simp only [ho, List.map_toArray, List.map_nil, Sem.run_bind, hrun, Sem.run_pure, Result.andThen_ok]
end
section
variable {P : Program} {ops : Array Oper} {Q : Exit → Act → World → Prop} {a : Act} {w : World} {rest : List Oper} {o : Oper}
/-- an append onto a slice that is not nil -/
theorem app_some {T E : TypeId} {size bytes : Nat} (hE : Elm P T E size bytes) {base n m g0 c0 : Nat} {v2 : Value} {xs ys : List Value} (hO : w.ownsRow base E size (.slice (some ⟨g0, 0, none⟩) n c0) n xs) (hR : Flat w v2 m ys) (hys : ys.length = m * size) (h1 : ∀ u ∈ ys, u.oneCell' = true) (hb : base ≤ w.heap.size) (hlen : n + m ≤ 4194304) (ty : TypeId) :
    ∃ g c w', (Builtin.append_ #[T, T] ty #[.slice (some ⟨g0, 0, none⟩) n c0, v2]).run P w = .ok (.slice (some ⟨g, 0, none⟩) (n + m) c) w' ∧ w'.ownsRow base E size (.slice (some ⟨g, 0, none⟩) (n + m) c) (n + m) (xs ++ ys) ∧ Below base w w' := by
  obtain ⟨z, hi0, hzc⟩ := hE.info
  obtain ⟨i0, hi, hz0, hz1, hz2⟩ := info_agg hi0
  rcases hR with ⟨rfl, rfl, rfl⟩ | ⟨ad, cap, rfl, hc⟩
  · rw [List.append_nil]
    exact ⟨_, _, w, run_append_owned_none w base T ty E i0 size hE.und hi _ _ _ hO, hO, Below.refl _ _⟩
  · have hsm := hE.small
    obtain ⟨v', w', hr, h2, h3, h4, _⟩ := run_append_own_at (P := P) w base T ty E i0 z size bytes hE.und hi hz0 hz1 hz2 hzc hE.pos _ n xs hO ad m cap ys hys hc h1 (by unfold maxLen; omega) (Nat.le_trans (Nat.mul_le_mul hlen hsm) (by omega)) hb
    have bl : Below base w w' := below_grew h3 hb fun g hg => by
      rcases hO.2 with ⟨hv, _⟩ | ⟨g', cap', cur, hv, hb', _⟩
      · cases hv
      · injection hv with e1 _ _
        injection e1 with e1
        injection e1 with e1 _ _
        subst e1
        have e : g0 = g := by simpa [Value.ownBlock] using hg
        omega
    rcases h2.2 with ⟨hv, _⟩ | ⟨g', cap', cur, hv, _⟩
    · have := (h4.1 hv).1
      cases this
    · subst hv
      exact ⟨g', cap', w', hr, h2, bl⟩
theorem wpList_appS {T E : TypeId} {size bytes : Nat} (hE : Elm P T E size bytes) (hg : o.guard = none) (s x : Operand) (ho : o.op = .call { callee := .builtin .append, args := #[s, x], argTypes := #[T, T] }) {base n m g0 c0 : Nat} {v2 : Value} (hs : a.eval s = .slice (some ⟨g0, 0, none⟩) n c0) (hx : a.eval x = v2)
    (xs ys : List Value) (hO : w.ownsRow base E size (.slice (some ⟨g0, 0, none⟩) n c0) n xs) (hR : Flat w v2 m ys) (hys : ys.length = m * size) (h1 : ∀ u ∈ ys, u.oneCell' = true) (hb : base ≤ w.heap.size) (hlen : n + m ≤ 4194304)
    (h : ∀ g c w', w'.ownsRow base E size (.slice (some ⟨g, 0, none⟩) (n + m) c) (n + m) (xs ++ ys) → Below base w w' → wpList P ops Q rest (a.put o.dst (.slice (some ⟨g, 0, none⟩) (n + m) c)) w') : wpList P ops Q (o :: rest) a w := by
  obtain ⟨g, c, w', hr, h2, h3⟩ := app_some hE hO hR hys h1 hb hlen o.type
  exact wpList_valIf (wanted_none hg _) _ rfl _ w' (run_op_app s x ho hs hx hr) (h g c w' h2 h3)
end
theorem elmS : Elm Try.prog 23 36 9 48 := ⟨Try.underlying23, ⟨.agg Sty.zero.cells, by kernel_rfl, rfl⟩, by decide, by decide⟩
theorem b0S (w : World) : (Instr.buildSlice 23 0 #[]).run Try.prog w = .ok (.slice (some ⟨w.heap.size, 0, none⟩) 0 0) (w.alloc (.cells #[] 36)) := by kernel_rfl
theorem ssFlat {W : World} {v : Value} {l : List Sty} (h : Ss W v l) : Flat W v l.length (flatS l) := by
  have := RowN.flat h (fun x hx => by obtain ⟨s, _, rfl⟩ := List.mem_map.1 hx; rfl)
  rwa [List.length_map] at this
theorem flatS_len (l : List Sty) : (flatS l).length = l.length * 9 := by
  induction l with
  | nil => rfl
  | cons s t ih => show (s.cells.toList ++ flatS t).length = _; rw [List.length_append, ih, List.length_cons]; show 9 + _ = _; omega
theorem flatS_one (l : List Sty) : ∀ u ∈ flatS l, u.oneCell' = true := fun u hu => by
  obtain ⟨x, hx, h2⟩ := List.mem_flatten.1 hu
  obtain ⟨s, _, rfl⟩ := List.mem_map.1 hx
  exact (Array.all_eq_true_iff_forall_mem.1 (one23 s)) u (by simpa using h2)
end Go.Proofs.Ytnoenccpbbkdeaa
