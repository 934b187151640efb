/- Facts for StyleInherits: a node that says another thing; rows of declarations of the call's own; a row of bools. No walk. -/
import Derived.Test.YthdihhfbkfenmaaYApp
import Derived.Test.YthdihhfbkfenmaaYLawM
import Derived.Test.YthdihhfbkfenmaaYOpen
namespace Go.Proofs.Ythdihhfbkfenmaa
open Go.ChangeShapes Go.WideShapes Go.ChangeAt Go.RowKit

/-! ### lists -/
theorem over_n0 (s : Sty) (d : Dcl) (h : d.n = 0) : over s d = s := by simp [over, ovk, h]
theorem set_getD {ds : List Dcl} {q k : Nat} {d : Dcl} (hk : k < ds.length) : (ds.set q d).getD k .zero = if k = q then d else ds.getD k .zero := by
  rw [List.getD_eq_getElem?_getD, List.getD_eq_getElem?_getD]
  by_cases e : k = q
  · subst e
    rw [List.getElem?_set_self hk, if_pos rfl]
    rfl
  · rw [List.getElem?_set_ne (fun h => e h.symm), if_neg e]
theorem okD_set {ds : List Dcl} {q : Nat} {d : Dcl} (h : okD ds) (hd : vldD d = true) : okD (ds.set q d) := fun i hi => by
  rw [List.length_set] at hi
  rw [set_getD hi]
  split
  · exact hd
  · exact h i hi
theorem wf_set {ds : List Dcl} {q : Nat} {d : Dcl} (h : Wf16 ds) (hd : d.n < 65536) : Wf16 (ds.set q d) := fun i hi => by
  rw [List.length_set] at hi
  rw [set_getD hi]
  split
  · exact hd
  · exact h i hi

/-! ### rows -/
theorem flat_inv (k : Nat) : ∀ (rows : List (List Value)), (∀ x ∈ rows, x.length = k) → ∀ (j : Nat) (u : Value), rows.flatten[j]? = some u → ∃ i x j', rows[i]? = some x ∧ x[j']? = some u ∧ j = i * k + j'
  | [], _, j, u, h => by simp at h
  | r :: rows, hk, j, u, h => by
    have hr := hk r (List.mem_cons_self ..)
    rw [List.flatten_cons] at h
    by_cases hj : j < r.length
    · rw [List.getElem?_append_left hj] at h
      exact ⟨0, r, j, rfl, h, by simp⟩
    · rw [List.getElem?_append_right (by omega)] at h
      obtain ⟨i, x, j', h1, h2, h3⟩ := flat_inv k rows (fun x hx => hk x (List.mem_cons_of_mem _ hx)) _ u h
      exact ⟨i + 1, x, j', by simpa using h1, h2, by rw [Nat.succ_mul]; omega⟩
def flatD (l : List Dcl) : List Value := (l.map fun s => s.cells.toList).flatten
theorem flatD_len (l : List Dcl) : (flatD l).length = l.length * 10 := by
  unfold flatD
  induction l with
  | nil => rfl
  | cons d l ih =>
    rw [List.map_cons, List.flatten_cons, List.length_append, ih, List.length_cons, Nat.succ_mul]
    show 10 + l.length * 10 = l.length * 10 + 10
    omega
theorem flatD_one (l : List Dcl) : ∀ u ∈ flatD l, u.oneCell' = true := fun u hu => by
  obtain ⟨x, hx, hu2⟩ := List.mem_flatten.1 hu
  obtain ⟨d, _, rfl⟩ := List.mem_map.1 hx
  exact (Array.all_eq_true_iff_forall_mem.1 (one26 d)) u (by simpa using hu2)
theorem Ds.flat {w : World} {a : Addr} {n c : Nat} {ds : List Dcl} (h : Ds w (.slice (some a) n c) ds) : ∀ j u, (flatD ds)[j]? = some u → w.cell? (a.add j) = some u := fun j u hu => by
  obtain ⟨i, x, j', h1, h2, h3⟩ := flat_inv 10 _ (fun x hx => by obtain ⟨d, _, rfl⟩ := List.mem_map.1 hx; rfl) j u hu
  rcases h with ⟨h, _⟩ | ⟨a', cap', hv, _, hc⟩
  · cases h
  · injection hv with hv1 _ _
    injection hv1 with hv1
    subst hv1
    rw [h3]
    exact hc i x h1 j' u h2
theorem infoD : (Try.prog.info? 26).map (fun i => (i.zero, i.size, i.bytes)) = some (some (.agg Dcl.zero.cells), 10, 56) := by kernel_rfl
theorem own_empty (w : World) (base : Nat) (hb : base ≤ w.heap.size) : (w.alloc (.cells #[] 26)).ownsRow base 26 10 (.slice (some ⟨w.heap.size, 0, none⟩) 0 0) 0 [] :=
  ⟨rfl, .inr ⟨w.heap.size, 0, #[], rfl, hb, heap_alloc_new w _, Nat.le_refl _, Nat.zero_le _, rfl, rfl⟩⟩
/-- a row of the call's own, with one element stored -/
theorem own_set {w w' : World} {g n cap q : Nat} {cur : Array Value} {ds : List Dcl} {d : Dcl} (hl : ds.length = n) (hc : n ≤ cap) (hsz : cur.size = cap * 10) (ht : cur.toList.take (n * 10) = flatD ds) (hq : q < n)
    (hB : Blk w' g 26 (spl cur (q * 10) d.cells.toList)) (_hw : Below 0 w w') : Ds w' (.slice (some ⟨g, 0, none⟩) n cap) (ds.set q d) := by
  subst hl
  have hle : q * 10 + d.cells.toList.length ≤ cur.size := by
    have h1 := row_le (k := 10) hq
    have h2 := Nat.mul_le_mul_right 10 hc
    rw [hsz]
    show q * 10 + 10 ≤ _
    omega
  refine .inr ⟨⟨g, 0, none⟩, cap, by simp, .inr ⟨hB.lt, id⟩, fun i x hx j u hu => ?_⟩
  have hadd : (⟨g, 0, none⟩ : Addr).add (i * 10 + j) = ⟨g, i * 10 + j, none⟩ := by unfold Addr.add; split <;> simp_all
  rw [hadd, hB.cell]
  rw [List.getElem?_map] at hx
  by_cases e : i = q
  · subst e
    rw [List.getElem?_set_self hq] at hx
    injection hx with hx
    subst hx
    rw [spl_in _ _ _ hle j (List.getElem?_eq_some_iff.1 hu).1]
    exact hu
  · rw [List.getElem?_set_ne (fun h => e h.symm)] at hx
    cases hdi : ds[i]? with
    | none => rw [hdi] at hx; cases hx
    | some di =>
      have hin : i < ds.length := (List.getElem?_eq_some_iff.1 hdi).1
      rw [hdi] at hx
      injection hx with hx
      subst hx
      have hj : j < 10 := (List.getElem?_eq_some_iff.1 hu).1
      rw [spl_out _ _ _ hle _ (by show i * 10 + j < q * 10 ∨ q * 10 + 10 ≤ _; exact row_apart e hj)]
      have h3 := flat_get 10 (ds.map fun s => s.cells.toList) (fun x hx => by obtain ⟨d, _, rfl⟩ := List.mem_map.1 hx; rfl) i di.cells.toList (by rw [List.getElem?_map, hdi]; rfl) j u hu
      have h4 : (flatD ds)[i * 10 + j]? = some u := h3
      rw [← ht, List.getElem?_take_of_lt (by have := row_le (k := 10) hin; omega)] at h4
      simpa using h4

/-! ### bools -/
theorem infoB : (Try.prog.info? 4).map (fun i => (i.zero, i.size, i.bytes)) = some (some (.bool false), 1, 1) := by kernel_rfl
theorem mkB (n : Nat) (hn : n ≤ 1000) (w : World) :
    (Instr.makeSlice 57 (.int .i64 (n : Int)) (.int .i64 (n : Int))).run Try.prog w = .ok (.slice (some ⟨w.heap.size, 0, none⟩) n n) (w.alloc (.cells (madeCells #[.bool false] n) 4)) := by
  obtain ⟨i0, hi, hz0, hz1, hz2⟩ := info_agg infoB
  have := run_make_aggs (P := Try.prog) 57 4 i0 (.bool false) Try.underlying57 hi hz0 .i64 .i64 n n (Nat.le_refl _) (by rw [hz2]; omega) (by omega) w
  rw [hz1, Nat.mul_one] at this
  exact this
/-- which of the first k are not below the node: their styles are the same -/
def BR (A B : List Sty) (n k : Nat) (cs : Array Value) : Prop := cs.size = n ∧ ∀ i, i < n → ∃ b, cs[i]? = some (.bool b) ∧ (i < k → b = false → A.getD i .zero = B.getD i .zero)
theorem BR.start (A B : List Sty) (n : Nat) : BR A B n 0 (madeCells #[.bool false] n) := ⟨size_madeCells _ _, fun i hi => ⟨false, by
  have := made_get #[.bool false] 1 n i 0 rfl hi (by omega)
  rw [show i * 1 + 0 = i by omega, Nat.mul_one] at this
  exact this, fun h => by omega⟩⟩
theorem BR.step {A B : List Sty} {n k : Nat} {cs : Array Value} (h : BR A B n k cs) {b : Bool} (hk : k < n) (hb : b = false → A.getD k .zero = B.getD k .zero) : BR A B n (k + 1) (cs.setIfInBounds k (.bool b)) := by
  refine ⟨by simpa using h.1, fun i hi => ?_⟩
  by_cases e : i = k
  · subst e
    exact ⟨b, Array.getElem?_setIfInBounds_self_of_lt (by rw [h.1]; exact hk), fun _ hb2 => hb hb2⟩
  · obtain ⟨c, h1, h2⟩ := h.2 i hi
    exact ⟨c, by rw [Array.getElem?_setIfInBounds_ne (fun h => e h.symm)]; exact h1, fun h3 h4 => h2 (by omega) h4⟩
theorem bxC (z : Int) (d : Dcl) (w : World) : (Instr.box 56 (.agg (chg z d))).run Try.prog w = .ok (.pointer (some ⟨w.heap.size, 0, none⟩)) (w.alloc (.cells (chg z d) 56)) := by kernel_rfl
theorem chg_d (z : Int) (d : Dcl) : ∀ (j : Nat) (v : Value), d.cells[j]? = some v → (chg z d)[1 + j]? = some v := fun j v hv => by
  have hj : j < 10 := (Array.getElem?_eq_some_iff.1 hv).1
  match j, hj with
  | 0, _ => exact hv
  | 1, _ => exact hv
  | 2, _ => exact hv
  | 3, _ => exact hv
  | 4, _ => exact hv
  | 5, _ => exact hv
  | 6, _ => exact hv
  | 7, _ => exact hv
  | 8, _ => exact hv
  | 9, _ => exact hv
end Go.Proofs.Ythdihhfbkfenmaa
