/- Plain facts on nodes' styles: each node's from its parent's; each part from the nearest node that says it. No walk. -/
import Derived.Test.YtejcfhfmdijimaaDoorYMath
namespace Go.Proofs.YtejcfhfmdijimaaDoor

/-- each parent is below its node, or -1 -/
def okP (ps : List Int) : Prop := ∀ i, i < ps.length → -1 ≤ ps.getD i 0 ∧ ps.getD i 0 < i
def okD (ds : List Dcl) : Prop := ∀ i, i < ds.length → vldD (ds.getD i .zero) = true
/-- what stands above: base, or a node's style -/
def upV (base : Sty) (l : List Sty) (p : Int) : Sty := if 0 ≤ p then l.getD p.toNat .zero else base
/-- the first k nodes' styles -/
def styK (base : Sty) (ps : List Int) (ds : List Dcl) : Nat → List Sty
  | 0 => []
  | k + 1 => styK base ps ds k ++ [over (upV base (styK base ps ds k) (ps.getD k 0)) (ds.getD k .zero)]
theorem styK_len (base : Sty) (ps : List Int) (ds : List Dcl) (k : Nat) : (styK base ps ds k).length = k := by
  induction k with
  | zero => rfl
  | succ k ih => simp [styK, ih]
theorem styK_get (base : Sty) (ps : List Int) (ds : List Dcl) (i : Nat) : ∀ k m, i < k → i < m → (styK base ps ds k).getD i .zero = (styK base ps ds m).getD i .zero := by
  have key : ∀ k, i < k → (styK base ps ds k).getD i .zero = (styK base ps ds (i + 1)).getD i .zero := by
    intro k hk
    induction k with
    | zero => omega
    | succ k ih =>
      by_cases e : k = i
      · rw [e]
      · rw [← ih (by omega)]
        have hl := styK_len base ps ds k
        simp only [styK, List.getD_eq_getElem?_getD]
        rw [List.getElem?_append_left (by omega)]
  intro k m hk hm
  rw [key k hk, key m hm]
/-- a node's style, by its parent's -/
theorem styK_at (base : Sty) (ps : List Int) (ds : List Dcl) (n : Nat) (hp : okP ps) (hn : n ≤ ps.length) (i : Nat) (hi : i < n) :
    (styK base ps ds n).getD i .zero = over (upV base (styK base ps ds n) (ps.getD i 0)) (ds.getD i .zero) := by
  rw [styK_get base ps ds i n (i + 1) hi (by omega)]
  have hl := styK_len base ps ds i
  obtain ⟨h1, h2⟩ := hp i (by omega)
  have e : upV base (styK base ps ds i) (ps.getD i 0) = upV base (styK base ps ds n) (ps.getD i 0) := by
    unfold upV
    split
    · exact styK_get base ps ds _ i n (by omega) (by omega)
    · rfl
  rw [← e]
  simp only [styK, List.getD_eq_getElem?_getD]
  rw [List.getElem?_append_right (by omega), hl, Nat.sub_self]
  rfl

/-! ### a part of a style -/
theorem put1_over_no (i : Nat) (hi : i < 8) (x s : Sty) (d : Dcl) (h : d.n.testBit i = false) : put1 i x (over s d) = put1 i x s := by
  revert h
  refine eight (p := fun i => d.n.testBit i = false → put1 i x (over s d) = put1 i x s) ?_ ?_ ?_ ?_ ?_ ?_ ?_ ?_ i hi <;> (intro h; simp [put1, over, ovk, h])
theorem put1_over_yes (i : Nat) (hi : i < 8) (x s : Sty) (d : Dcl) (h : d.n.testBit i = true) : put1 i x (over s d) = put1 i x d.s := by
  revert h
  refine eight (p := fun i => d.n.testBit i = true → put1 i x (over s d) = put1 i x d.s) ?_ ?_ ?_ ?_ ?_ ?_ ?_ ?_ i hi <;> (intro h; simp [put1, over, ovk, h])
theorem mix_step (i : Nat) (hi : i < 8) (b t : Sty) : ovk (i + 1) b 255 t = put1 i (ovk i b 255 t) t :=
  ovk_yes i hi b 255 t (eight (p := fun k => (255 : Nat).testBit k = true) (by decide) (by decide) (by decide) (by decide) (by decide) (by decide) (by decide) (by decide) i hi)
theorem mix_base (i : Nat) (hi : i < 8) (b t : Sty) : put1 i (ovk i b 255 t) b = ovk i b 255 t := by
  refine eight (p := fun i => put1 i (ovk i b 255 t) b = ovk i b 255 t) ?_ ?_ ?_ ?_ ?_ ?_ ?_ ?_ i hi <;> simp [put1, ovk]
theorem mix_eight (b t : Sty) : ovk 8 b 255 t = t := by
  have h : ∀ k, k < 8 → (255 : Nat).testBit k = true := eight (p := fun k => (255 : Nat).testBit k = true) (by decide) (by decide) (by decide) (by decide) (by decide) (by decide) (by decide) (by decide)
  simp [ovk, h 0, h 1, h 2, h 3, h 4, h 5, h 6, h 7]

/-! ### the answer -/

/-- the list under way: the first k, then zeros -/
def styZ (base : Sty) (ps : List Int) (ds : List Dcl) (n k : Nat) : List Sty := styK base ps ds k ++ List.replicate (n - k) .zero
theorem styZ_len (base : Sty) (ps : List Int) (ds : List Dcl) (n k : Nat) (h : k ≤ n) : (styZ base ps ds n k).length = n := by
  simp [styZ, styK_len]
  omega
theorem styZ_zero (base : Sty) (ps : List Int) (ds : List Dcl) (n : Nat) : styZ base ps ds n 0 = List.replicate n .zero := by simp [styZ, styK]
theorem styZ_full (base : Sty) (ps : List Int) (ds : List Dcl) (n : Nat) : styZ base ps ds n n = styK base ps ds n := by simp [styZ]
theorem styZ_get (base : Sty) (ps : List Int) (ds : List Dcl) (n k i : Nat) (h : i < k) : (styZ base ps ds n k)[i]? = some ((styK base ps ds k).getD i .zero) := by
  have hl := styK_len base ps ds k
  unfold styZ
  rw [List.getElem?_append_left (by omega), List.getD_eq_getElem?_getD, List.getElem?_eq_getElem (by omega)]
  rfl
theorem styZ_set (base : Sty) (ps : List Int) (ds : List Dcl) (n k : Nat) (h : k < n) :
    (styZ base ps ds n k).set k (over (upV base (styK base ps ds k) (ps.getD k 0)) (ds.getD k .zero)) = styZ base ps ds n (k + 1) := by
  have hl := styK_len base ps ds k
  unfold styZ
  rw [List.set_append_right _ _ (by omega), hl, Nat.sub_self, show n - k = (n - (k + 1)) + 1 by omega, List.replicate_succ, List.set_cons_zero]
  simp [styK]
end Go.Proofs.YtejcfhfmdijimaaDoor
