/- Plain facts on styles and declarations: a style with some parts of another one, part by part; which may be; merging. No walk. -/
import Derived.Test.YtnoenccpbbkdeaaBase
import Derived.Laws.BitsAllLaws
namespace Go.Proofs.Ytnoenccpbbkdeaa

/-- a style's numbers, in the order of its fields -/
structure Sty where
  a0 : Int
  a1 : Int
  a2 : Int
  a3 : Int
  a4 : Int
  a5 : Int
  a6 : Int
  a7 : Int
  a8 : Int
deriving DecidableEq

/-- a declaration: its bits, its style -/
structure Dcl where
  n : Nat
  s : Sty
deriving DecidableEq

def Sty.zero : Sty := ⟨0, 0, 0, 0, 0, 0, 0, 0, 0⟩
def Sty.first : Sty := ⟨0, 0, 0, 0, 8, 0, 1024, 0, 0⟩
def Dcl.zero : Dcl := ⟨0, .zero⟩

/-- the parts below k that n says, of d; all others of s -/
def ovk (k : Nat) (s : Sty) (n : Nat) (d : Sty) : Sty :=
  ⟨if decide (0 < k) && n.testBit 0 then d.a0 else s.a0, if decide (1 < k) && n.testBit 1 then d.a1 else s.a1, if decide (2 < k) && n.testBit 2 then d.a2 else s.a2,
   if decide (3 < k) && n.testBit 3 then d.a3 else s.a3, if decide (4 < k) && n.testBit 4 then d.a4 else s.a4, if decide (5 < k) && n.testBit 5 then d.a5 else s.a5,
   if decide (6 < k) && n.testBit 6 then d.a6 else s.a6, if decide (7 < k) && n.testBit 7 then d.a7 else s.a7, if decide (7 < k) && n.testBit 7 then d.a8 else s.a8⟩
def over (s : Sty) (d : Dcl) : Sty := ovk 8 s d.n d.s

/-- s, with the part i of d -/
def put1 (i : Nat) (s d : Sty) : Sty :=
  ⟨if i = 0 then d.a0 else s.a0, if i = 1 then d.a1 else s.a1, if i = 2 then d.a2 else s.a2, if i = 3 then d.a3 else s.a3, if i = 4 then d.a4 else s.a4,
   if i = 5 then d.a5 else s.a5, if i = 6 then d.a6 else s.a6, if 7 ≤ i then d.a7 else s.a7, if 7 ≤ i then d.a8 else s.a8⟩

theorem ovk_zero (s : Sty) (n : Nat) (d : Sty) : ovk 0 s n d = s := by simp [ovk]
theorem eight {p : Nat → Prop} (h0 : p 0) (h1 : p 1) (h2 : p 2) (h3 : p 3) (h4 : p 4) (h5 : p 5) (h6 : p 6) (h7 : p 7) : ∀ k, k < 8 → p k := by
  intro k hk
  match k, hk with
  | 0, _ => exact h0
  | 1, _ => exact h1
  | 2, _ => exact h2
  | 3, _ => exact h3
  | 4, _ => exact h4
  | 5, _ => exact h5
  | 6, _ => exact h6
  | 7, _ => exact h7
theorem ovk_yes (k : Nat) (hk : k < 8) (s : Sty) (n : Nat) (d : Sty) (h : n.testBit k = true) : ovk (k + 1) s n d = put1 k (ovk k s n d) d := by
  revert h
  refine eight (p := fun k => n.testBit k = true → ovk (k + 1) s n d = put1 k (ovk k s n d) d) ?_ ?_ ?_ ?_ ?_ ?_ ?_ ?_ k hk <;> (intro h; simp [ovk, put1, h])
theorem ovk_no (k : Nat) (hk : k < 8) (s : Sty) (n : Nat) (d : Sty) (h : n.testBit k = false) : ovk (k + 1) s n d = ovk k s n d := by
  revert h
  refine eight (p := fun k => n.testBit k = false → ovk (k + 1) s n d = ovk k s n d) ?_ ?_ ?_ ?_ ?_ ?_ ?_ ?_ k hk <;> (intro h; simp [ovk, h])

/-! ### which may be -/
def vld1 (i : Nat) (s : Sty) : Bool :=
  match i with
  | 0 => decide (s.a0 ≤ 5)
  | 1 => decide (s.a1 ≤ 2)
  | 2 => decide (s.a2 ≤ 1)
  | 3 => decide (s.a3 ≤ 3)
  | 4 => decide (0 ≤ s.a4 ∧ s.a4 ≤ 64)
  | 5 => decide (0 ≤ s.a5 ∧ s.a5 ≤ 63)
  | 6 => decide (0 ≤ s.a6 ∧ s.a6 ≤ 1073741824)
  | _ => decide (s.a7 ≤ 2 ∧ 0 ≤ s.a8 ∧ s.a8 ≤ 1073741824)
def vld (s : Sty) : Bool := vld1 0 s && (vld1 1 s && (vld1 2 s && (vld1 3 s && (vld1 4 s && (vld1 5 s && (vld1 6 s && vld1 7 s))))))
def chk (s : Sty) : Int := if vld s then 0 else 60
def vldD (d : Dcl) : Bool := decide (d.n ≤ 255) && (decide (over .zero d = d.s) && vld d.s)
def chkD (d : Dcl) : Int := if vldD d then 0 else 60

theorem chk_cases (s : Sty) : (vld s = true ∧ chk s = 0) ∨ (vld s = false ∧ chk s = 60) := by
  unfold chk
  cases vld s <;> simp
theorem chkD_cases (d : Dcl) : (vldD d = true ∧ chkD d = 0) ∨ (vldD d = false ∧ chkD d = 60) := by
  unfold chkD
  cases vldD d <;> simp

theorem vld_no (s : Sty) (k : Nat) (hk : k < 8) (h : vld1 k s = false) : vld s = false := by
  revert h
  refine eight (p := fun k => vld1 k s = false → vld s = false) ?_ ?_ ?_ ?_ ?_ ?_ ?_ ?_ k hk <;> (intro h; simp [vld, h])
theorem vld_yes (s : Sty) (h : ∀ i, i < 8 → vld1 i s = true) : vld s = true := by
  simp [vld, h 0 (by omega), h 1 (by omega), h 2 (by omega), h 3 (by omega), h 4 (by omega), h 5 (by omega), h 6 (by omega), h 7 (by omega)]
theorem upto_succ {p : Nat → Prop} {k : Nat} (h : ∀ i, i < k → p i) (hk : p k) : ∀ i, i < k + 1 → p i := fun i hi => by
  by_cases e : i = k
  · rw [e]; exact hk
  · exact h i (by omega)
theorem chk_no (s : Sty) (k : Nat) (hk : k < 8) (h : vld1 k s = false) : chk s = 60 := by
  unfold chk; rw [vld_no s k hk h]; rfl
theorem chk_yes (s : Sty) (h : ∀ i, i < 8 → vld1 i s = true) : chk s = 0 := by
  unfold chk; rw [vld_yes s h]; rfl
/-- the first style, part by part -/
def fsk (k : Nat) : Sty := ovk k .zero 255 .first
theorem fsk_succ (k : Nat) (hk : k < 8) : fsk (k + 1) = put1 k (fsk k) .first :=
  ovk_yes k hk _ _ _ (eight (p := fun k => (255 : Nat).testBit k = true) (by decide) (by decide) (by decide) (by decide) (by decide) (by decide) (by decide) (by decide) k hk)
theorem fsk_eight : fsk 8 = .first := by decide
theorem fsk_zero : fsk 0 = .zero := by decide

/-! ### answers -/
def resV (s : Sty) (d : Dcl) : Sty := if vld s && vldD d then over s d else .zero
def resE (s : Sty) (d : Dcl) : Int := if vld s && vldD d then 0 else 60
def mrg (a b : Dcl) : Dcl := ⟨a.n ||| b.n, over a.s b⟩
def mrgV (a b : Dcl) : Dcl := if vldD a && vldD b then mrg a b else .zero
def mrgE (a b : Dcl) : Int := if vldD a && vldD b then 0 else 60
end Go.Proofs.Ytnoenccpbbkdeaa

/- Facts on the bits of 16-bit numbers, as a walk spells them; merged declarations' bits. No walk. -/
namespace Go.Proofs.Ytnoenccpbbkdeaa
open Go.ChangeShapes Go.WideShapes Go.ChangeAt Go.RowKit

theorem and_pow_yes (n k : Nat) (h : n.testBit k = true) : n &&& 2 ^ k = 2 ^ k := by
  apply Nat.eq_of_testBit_eq
  intro i
  rw [Nat.testBit_and, Nat.testBit_two_pow]
  by_cases e : k = i
  · subst e; simp [h]
  · simp [e]
theorem and_pow_no (n k : Nat) (h : n.testBit k = false) : n &&& 2 ^ k = 0 := by
  apply Nat.eq_of_testBit_eq
  intro i
  rw [Nat.testBit_and, Nat.testBit_two_pow]
  by_cases e : k = i
  · subst e; simp [h]
  · simp [e]
theorem bit_yes (n k p : Nat) (hn : n < 65536) (h : n.testBit k = true) (hp : 2 ^ k = p) (hq : p < 65536) : bits .and .u16 (n : Int) (p : Int) = (p : Int) := by
  rw [u16_and_nat n p hn hq, ← hp, and_pow_yes n k h]
theorem bit_no (n k p : Nat) (hn : n < 65536) (h : n.testBit k = false) (hp : 2 ^ k = p) (hq : p < 65536) : bits .and .u16 (n : Int) (p : Int) = 0 := by
  rw [u16_and_nat n p hn hq, ← hp, and_pow_no n k h]
  rfl
theorem shr_yes (n k p : Nat) (hn : n < 65536) (h : n.testBit k = true) (hp : 2 ^ k = p) : bits .and .u16 ((n : Int) / (p : Int)) 1 = 1 := by
  have hlt : n / p < 65536 := Nat.lt_of_le_of_lt (Nat.div_le_self _ _) hn
  have e := u16_and_nat (n / p) 1 hlt (by omega)
  rw [Nat.testBit_eq_decide_div_mod_eq, hp] at h
  have h2 := of_decide_eq_true h
  rw [Nat.and_one_is_mod, h2] at e
  rw [← Int.natCast_ediv]
  exact e
theorem shr_no (n k p : Nat) (hn : n < 65536) (h : n.testBit k = false) (hp : 2 ^ k = p) : bits .and .u16 ((n : Int) / (p : Int)) 1 = 0 := by
  have hlt : n / p < 65536 := Nat.lt_of_le_of_lt (Nat.div_le_self _ _) hn
  have e := u16_and_nat (n / p) 1 hlt (by omega)
  rw [Nat.testBit_eq_decide_div_mod_eq, hp] at h
  have h2 := of_decide_eq_false h
  rw [Nat.and_one_is_mod, show n / p % 2 = 0 by omega] at e
  rw [← Int.natCast_ediv]
  exact e
theorem high_zero (n : Nat) (hn : n < 65536) : n &&& 65280 = 0 ↔ n ≤ 255 := by
  have e : (n &&& 65280) >>> 8 = n / 256 := by
    rw [Nat.shiftRight_and_distrib, Nat.shiftRight_eq_div_pow, show (65280 : Nat) >>> 8 = 2 ^ 8 - 1 from rfl, Nat.and_two_pow_sub_one_eq_mod]
    omega
  constructor
  · intro h
    rw [h] at e
    simp at e
    omega
  · intro h
    apply Nat.eq_of_testBit_eq
    intro i
    rw [Nat.testBit_and, Nat.zero_testBit]
    by_cases hi : i < 8
    · have h2 : (65280 : Nat).testBit i = false := by
        rw [show (65280 : Nat) = 255 <<< 8 from rfl, Nat.testBit_shiftLeft]
        have h8 : ¬ i ≥ 8 := by omega
        rw [decide_eq_false h8]
        rfl
      simp [h2]
    · have h2 : n.testBit i = false := Nat.testBit_lt_two_pow (Nat.lt_of_lt_of_le (show n < 2 ^ 8 by omega) (Nat.pow_le_pow_right (by omega) (by omega)))
      simp [h2]
theorem not_yes (n : Nat) (hn : n ≤ 255) : bits .andNot .u16 (n : Int) 255 = 0 := by
  have e := u16_andNot_nat n 255 (by omega) (by omega)
  rw [show 65535 - 255 = 65280 from rfl, (high_zero n (by omega)).2 hn] at e
  exact e
theorem not_no (n : Nat) (hn : n < 65536) (h : ¬ n ≤ 255) : (bits .andNot .u16 (n : Int) 255 != 0) = true := by
  have e := u16_andNot_nat n 255 (by omega) (by omega)
  rw [show 65535 - 255 = 65280 from rfl] at e
  have e2 : bits .andNot .u16 (n : Int) 255 = ((n &&& 65280 : Nat) : Int) := e
  rw [e2]
  have h2 : ¬ n &&& 65280 = 0 := fun h3 => h ((high_zero n hn).1 h3)
  simp
  omega

/-! ### the bits of what two declarations say -/
theorem mod_step_yes (x k : Nat) (h : x.testBit k = true) : x % 2 ^ k ||| 2 ^ k = x % 2 ^ (k + 1) := by
  apply Nat.eq_of_testBit_eq
  intro i
  rw [Nat.testBit_or, Nat.testBit_mod_two_pow, Nat.testBit_mod_two_pow, Nat.testBit_two_pow]
  by_cases e : k = i
  · subst e; simp [h]
  · by_cases hi : i < k
    · have : i < k + 1 := by omega
      simp [hi, this, e]
    · have : ¬ i < k + 1 := by omega
      simp [hi, this, e]
theorem mod_step_no (x k : Nat) (h : x.testBit k = false) : x % 2 ^ k = x % 2 ^ (k + 1) := by
  apply Nat.eq_of_testBit_eq
  intro i
  rw [Nat.testBit_mod_two_pow, Nat.testBit_mod_two_pow]
  by_cases e : k = i
  · subst e; simp [h]
  · by_cases hi : i < k
    · have : i < k + 1 := by omega
      simp [hi, this]
    · have : ¬ i < k + 1 := by omega
      simp [hi, this]
theorem or_lt (a b : Nat) (ha : a ≤ 255) (hb : b ≤ 255) : a ||| b ≤ 255 := by
  have := Nat.or_lt_two_pow (x := a) (y := b) (n := 8) (by omega) (by omega)
  omega
theorem or_lt16 (a b : Nat) (ha : a < 65536) (hb : b < 65536) : a ||| b < 65536 := Nat.or_lt_two_pow (n := 16) ha hb
end Go.Proofs.Ytnoenccpbbkdeaa

/- Plain facts on nodes' styles: each node's from its parent's; each part from the nearest node that says it. No walk. -/
namespace Go.Proofs.Ytnoenccpbbkdeaa

/-- each parent is below its node, or -1 -/
def okP (ps : List Int) : Prop := ∀ i, i < ps.length → -1 ≤ ps.getD i 0 ∧ ps.getD i 0 < i
def okD (ds : List Dcl) : Prop := ∀ i, i < ds.length → vldD (ds.getD i .zero) = true
/-- what stands above: base, or a node's style -/
def upV (base : Sty) (l : List Sty) (p : Int) : Sty := if 0 ≤ p then l.getD p.toNat .zero else base
/-- the first k nodes' styles -/
def styK (base : Sty) (ps : List Int) (ds : List Dcl) : Nat → List Sty
  | 0 => []
  | k + 1 => styK base ps ds k ++ [over (upV base (styK base ps ds k) (ps.getD k 0)) (ds.getD k .zero)]
theorem styK_len (base : Sty) (ps : List Int) (ds : List Dcl) (k : Nat) : (styK base ps ds k).length = k := by
  induction k with
  | zero => rfl
  | succ k ih => simp [styK, ih]
theorem styK_get (base : Sty) (ps : List Int) (ds : List Dcl) (i : Nat) : ∀ k m, i < k → i < m → (styK base ps ds k).getD i .zero = (styK base ps ds m).getD i .zero := by
  have key : ∀ k, i < k → (styK base ps ds k).getD i .zero = (styK base ps ds (i + 1)).getD i .zero := by
    intro k hk
    induction k with
    | zero => omega
    | succ k ih =>
      by_cases e : k = i
      · rw [e]
      · rw [← ih (by omega)]
        have hl := styK_len base ps ds k
        simp only [styK, List.getD_eq_getElem?_getD]
        rw [List.getElem?_append_left (by omega)]
  intro k m hk hm
  rw [key k hk, key m hm]
/-- a node's style, by its parent's -/
theorem styK_at (base : Sty) (ps : List Int) (ds : List Dcl) (n : Nat) (hp : okP ps) (hn : n ≤ ps.length) (i : Nat) (hi : i < n) :
    (styK base ps ds n).getD i .zero = over (upV base (styK base ps ds n) (ps.getD i 0)) (ds.getD i .zero) := by
  rw [styK_get base ps ds i n (i + 1) hi (by omega)]
  have hl := styK_len base ps ds i
  obtain ⟨h1, h2⟩ := hp i (by omega)
  have e : upV base (styK base ps ds i) (ps.getD i 0) = upV base (styK base ps ds n) (ps.getD i 0) := by
    unfold upV
    split
    · exact styK_get base ps ds _ i n (by omega) (by omega)
    · rfl
  rw [← e]
  simp only [styK, List.getD_eq_getElem?_getD]
  rw [List.getElem?_append_right (by omega), hl, Nat.sub_self]
  rfl

/-! ### a part of a style -/
theorem put1_over_no (i : Nat) (hi : i < 8) (x s : Sty) (d : Dcl) (h : d.n.testBit i = false) : put1 i x (over s d) = put1 i x s := by
  revert h
  refine eight (p := fun i => d.n.testBit i = false → put1 i x (over s d) = put1 i x s) ?_ ?_ ?_ ?_ ?_ ?_ ?_ ?_ i hi <;> (intro h; simp [put1, over, ovk, h])
theorem put1_over_yes (i : Nat) (hi : i < 8) (x s : Sty) (d : Dcl) (h : d.n.testBit i = true) : put1 i x (over s d) = put1 i x d.s := by
  revert h
  refine eight (p := fun i => d.n.testBit i = true → put1 i x (over s d) = put1 i x d.s) ?_ ?_ ?_ ?_ ?_ ?_ ?_ ?_ i hi <;> (intro h; simp [put1, over, ovk, h])
theorem mix_step (i : Nat) (hi : i < 8) (b t : Sty) : ovk (i + 1) b 255 t = put1 i (ovk i b 255 t) t :=
  ovk_yes i hi b 255 t (eight (p := fun k => (255 : Nat).testBit k = true) (by decide) (by decide) (by decide) (by decide) (by decide) (by decide) (by decide) (by decide) i hi)
theorem mix_base (i : Nat) (hi : i < 8) (b t : Sty) : put1 i (ovk i b 255 t) b = ovk i b 255 t := by
  refine eight (p := fun i => put1 i (ovk i b 255 t) b = ovk i b 255 t) ?_ ?_ ?_ ?_ ?_ ?_ ?_ ?_ i hi <;> simp [put1, ovk]
theorem mix_eight (b t : Sty) : ovk 8 b 255 t = t := by
  have h : ∀ k, k < 8 → (255 : Nat).testBit k = true := eight (p := fun k => (255 : Nat).testBit k = true) (by decide) (by decide) (by decide) (by decide) (by decide) (by decide) (by decide) (by decide)
  simp [ovk, h 0, h 1, h 2, h 3, h 4, h 5, h 6, h 7]

/-! ### the answer -/

/-- the list under way: the first k, then zeros -/
def styZ (base : Sty) (ps : List Int) (ds : List Dcl) (n k : Nat) : List Sty := styK base ps ds k ++ List.replicate (n - k) .zero
theorem styZ_len (base : Sty) (ps : List Int) (ds : List Dcl) (n k : Nat) (h : k ≤ n) : (styZ base ps ds n k).length = n := by
  simp [styZ, styK_len]
  omega
theorem styZ_zero (base : Sty) (ps : List Int) (ds : List Dcl) (n : Nat) : styZ base ps ds n 0 = List.replicate n .zero := by simp [styZ, styK]
theorem styZ_full (base : Sty) (ps : List Int) (ds : List Dcl) (n : Nat) : styZ base ps ds n n = styK base ps ds n := by simp [styZ]
theorem styZ_get (base : Sty) (ps : List Int) (ds : List Dcl) (n k i : Nat) (h : i < k) : (styZ base ps ds n k)[i]? = some ((styK base ps ds k).getD i .zero) := by
  have hl := styK_len base ps ds k
  unfold styZ
  rw [List.getElem?_append_left (by omega), List.getD_eq_getElem?_getD, List.getElem?_eq_getElem (by omega)]
  rfl
theorem styZ_set (base : Sty) (ps : List Int) (ds : List Dcl) (n k : Nat) (h : k < n) :
    (styZ base ps ds n k).set k (over (upV base (styK base ps ds k) (ps.getD k 0)) (ds.getD k .zero)) = styZ base ps ds n (k + 1) := by
  have hl := styK_len base ps ds k
  unfold styZ
  rw [List.set_append_right _ _ (by omega), hl, Nat.sub_self, show n - k = (n - (k + 1)) + 1 by omega, List.replicate_succ, List.set_cons_zero]
  simp [styK]
end Go.Proofs.Ytnoenccpbbkdeaa
