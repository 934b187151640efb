/- Plain facts on styles and declarations: a style with some parts of another one, part by part; which may be; merging. No walk. -/
import Derived.Test.YtejcfhfmdijimaaDoorBase
namespace Go.Proofs.YtejcfhfmdijimaaDoor

/-- a style's numbers, in the order of its fields -/
structure Sty where
  a0 : Int
  a1 : Int
  a2 : Int
  a3 : Int
  a4 : Int
  a5 : Int
  a6 : Int
  a7 : Int
  a8 : Int
deriving DecidableEq

/-- a declaration: its bits, its style -/
structure Dcl where
  n : Nat
  s : Sty
deriving DecidableEq

def Sty.zero : Sty := ⟨0, 0, 0, 0, 0, 0, 0, 0, 0⟩
def Sty.first : Sty := ⟨0, 0, 0, 0, 8, 0, 1024, 0, 0⟩
def Dcl.zero : Dcl := ⟨0, .zero⟩

/-- the parts below k that n says, of d; all others of s -/
def ovk (k : Nat) (s : Sty) (n : Nat) (d : Sty) : Sty :=
  ⟨if decide (0 < k) && n.testBit 0 then d.a0 else s.a0, if decide (1 < k) && n.testBit 1 then d.a1 else s.a1, if decide (2 < k) && n.testBit 2 then d.a2 else s.a2,
   if decide (3 < k) && n.testBit 3 then d.a3 else s.a3, if decide (4 < k) && n.testBit 4 then d.a4 else s.a4, if decide (5 < k) && n.testBit 5 then d.a5 else s.a5,
   if decide (6 < k) && n.testBit 6 then d.a6 else s.a6, if decide (7 < k) && n.testBit 7 then d.a7 else s.a7, if decide (7 < k) && n.testBit 7 then d.a8 else s.a8⟩
def over (s : Sty) (d : Dcl) : Sty := ovk 8 s d.n d.s

/-- s, with the part i of d -/
def put1 (i : Nat) (s d : Sty) : Sty :=
  ⟨if i = 0 then d.a0 else s.a0, if i = 1 then d.a1 else s.a1, if i = 2 then d.a2 else s.a2, if i = 3 then d.a3 else s.a3, if i = 4 then d.a4 else s.a4,
   if i = 5 then d.a5 else s.a5, if i = 6 then d.a6 else s.a6, if 7 ≤ i then d.a7 else s.a7, if 7 ≤ i then d.a8 else s.a8⟩

theorem ovk_zero (s : Sty) (n : Nat) (d : Sty) : ovk 0 s n d = s := by simp [ovk]
theorem eight {p : Nat → Prop} (h0 : p 0) (h1 : p 1) (h2 : p 2) (h3 : p 3) (h4 : p 4) (h5 : p 5) (h6 : p 6) (h7 : p 7) : ∀ k, k < 8 → p k := by
  intro k hk
  match k, hk with
  | 0, _ => exact h0
  | 1, _ => exact h1
  | 2, _ => exact h2
  | 3, _ => exact h3
  | 4, _ => exact h4
  | 5, _ => exact h5
  | 6, _ => exact h6
  | 7, _ => exact h7
theorem ovk_yes (k : Nat) (hk : k < 8) (s : Sty) (n : Nat) (d : Sty) (h : n.testBit k = true) : ovk (k + 1) s n d = put1 k (ovk k s n d) d := by
  revert h
  refine eight (p := fun k => n.testBit k = true → ovk (k + 1) s n d = put1 k (ovk k s n d) d) ?_ ?_ ?_ ?_ ?_ ?_ ?_ ?_ k hk <;> (intro h; simp [ovk, put1, h])
theorem ovk_no (k : Nat) (hk : k < 8) (s : Sty) (n : Nat) (d : Sty) (h : n.testBit k = false) : ovk (k + 1) s n d = ovk k s n d := by
  revert h
  refine eight (p := fun k => n.testBit k = false → ovk (k + 1) s n d = ovk k s n d) ?_ ?_ ?_ ?_ ?_ ?_ ?_ ?_ k hk <;> (intro h; simp [ovk, h])

/-! ### which may be -/
def vld1 (i : Nat) (s : Sty) : Bool :=
  match i with
  | 0 => decide (s.a0 ≤ 5)
  | 1 => decide (s.a1 ≤ 2)
  | 2 => decide (s.a2 ≤ 1)
  | 3 => decide (s.a3 ≤ 3)
  | 4 => decide (0 ≤ s.a4 ∧ s.a4 ≤ 64)
  | 5 => decide (0 ≤ s.a5 ∧ s.a5 ≤ 63)
  | 6 => decide (0 ≤ s.a6 ∧ s.a6 ≤ 1073741824)
  | _ => decide (s.a7 ≤ 2 ∧ 0 ≤ s.a8 ∧ s.a8 ≤ 1073741824)
def vld (s : Sty) : Bool := vld1 0 s && (vld1 1 s && (vld1 2 s && (vld1 3 s && (vld1 4 s && (vld1 5 s && (vld1 6 s && vld1 7 s))))))
def chk (s : Sty) : Int := if vld s then 0 else 60
def vldD (d : Dcl) : Bool := decide (d.n ≤ 255) && (decide (over .zero d = d.s) && vld d.s)
def chkD (d : Dcl) : Int := if vldD d then 0 else 60

theorem chk_cases (s : Sty) : (vld s = true ∧ chk s = 0) ∨ (vld s = false ∧ chk s = 60) := by
  unfold chk
  cases vld s <;> simp
theorem chkD_cases (d : Dcl) : (vldD d = true ∧ chkD d = 0) ∨ (vldD d = false ∧ chkD d = 60) := by
  unfold chkD
  cases vldD d <;> simp

theorem vld_no (s : Sty) (k : Nat) (hk : k < 8) (h : vld1 k s = false) : vld s = false := by
  revert h
  refine eight (p := fun k => vld1 k s = false → vld s = false) ?_ ?_ ?_ ?_ ?_ ?_ ?_ ?_ k hk <;> (intro h; simp [vld, h])
theorem vld_yes (s : Sty) (h : ∀ i, i < 8 → vld1 i s = true) : vld s = true := by
  simp [vld, h 0 (by omega), h 1 (by omega), h 2 (by omega), h 3 (by omega), h 4 (by omega), h 5 (by omega), h 6 (by omega), h 7 (by omega)]
theorem upto_succ {p : Nat → Prop} {k : Nat} (h : ∀ i, i < k → p i) (hk : p k) : ∀ i, i < k + 1 → p i := fun i hi => by
  by_cases e : i = k
  · rw [e]; exact hk
  · exact h i (by omega)
theorem chk_no (s : Sty) (k : Nat) (hk : k < 8) (h : vld1 k s = false) : chk s = 60 := by
  unfold chk; rw [vld_no s k hk h]; rfl
theorem chk_yes (s : Sty) (h : ∀ i, i < 8 → vld1 i s = true) : chk s = 0 := by
  unfold chk; rw [vld_yes s h]; rfl
/-- the first style, part by part -/
def fsk (k : Nat) : Sty := ovk k .zero 255 .first
theorem fsk_succ (k : Nat) (hk : k < 8) : fsk (k + 1) = put1 k (fsk k) .first :=
  ovk_yes k hk _ _ _ (eight (p := fun k => (255 : Nat).testBit k = true) (by decide) (by decide) (by decide) (by decide) (by decide) (by decide) (by decide) (by decide) k hk)
theorem fsk_eight : fsk 8 = .first := by decide
theorem fsk_zero : fsk 0 = .zero := by decide

/-! ### answers -/
def resV (s : Sty) (d : Dcl) : Sty := if vld s && vldD d then over s d else .zero
def resE (s : Sty) (d : Dcl) : Int := if vld s && vldD d then 0 else 60
def mrg (a b : Dcl) : Dcl := ⟨a.n ||| b.n, over a.s b⟩
def mrgV (a b : Dcl) : Dcl := if vldD a && vldD b then mrg a b else .zero
def mrgE (a b : Dcl) : Int := if vldD a && vldD b then 0 else 60
end Go.Proofs.YtejcfhfmdijimaaDoor
