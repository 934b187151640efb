/- Plain facts on fonts: what a number becomes at a size, the first range that contains a code point, how far texts go, which fonts may be. No walk. -/
import Derived.Test.YtlbncmgecfnnbaaUnitF
namespace Go.Proofs.Ytlbncmgecfnnbaa

/-- a number at a size -/
def atI (n s : Int) : Int := if 0 ≤ s ∧ s ≤ 1073741824 ∧ 0 ≤ n ∧ n ≤ 8192 then rnd n s 1024 else 0

theorem rnd_bds (n s : Int) (h : 0 ≤ s ∧ s ≤ 1073741824 ∧ 0 ≤ n ∧ n ≤ 8192) : 0 ≤ n * s ∧ n * s ≤ 8796093022208 ∧ 0 ≤ rnd n s 1024 ∧ rnd n s 1024 ≤ 8589934592 := by
  have h1 : 0 ≤ n * s := Int.mul_nonneg h.2.2.1 h.1
  have h2 : n * s ≤ 8192 * 1073741824 := Int.mul_le_mul h.2.2.2 h.2.1 h.1 (by omega)
  unfold rnd
  omega

theorem atI_bd (n s : Int) : 0 ≤ atI n s ∧ atI n s ≤ 8589934592 := by
  unfold atI
  split
  · rename_i h; exact (rnd_bds n s h).2.2
  · omega

theorem atI_mono (n x y : Int) (h : x ≤ y) (hy : y ≤ 1073741824) : atI n x ≤ atI n y := by
  by_cases h1 : 0 ≤ x ∧ x ≤ 1073741824 ∧ 0 ≤ n ∧ n ≤ 8192
  · have h2 : 0 ≤ y ∧ y ≤ 1073741824 ∧ 0 ≤ n ∧ n ≤ 8192 := by omega
    unfold atI
    rw [if_pos h1, if_pos h2]
    have h3 : n * x ≤ n * y := Int.mul_le_mul_of_nonneg_left h h1.2.2.1
    unfold rnd
    omega
  · have e : atI n x = 0 := by unfold atI; rw [if_neg h1]
    have := atI_bd n y
    omega

theorem atI_whole (n : Int) (h : 0 ≤ n ∧ n ≤ 8192) : atI n 1024 = n := by
  unfold atI rnd
  rw [if_pos (by omega)]
  omega

theorem atI_zero (n : Int) : atI n 0 = 0 := by
  unfold atI rnd
  split <;> omega

/-- a range: from, to, how far -/
structure Rg where
  f : Int
  t : Int
  a : Int

/-- the first range that contains r, or what is beside all -/
def fnd (o : Int) (r : Int) : List Rg → Int
  | [] => o
  | x :: l => if x.f ≤ r ∧ r ≤ x.t then x.a else fnd o r l

/-- ranges that may be -/
def vr : Int → List Rg → Prop
  | _, [] => True
  | e, x :: l => e < x.f ∧ x.f ≤ x.t ∧ x.t ≤ 1114111 ∧ 0 ≤ x.a ∧ x.a ≤ 8192 ∧ vr x.t l

theorem vr_above : ∀ (l : List Rg) (e : Int), vr e l → ∀ x ∈ l, e < x.f ∧ x.f ≤ x.t ∧ x.t ≤ 1114111 ∧ 0 ≤ x.a ∧ x.a ≤ 8192
  | [], _, _, _, h => by cases h
  | y :: l, e, hv, x, h => by
    obtain ⟨h1, h2, h3, h4, h5, h6⟩ := hv
    rcases List.mem_cons.1 h with rfl | h
    · exact ⟨h1, h2, h3, h4, h5⟩
    · have := vr_above l _ h6 x h
      omega

theorem fnd_in (o r : Int) : ∀ (l : List Rg) (e : Int), vr e l → ∀ x ∈ l, x.f ≤ r → r ≤ x.t → fnd o r l = x.a
  | [], _, _, _, h, _, _ => by cases h
  | y :: l, e, hv, x, h, h7, h8 => by
    obtain ⟨h1, h2, h3, h4, h5, h6⟩ := hv
    rcases List.mem_cons.1 h with rfl | h
    · rw [fnd, if_pos ⟨h7, h8⟩]
    · have := vr_above l _ h6 x h
      rw [fnd, if_neg (by omega)]
      exact fnd_in o r l _ h6 x h h7 h8

theorem fnd_out (o r : Int) : ∀ (l : List Rg), (∀ x ∈ l, ¬ (x.f ≤ r ∧ r ≤ x.t)) → fnd o r l = o
  | [], _ => rfl
  | y :: l, h => by
    rw [fnd, if_neg (h y (List.mem_cons_self ..))]
    exact fnd_out o r l fun x hx => h x (List.mem_cons_of_mem _ hx)

theorem fnd_bd (o r : Int) (ho : 0 ≤ o ∧ o ≤ 8192) : ∀ (l : List Rg), (∀ x ∈ l, 0 ≤ x.a ∧ x.a ≤ 8192) → 0 ≤ fnd o r l ∧ fnd o r l ≤ 8192
  | [], _ => ho
  | y :: l, h => by
    unfold fnd
    split
    · exact h y (List.mem_cons_self ..)
    · exact fnd_bd o r ho l fun x hx => h x (List.mem_cons_of_mem _ hx)

theorem fnd_wf (o r : Int) (ho : -9223372036854775808 ≤ o ∧ o ≤ 9223372036854775807) : ∀ (l : List Rg), (∀ x ∈ l, -9223372036854775808 ≤ x.a ∧ x.a ≤ 9223372036854775807) → -9223372036854775808 ≤ fnd o r l ∧ fnd o r l ≤ 9223372036854775807
  | [], _ => ho
  | y :: l, h => by
    unfold fnd
    split
    · exact h y (List.mem_cons_self ..)
    · exact fnd_wf o r ho l fun x hx => h x (List.mem_cons_of_mem _ hx)

/-- a length, and one advance more -/
def ext (n x : Int) : Int := if n + x ≤ 4611686018427387904 then n + x else 4611686018427387904

/-- how far a text goes, behind n -/
def txt (o s : Int) (rs : List Rg) : Int → List Int → Int
  | n, [] => n
  | n, r :: l => txt o s rs (ext n (atI (fnd o r rs) s)) l

theorem txt_snoc (o s : Int) (rs : List Rg) : ∀ (l : List Int) (n r : Int), txt o s rs n (l ++ [r]) = ext (txt o s rs n l) (atI (fnd o r rs) s)
  | [], _, _ => rfl
  | _ :: l, _, r => txt_snoc o s rs l _ r

theorem txt_bd (o s : Int) (rs : List Rg) : ∀ (l : List Int) (n : Int), 0 ≤ n → n ≤ 4611686018427387904 → 0 ≤ txt o s rs n l ∧ txt o s rs n l ≤ 4611686018427387904
  | [], _, h1, h2 => ⟨h1, h2⟩
  | r :: l, n, h1, h2 => by
    have := atI_bd (fnd o r rs) s
    refine txt_bd o s rs l _ ?_ ?_ <;> unfold ext <;> split <;> omega

/-- what is short enough adds up -/
theorem txt_add (o s : Int) (rs : List Rg) : ∀ (l : List Int) (n : Int), 0 ≤ n → n + 8589934592 * (l.length : Int) ≤ 4611686018427387904 → txt o s rs n l = n + txt o s rs 0 l ∧ 0 ≤ txt o s rs 0 l ∧ txt o s rs 0 l ≤ 8589934592 * (l.length : Int)
  | [], n, _, _ => by simp [txt]
  | r :: l, n, h1, h2 => by
    have hb := atI_bd (fnd o r rs) s
    simp only [List.length_cons, Int.natCast_add, Int.natCast_one] at h2 ⊢
    have e1 : ext n (atI (fnd o r rs) s) = n + atI (fnd o r rs) s := by unfold ext; rw [if_pos (by omega)]
    have e2 : ext 0 (atI (fnd o r rs) s) = atI (fnd o r rs) s := by unfold ext; rw [if_pos (by omega)]; omega
    simp only [txt, e1, e2]
    have i1 := txt_add o s rs l (n + atI (fnd o r rs) s) (by omega) (by omega)
    have i2 := txt_add o s rs l (atI (fnd o r rs) s) (by omega) (by omega)
    omega

theorem txt_parts (o s : Int) (rs : List Rg) (l : List Int) (k : Nat) (h : l.length ≤ 500) : txt o s rs 0 l = txt o s rs 0 (l.take k) + txt o s rs 0 (l.drop k) ∧ 0 ≤ txt o s rs 0 (l.take k) ∧ txt o s rs 0 (l.take k) ≤ 4294967296000 ∧ 0 ≤ txt o s rs 0 (l.drop k) ∧ txt o s rs 0 (l.drop k) ≤ 4294967296000 := by
  have app : ∀ (a b : List Int) (n : Int), txt o s rs n (a ++ b) = txt o s rs (txt o s rs n a) b := by
    intro a
    induction a with
    | nil => intros; rfl
    | cons r a ih => intro b n; exact ih b _
  have h1 := List.length_take_le k l
  have h2 : (l.drop k).length ≤ 500 := by rw [List.length_drop]; omega
  have h3 : (l.take k).length ≤ 500 := by rw [List.length_take]; omega
  have a1 := txt_add o s rs (l.take k) 0 (by omega) (by omega)
  have a2 := txt_add o s rs (l.drop k) (txt o s rs 0 (l.take k)) a1.2.1 (by omega)
  have e := app (l.take k) (l.drop k) 0
  rw [List.take_append_drop] at e
  omega
end Go.Proofs.Ytlbncmgecfnnbaa
