/- Plain arithmetic, no program: one step of the long division of math/bits.Div64 (Knuth's algorithm D in base 2^32). -/
import Derived.KernelRfl
namespace Go.Proofs.Ytddihpiheopleaa.Knuth

/-- The step's trial digit q with its rest r, against the true digit. B = 2^32, v = y1 * B + y0 the divisor, u < v, t a digit. -/
theorem too_much {B y1 y0 u t q r : Nat} (hq : q * y1 + r = u) (h : B * r + t < q * y0) : (u * B + t) / (y1 * B + y0) < q := by
  by_cases hv : y1 * B + y0 = 0
  · rw [hv, Nat.div_zero]
    rcases Nat.eq_zero_or_pos q with h0 | h0
    · subst h0; simp at h
    · exact h0
  · rw [Nat.div_lt_iff_lt_mul (by omega), ← hq, Nat.mul_add, Nat.add_mul]
    have e : q * (y1 * B) = q * y1 * B := (Nat.mul_assoc _ _ _).symm
    have e2 : r * B = B * r := Nat.mul_comm _ _
    omega

theorem not_too_much {B y1 y0 u t q r : Nat} (hv : 0 < y1 * B + y0) (hq : q * y1 + r = u) (h : q * y0 ≤ B * r + t) : q ≤ (u * B + t) / (y1 * B + y0) := by
  rw [Nat.le_div_iff_mul_le hv, ← hq, Nat.mul_add, Nat.add_mul]
  have e : q * (y1 * B) = q * y1 * B := (Nat.mul_assoc _ _ _).symm
  have e2 : r * B = B * r := Nat.mul_comm _ _
  omega

/-- a rest of B or more: the trial digit is right (not too much) -/
theorem rest_big {B y1 y0 u t q r : Nat} (hy1 : 0 < y1) (hB : 0 < B) (hy0 : y0 < B) (hu : u < y1 * B + y0) (hq : q * y1 + r = u) (hr : B ≤ r) : q ≤ (u * B + t) / (y1 * B + y0) := by
  have hv : 0 < y1 * B := Nat.mul_pos hy1 hB
  refine not_too_much (by omega) hq ?_
  have h1 : q * y1 < B * y1 := by rw [Nat.mul_comm B y1]; omega
  have h2 : q < B := Nat.lt_of_mul_lt_mul_right h1
  have h3 : q * y0 ≤ B * r := Nat.mul_le_mul (by omega) (by omega)
  omega

theorem digit_lt {B v u t : Nat} (hu : u < v) (ht : t < B) : (u * B + t) / v < B := by
  rw [Nat.div_lt_iff_lt_mul (by omega)]
  have : (u + 1) * B ≤ v * B := Nat.mul_le_mul_right B hu
  rw [Nat.add_mul] at this
  rw [Nat.mul_comm B v]
  omega

/-- at the start the trial digit is not too small -/
theorem start {B y1 y0 u t : Nat} (hy1 : 0 < y1) (ht : t < B) : (u * B + t) / (y1 * B + y0) ≤ u / y1 := by
  have hB : 0 < B := by omega
  have h1 : (u * B + t) / (y1 * B + y0) ≤ (u * B + t) / (y1 * B) := Nat.div_le_div_left (by omega) (Nat.mul_pos hy1 hB)
  have h2 : (u * B + t) / (y1 * B) = (u * B + t) / B / y1 := by rw [Nat.div_div_eq_div_mul, Nat.mul_comm B y1]
  have h3 : (u * B + t) / B = u := by rw [Nat.mul_comm u B, Nat.mul_add_div hB, Nat.div_eq_of_lt ht, Nat.add_zero]
  rw [h2, h3] at h1
  exact h1

/-- two digits make the quotient -/
theorem two (B v u t1 t0 : Nat) (hv : 0 < v) :
    (((u * B + t1) * B + t0) / v = (u * B + t1) / v * B + ((u * B + t1) % v * B + t0) / v) ∧
    (((u * B + t1) * B + t0) % v = ((u * B + t1) % v * B + t0) % v) := by
  have e : (u * B + t1) * B + t0 = ((u * B + t1) % v * B + t0) + v * ((u * B + t1) / v * B) := by
    have h := Nat.div_add_mod (u * B + t1) v
    have h2 : (u * B + t1) * B = (v * ((u * B + t1) / v) + (u * B + t1) % v) * B := by rw [h]
    rw [h2, Nat.add_mul, Nat.mul_assoc]
    omega
  rw [e]
  constructor
  · rw [Nat.add_mul_div_left _ _ hv]; omega
  · rw [Nat.add_mul_mod_self_left]

/-- both sides times 2^s -/
theorem scaled (x y k : Nat) (hk : 0 < k) : x * k / (y * k) = x / y ∧ x * k % (y * k) = x % y * k := by
  constructor
  · exact Nat.mul_div_mul_right x y hk
  · exact Nat.mul_mod_mul_right k x y

/-- a trial digit q with its rest r; D is the true digit -/
def KR (y1 u D q r : Nat) : Prop := q * y1 + r = u ∧ D ≤ q

theorem KR.start {y1 y0 u t : Nat} (hy1 : 0 < y1) (ht : t < 4294967296) : KR y1 u ((u * 4294967296 + t) / (y1 * 4294967296 + y0)) (u / y1) (u % y1) :=
  ⟨by rw [Nat.mul_comm]; exact Nat.div_add_mod u y1, Knuth.start hy1 ht⟩

theorem KR.step {y1 u D q r : Nat} (h : KR y1 u D q r) (hd : D < q) : KR y1 u D (q - 1) (r + y1) := by
  obtain ⟨q, rfl⟩ : ∃ k, q = k + 1 := ⟨q - 1, by omega⟩
  refine ⟨?_, by omega⟩
  have := h.1
  rw [Nat.add_mul] at this
  simp only [Nat.add_sub_cancel]
  omega

theorem KR.much {y1 y0 u t q r : Nat} (h : KR y1 u ((u * 4294967296 + t) / (y1 * 4294967296 + y0)) q r) (hp : 4294967296 * r + t < q * y0) : (u * 4294967296 + t) / (y1 * 4294967296 + y0) < q := too_much h.1 hp

theorem KR.fits {y1 y0 u t q r : Nat} (hy1 : 0 < y1) (h : KR y1 u ((u * 4294967296 + t) / (y1 * 4294967296 + y0)) q r) (hp : q * y0 ≤ 4294967296 * r + t) : (u * 4294967296 + t) / (y1 * 4294967296 + y0) = q :=
  Nat.le_antisymm h.2 (not_too_much (by omega) h.1 hp)

theorem KR.stops {y1 y0 u t q r : Nat} (hy1 : 0 < y1) (hy0 : y0 < 4294967296) (hu : u < y1 * 4294967296 + y0) (h : KR y1 u ((u * 4294967296 + t) / (y1 * 4294967296 + y0)) q r) (hr : 4294967296 ≤ r) : (u * 4294967296 + t) / (y1 * 4294967296 + y0) = q :=
  Nat.le_antisymm h.2 (rest_big hy1 (by omega) hy0 hu h.1 hr)

/-- all that a loop asks of the true digit D -/
structure Digit (y1 y0 u t D : Nat) : Prop where
  lt : D < 4294967296
  much : ∀ q r, KR y1 u D q r → 4294967296 * r + t < q * y0 → D < q
  fits : ∀ q r, KR y1 u D q r → q * y0 ≤ 4294967296 * r + t → D = q
  stops : ∀ q r, KR y1 u D q r → 4294967296 ≤ r → D = q

theorem Digit.mk' {y1 y0 u t v D : Nat} (hy1 : 0 < y1) (hy0 : y0 < 4294967296) (ht : t < 4294967296) (hv : v = y1 * 4294967296 + y0) (hu : u < v) (hD : D = (u * 4294967296 + t) / v) : Digit y1 y0 u t D := by
  subst hv; subst hD
  exact ⟨digit_lt hu ht, fun q r h hp => h.much hp, fun q r h hp => h.fits hy1 hp, fun q r h hr => h.stops hy1 hy0 hu hr⟩

end Go.Proofs.Ytddihpiheopleaa.Knuth
