/- Contracts of layers below. -/
import Derived.KernelRfl
import Derived.Test.YtmceblkjbpbcoaaGreatDoorPUnitA
import Derived.Test.YtmceblkjbpbcoaaGreatDoorPLen
import Derived.Lib.Mul64
import Derived.Deep.QuietTactic
import Derived.BigQuiet
import Derived.Deep.DeepCutAuto
import Derived.Deep.CutBlock
import Derived.Deep.LoopGhost
namespace Go.Proofs.YtmceblkjbpbcoaaGreatDoor
set_option maxRecDepth 100000
set_option maxHeartbeats 1000000
open Go.ChangeShapes Go.WideShapes Go.ChangeAt Go.RowKit
namespace Knuth
theorem qtg {B y1 y0 u t q r : Nat} (hq : q * y1 + r = u) (h : B * r + t < q * y0) : (u * B + t) / (y1 * B + y0) < q := by
 by_cases hv : y1 * B + y0 = 0
 ·rw [hv, Nat.div_zero]
  rcases Nat.eq_zero_or_pos q with h0 | h0
  ·subst h0; simp at h
  ·exact h0
 ·rw [Nat.div_lt_iff_lt_mul (by omega), <- hq, Nat.mul_add, Nat.add_mul]
  have e : q * (y1 * B) = q * y1 * B := (Nat.mul_assoc _ _ _).symm
  have e2 : r * B = B * r := Nat.mul_comm _ _
  omega
theorem qe1 {B y1 y0 u t q r : Nat} (hv : 0 < y1 * B + y0) (hq : q * y1 + r = u) (h : q * y0 <= B * r + t) : q <= (u * B + t) / (y1 * B + y0) := by
 rw [Nat.le_div_iff_mul_le hv, <- hq, Nat.mul_add, Nat.add_mul]
 have e : q * (y1 * B) = q * y1 * B := (Nat.mul_assoc _ _ _).symm
 have e2 : r * B = B * r := Nat.mul_comm _ _
 omega
theorem qt2 {B y1 y0 u t q r : Nat} (hy1 : 0 < y1) (hB : 0 < B) (hy0 : y0 < B) (hu : u < y1 * B + y0) (hq : q * y1 + r = u) (hr : B <= r) : q <= (u * B + t) / (y1 * B + y0) := by
 have hv : 0 < y1 * B := Nat.mul_pos hy1 hB
 refine qe1 (by omega) hq ?_
 have h1 : q * y1 < B * y1 := by rw [Nat.mul_comm B y1]; omega
 have h2 : q < B := Nat.lt_of_mul_lt_mul_right h1
 have h3 : q * y0 <= B * r := Nat.mul_le_mul (by omega) (by omega)
 omega
theorem qvu {B v u t : Nat} (hu : u < v) (ht : t < B) : (u * B + t) / v < B := by
 rw [Nat.div_lt_iff_lt_mul (by omega)]
 have : (u + 1) * B <= v * B := Nat.mul_le_mul_right B hu
 rw [Nat.add_mul] at this
 rw [Nat.mul_comm B v]
 omega
theorem start {B y1 y0 u t : Nat} (hy1 : 0 < y1) (ht : t < B) : (u * B + t) / (y1 * B + y0) <= u / y1 := by
 have hB : 0 < B := by omega
 have h1 : (u * B + t) / (y1 * B + y0) <= (u * B + t) / (y1 * B) := Nat.div_le_div_left (by omega) (Nat.mul_pos hy1 hB)
 have h2 : (u * B + t) / (y1 * B) = (u * B + t) / B / y1 := by rw [Nat.div_div_eq_div_mul, Nat.mul_comm B y1]
 have h3 : (u * B + t) / B = u := by rw [Nat.mul_comm u B, Nat.mul_add_div hB, Nat.div_eq_of_lt ht, Nat.add_zero]
 rw [h2, h3] at h1
 exact h1
theorem two (B v u t1 t0 : Nat) (hv : 0 < v) :
 (((u * B + t1) * B + t0) / v = (u * B + t1) / v * B + ((u * B + t1) % v * B + t0) / v) ∧
 (((u * B + t1) * B + t0) % v = ((u * B + t1) % v * B + t0) % v) := by
 have e : (u * B + t1) * B + t0 = ((u * B + t1) % v * B + t0) + v * ((u * B + t1) / v * B) := by
  have h := Nat.div_add_mod (u * B + t1) v
  have h2 : (u * B + t1) * B = (v * ((u * B + t1) / v) + (u * B + t1) % v) * B := by rw [h]
  rw [h2, Nat.add_mul, Nat.mul_assoc]
  omega
 rw [e]
 constructor
 ·rw [Nat.add_mul_div_left _ _ hv]; omega
 ·rw [Nat.add_mul_mod_self_left]
theorem scaled (x y k : Nat) (hk : 0 < k) : x * k / (y * k) = x / y /\ x * k % (y * k) = x % y * k := by
 constructor
 ·exact Nat.mul_div_mul_right x y hk
 ·exact Nat.mul_mod_mul_right k x y
def KR (y1 u D q r : Nat) : Prop := q * y1 + r = u /\ D <= q
theorem KR.start {y1 y0 u t : Nat} (hy1 : 0 < y1) (ht : t < 4294967296) : KR y1 u ((u * 4294967296 + t) / (y1 * 4294967296 + y0)) (u / y1) (u % y1) :=
 ⟨by rw [Nat.mul_comm]; exact Nat.div_add_mod u y1, Knuth.start hy1 ht⟩
theorem KR.step {y1 u D q r : Nat} (h : KR y1 u D q r) (hd : D < q) : KR y1 u D (q - 1) (r + y1) := by
 obtain ⟨q, rfl⟩ : ∃ k, q = k + 1 := ⟨q - 1, by omega⟩
 refine ⟨?_, by omega⟩
 have := h.1
 rw [Nat.add_mul] at this
 simp only [Nat.add_sub_cancel]
 omega
theorem KR.much {y1 y0 u t q r : Nat} (h : KR y1 u ((u * 4294967296 + t) / (y1 * 4294967296 + y0)) q r) (hp : 4294967296 * r + t < q * y0) : (u * 4294967296 + t) / (y1 * 4294967296 + y0) < q := qtg h.1 hp
theorem KR.fits {y1 y0 u t q r : Nat} (hy1 : 0 < y1) (h : KR y1 u ((u * 4294967296 + t) / (y1 * 4294967296 + y0)) q r) (hp : q * y0 <= 4294967296 * r + t) : (u * 4294967296 + t) / (y1 * 4294967296 + y0) = q :=
 Nat.le_antisymm h.2 (qe1 (by omega) h.1 hp)
theorem KR.stops {y1 y0 u t q r : Nat} (hy1 : 0 < y1) (hy0 : y0 < 4294967296) (hu : u < y1 * 4294967296 + y0) (h : KR y1 u ((u * 4294967296 + t) / (y1 * 4294967296 + y0)) q r) (hr : 4294967296 <= r) : (u * 4294967296 + t) / (y1 * 4294967296 + y0) = q :=
 Nat.le_antisymm h.2 (qt2 hy1 (by omega) hy0 hu h.1 hr)
structure Digit (y1 y0 u t D : Nat) : Prop where
 lt : D < 4294967296
 much : ∀ q r, KR y1 u D q r -> 4294967296 * r + t < q * y0 -> D < q
 fits : ∀ q r, KR y1 u D q r -> q * y0 <= 4294967296 * r + t -> D = q
 stops : ∀ q r, KR y1 u D q r -> 4294967296 <= r -> D = q
theorem Digit.mk' {y1 y0 u t v D : Nat} (hy1 : 0 < y1) (hy0 : y0 < 4294967296) (ht : t < 4294967296) (hv : v = y1 * 4294967296 + y0) (hu : u < v) (hD : D = (u * 4294967296 + t) / v) : Digit y1 y0 u t D := by
 subst hv; subst hD
 exact ⟨qvu hu ht, fun q r h hp => h.much hp, fun q r h hp => h.fits hy1 hp, fun q r h hr => h.stops hy1 hy0 hu hr⟩
end Knuth
namespace Fo
theorem qsy (a : Nat) (ha : a < 18446744073709551616) : bits .and .u64 (a : Int) 4294967295 = ((a % 4294967296 : Nat) : Int) := by
 have h := bits_and_u64_nat a 4294967295 ha (by omega)
 rw [show a &&& 4294967295 = a % 4294967296 from Nat.and_two_pow_sub_one_eq_mod a 32] at h
 exact h
theorem q0i (a : Nat) : (a : Int) / 4294967296 = ((a / 4294967296 : Nat) : Int) := by omega
theorem qd2 (a : Nat) (ha : a < 18446744073709551616) : IntKind.u64.wrap (a : Int) = (a : Int) := by rw [IntKind.wrap_u64]; omega
theorem qwx (a : Nat) : IntKind.u64.wrap (a : Int) = ((a % 18446744073709551616 : Nat) : Int) := by rw [IntKind.wrap_u64]; omega
theorem qd8 (x y : Nat) (hx : x < 18446744073709551616) (hy : y < 18446744073709551616) (w : World) :
 Calls Tryz.prog 132 #[.int .u64 x, .int .u64 y] w fun e w' => e = .returned (.tuple #[.int .u64 ((x * y / 18446744073709551616 : Nat) : Int), .int .u64 ((x * y % 18446744073709551616 : Nat) : Int)]) /\ w = w' := by
 obtain ⟨bd, bt, bw, hhi⟩ := Lib.mul64_hi x y hx hy
 have ba := Lib.half_mul_le (a := x / 4294967296) (b := y / 4294967296) (by omega) (by omega)
 have bb := Lib.half_mul_le (a := x / 4294967296) (b := y % 4294967296) (by omega) (by omega)
 have bc := Lib.half_mul_le (a := x % 4294967296) (b := y / 4294967296) (by omega) (by omega)
 have HH := xaa hhi
 clear hhi
 go_enter Tryz.func132, Tryz.ntmps132
 go_wp2
 have ba' : x / 4294967296 * (y / 4294967296) < 18446744073709551616 := by omega
 have bb' : x / 4294967296 * (y % 4294967296) < 18446744073709551616 := by omega
 have bc' : x % 4294967296 * (y / 4294967296) < 18446744073709551616 := by omega
 have bh1 : x / 4294967296 * (y / 4294967296) + (x / 4294967296 * (y % 4294967296) + x % 4294967296 * (y % 4294967296) / 4294967296) / 4294967296 < 18446744073709551616 := by omega
 have bh : x / 4294967296 * (y / 4294967296) + (x / 4294967296 * (y % 4294967296) + x % 4294967296 * (y % 4294967296) / 4294967296) / 4294967296 + ((x / 4294967296 * (y % 4294967296) + x % 4294967296 * (y % 4294967296) / 4294967296) % 4294967296 + x % 4294967296 * (y / 4294967296)) / 4294967296 < 18446744073709551616 := by omega
 simp only [qsy x hx, qsy y hy, q0i, <- Int.natCast_mul, <- Int.natCast_add, qd2 _ bd, qd2 _ bb', qd2 _ bt, qsy _ bt, qd2 _ bc', qd2 _ bw, qd2 _ ba', qd2 _ bh1, qd2 _ bh, qwx (x * y)]
 rw [HH.out]
 go_ret2
 exact ⟨rfl, rfl⟩
theorem lz_any (x : Nat) (s : Nat) (hx : x < 18446744073709551616) (hs : 64 - Lib.bitLen x = s) (hl : Lib.bitLen x <= 64) (w : World) :
 Calls Tryz.prog 151 #[.int .u64 x] w fun e w' => e = .returned (.int .i64 s) /\ w = w' := by
 have C := xaa (qrk x w (by omega) (by omega))
 rw [xax] at C
 have HS := xaa hs
 clear hs
 generalize Lib.bitLen x = m at *
 go_enter Tryz.func151, Tryz.ntmps151
 go_wp2_with fail
 refine C.out.mono ?_
 rintro e w' ⟨rfl, rfl⟩
 go_wp2_with fail
 go_ret
 exact ⟨qb7 (by have := HS.out; omega), rfl⟩
theorem qkp (y s : Nat) : (y : Int) * 2 ^ s = ((y * 2 ^ s : Nat) : Int) := by rw [Int.natCast_mul, Int.natCast_pow]; rfl
theorem qww (y s : Nat) : (y : Int) / 2 ^ s = ((y / 2 ^ s : Nat) : Int) := by rw [Int.natCast_ediv, Int.natCast_pow]; rfl
theorem qyk (u t v : Nat) (hv : 0 < v) (hv2 : v < 18446744073709551616) :
 IntKind.u64.wrap (IntKind.u64.wrap (IntKind.u64.wrap ((u : Int) * 4294967296) + t) - IntKind.u64.wrap ((((u * 4294967296 + t) / v : Nat) : Int) * v)) = (((u * 4294967296 + t) % v : Nat) : Int) := by
 have h := Nat.div_add_mod (u * 4294967296 + t) v
 have hl := Nat.mod_lt (u * 4294967296 + t) hv
 rw [<- Int.natCast_mul, Nat.mul_comm _ v]
 generalize v * ((u * 4294967296 + t) / v) = p at *
 generalize (u * 4294967296 + t) % v = m at *
 simp only [IntKind.wrap_u64]
 omega
theorem digits (y1 y0 v u t : Nat) (hy1 : 0 < y1) (_hy2 : y1 < 4294967296) (hy0 : y0 < 4294967296) (hv : v = y1 * 4294967296 + y0) (hu : u < v) (hv2 : v < 18446744073709551616) (ht : t < 4294967296) :
 ∃ q p r D : Nat, (u : Int) / y1 = q /\ IntKind.u64.wrap ((q : Int) * y1) = (p : Int) /\ (u : Int) - p = r ∧
  p <= u /\ q <= u /\ (u <= p + r /\ p + r <= u) /\ r < 4294967296 /\ Knuth.KR y1 u D q r /\ Knuth.Digit y1 y0 u t D ∧
  IntKind.u64.wrap (IntKind.u64.wrap (IntKind.u64.wrap ((u : Int) * 4294967296) + t) - IntKind.u64.wrap ((D : Int) * v)) = (((u * 4294967296 + t) % v : Nat) : Int) /\ Hid (D = (u * 4294967296 + t) / v) := by
 have h := Nat.div_add_mod u y1
 have hl := Nat.mod_lt u hy1
 refine ⟨u / y1, u / y1 * y1, u % y1, (u * 4294967296 + t) / v, (Int.natCast_ediv u y1).symm, ?_, ?_, ?_, Nat.div_le_self u y1, ?_, by omega, ?_, Knuth.Digit.mk' hy1 hy0 ht hv hu rfl, qyk u t v (by omega) hv2, rfl⟩
 ·rw [<- Int.natCast_mul, qd2 _ (by rw [Nat.mul_comm]; omega)]
 ·rw [Nat.mul_comm]; omega
 ·rw [Nat.mul_comm]; omega
 ·rw [Nat.mul_comm]; omega
 ·subst hv; exact Knuth.KR.start hy1 ht
theorem norm (hi lo y s : Nat) (h1 : hi < y) (h2 : y < 9223372036854775808) (h3 : lo < 18446744073709551616) (hs : 64 - Lib.bitLen y = s) :
 ∃ v y1 y0 u t t1 t0 : Nat,
  IntKind.u64.wrap ((y : Int) * 2 ^ s) = (v : Int) /\ (v : Int) / 4294967296 = y1 /\ bits .and .u64 (v : Int) 4294967295 = (y0 : Int) ∧
  bits .or .u64 (IntKind.u64.wrap ((hi : Int) * 2 ^ s)) ((lo : Int) / 2 ^ (64 - s)) = (u : Int) ∧
  IntKind.u64.wrap ((lo : Int) * 2 ^ s) = (t : Int) /\ (t : Int) / 4294967296 = (t1 : Int) /\ bits .and .u64 (t : Int) 4294967295 = (t0 : Int) ∧
  2147483648 <= y1 /\ y1 < 4294967296 /\ y0 < 4294967296 /\ u < v /\ v < 18446744073709551616 /\ t1 < 4294967296 /\ t0 < 4294967296 /\ t < 18446744073709551616 ∧
  Hid (v = y1 * 4294967296 + y0) /\ Hid (v = y * 2 ^ s) /\ Hid ((hi * 18446744073709551616 + lo) * 2 ^ s = (u * 4294967296 + t1) * 4294967296 + t0) := by
 obtain ⟨l1, l2, l3, l4⟩ := qrj y (by omega) (by omega)
 have hb : Lib.bitLen y = 64 - s := by omega
 have hs2 : s <= 63 := by omega
 rw [hb] at l3 l4
 have hk : 0 < 2 ^ s := Nat.two_pow_pos s
 have e64 : 2 ^ (64 - s) * 2 ^ s = 18446744073709551616 := by rw [<- Nat.pow_add, show 64 - s + s = 64 from by omega]
 have e63 : 2 ^ (64 - s - 1) * 2 ^ s = 9223372036854775808 := by rw [<- Nat.pow_add, show 64 - s - 1 + s = 63 from by omega]
 have g1 : y * 2 ^ s < 18446744073709551616 := by rw [<- e64]; exact Nat.mul_lt_mul_of_pos_right l4 hk
 have g2 : 9223372036854775808 <= y * 2 ^ s := by rw [<- e63]; exact Nat.mul_le_mul_right _ l3
 have g3 : (hi + 1) * 2 ^ s <= y * 2 ^ s := Nat.mul_le_mul_right _ h1
 rw [Nat.add_mul, Nat.one_mul] at g3
 have ec : lo / 2 ^ (64 - s) = lo * 2 ^ s / 18446744073709551616 := by rw [<- e64, Nat.mul_div_mul_right _ _ hk]
 have hc : lo * 2 ^ s / 18446744073709551616 < 2 ^ s := by
  rw [Nat.div_lt_iff_lt_mul (by omega), Nat.mul_comm (2 ^ s)]
  exact Nat.mul_lt_mul_of_pos_right h3 hk
 have eor : (hi * 2 ^ s) ||| (lo * 2 ^ s / 18446744073709551616) = hi * 2 ^ s + lo * 2 ^ s / 18446744073709551616 := by
  rw [Nat.mul_comm hi, <- Nat.two_pow_add_eq_or_of_lt hc]
 refine ⟨y * 2 ^ s, y * 2 ^ s / 4294967296, y * 2 ^ s % 4294967296, hi * 2 ^ s + lo * 2 ^ s / 18446744073709551616, lo * 2 ^ s % 18446744073709551616, lo * 2 ^ s % 18446744073709551616 / 4294967296, lo * 2 ^ s % 18446744073709551616 % 4294967296, ?_, ?_, ?_, ?_, ?_, ?_, ?_, ?_, ?_, ?_, ?_, g1, ?_, ?_, ?_, ?_, rfl, ?_⟩
 ·rw [qkp, qd2 _ g1]
 ·exact q0i _
 ·exact qsy _ g1
 ·rw [qkp, qd2 _ (by omega), qww, ec, bits_or_u64_nat _ _ (by omega) (by omega), eor]
 ·rw [qkp, qwx]
 ·exact q0i _
 ·exact qsy _ (by omega)
 ·omega
 ·omega
 ·omega
 ·omega
 ·omega
 ·omega
 ·omega
 ·show _ = _; omega
 ·show _ = _
  rw [Nat.add_mul, Nat.mul_right_comm]
  generalize lo * 2 ^ s = a
  generalize hi * 2 ^ s = b
  omega
theorem done (X y u t1 t0 v m D D' k : Nat) (hk : 0 < k) (hv0 : 0 < v) (hv : v = y * k) (e : X * k = (u * 4294967296 + t1) * 4294967296 + t0) (hm : m = (u * 4294967296 + t1) % v) (hD : D = (u * 4294967296 + t1) / v) (hD' : D' = (m * 4294967296 + t0) / v) :
 D * 4294967296 + D' = X / y /\ (m * 4294967296 + t0) % v / k = X % y := by
 obtain ⟨a, b⟩ := Knuth.two 4294967296 v u t1 t0 hv0
 obtain ⟨c, d⟩ := Knuth.scaled X y k hk
 rw [<- hv, e] at c d
 rw [<- hm] at a b
 rw [<- hD, <- hD'] at a
 refine ⟨by rw [<- a, c], ?_⟩
 rw [<- b, d, Nat.mul_div_cancel _ hk]
theorem qr9 (hi lo y s : Nat) (w : World) (h0 : 0 < hi) (h1 : hi < y) (h2 : y < 9223372036854775808) (h3 : lo < 18446744073709551616) (hs : 64 - Lib.bitLen y = s) (hs1 : 1 <= s) (hs2 : s <= 63) :
 Calls Tryz.prog 134 #[.int .u64 hi, .int .u64 lo, .int .u64 y] w fun e w' => e = .returned (.tuple #[.int .u64 ((hi * 18446744073709551616 + lo) / y : Nat), .int .u64 ((hi * 18446744073709551616 + lo) % y : Nat)]) /\ w = w' := by
 have hl := (qrj y (by omega) (by omega)).2.1
 have C := xaa (lz_any y s (by omega) hs hl w)
 obtain ⟨v, y1, y0, u, t, t1, t0, f1, f2, f3, f4, f5, f6, f7, b1, b2, b3, b4, b5, b6, b7, bt, V1, V2, V3⟩ := norm hi lo y s h1 h2 h3 hs
 obtain ⟨q, p, r, D, f8, f9, er, b8, b9, b10, b11, K, Gd, f10, D1⟩ := digits y1 y0 v u t1 (by omega) b2 b3 V1.out b4 b5 b6
 obtain ⟨m, M1, hm⟩ : ∃ m, Hid (m = (u * 4294967296 + t1) % v) /\ m < v := ⟨_, rfl, Nat.mod_lt _ (by omega)⟩
 rw [<- M1.out] at f10
 have F10 := xaa f10
 obtain ⟨q', p', r', D', g1, g2, g3, c2, c3, c4, c5, K', Gd', g4, D2⟩ := digits y1 y0 v m t0 (by omega) b2 b3 V1.out hm b5 b7
 have fin := xaa (done (hi * 18446744073709551616 + lo) y u t1 t0 v m D D' (2 ^ s) (Nat.two_pow_pos s) (by omega) V2.out V3.out M1.out D1.out D2.out)
 have hD := Gd.lt
 have hD' := Gd'.lt
 have G1 := xaa (And.intro g1 (And.intro g2 g3))
 have G4 := xaa g4
 clear hs hl f10 g1 g2 g3 g4 V1 V2 V3 M1 D1 D2
 have ey : ((y : Int) == 0) = false := by simp; omega
 have eh : ((hi : Int) == 0) = false := by simp; omega
 have ey1 : ((y1 : Int) == 0) = false := by simp; omega
 go_enter Tryz.func134, Tryz.ntmps134
 go_wp2_with fail
 refine C.out.mono ?_
 rintro e w' ⟨rfl, rfl⟩
 go_upto_block 0 with fail
 clear f1 f2 f3 f4 f5 f6 f7 f8 f9 er
 go_cut [15, 16] (fun s15 s16 wx => w = wx /\ s15 = .int .u64 (D : Nat))
 case first =>
  go_wp2_with fail
  go_loopg [15, 16] q (fun g a b wx => w = wx /\ ∃ r : Nat, a = .int .u64 g /\ b = .int .u64 r /\ g < 18446744073709551616 /\ r < 4294967296 /\ Knuth.KR y1 u D g r)
  case atStart => exact ⟨rfl, _, rfl, rfl, by omega, by omega, K⟩
  case round =>
   clear K
   obtain ⟨rfl, r, rfl, rfl, hq, hr, K⟩ := hrel
   have hg := Gd.lt
   by_cases hq2 : 4294967296 <= gk
   ·have K2 := K.step (by omega)
    have hq3 : (4294967296 : Int) <= (gk : Int) := by omega
    by_cases hr2 : 4294967296 <= r + y1
    ·have E := xaa (Gd.stops _ _ K2 hr2)
     have hr3 : (4294967296 : Int) <= (r : Int) + y1 := by omega
     clear K K2 Gd
     go_wp2_with fail
     go_meet
     exact ⟨rfl, congrArg (Value.int .u64) (by have := E.out; omega)⟩
    ·have hr3 : ¬ (4294967296 : Int) <= (r : Int) + y1 := by omega
     clear K Gd
     go_wp2_with fail
     go_roundg (gk - 1)
     case measure => omega
     case rel => exact ⟨rfl, r + y1, by go_num, by go_num, by omega, by omega, K2⟩
   ·have hq3 : ¬ (4294967296 : Int) <= (gk : Int) := by omega
    obtain ⟨p, hp, hpb, hpq⟩ : ∃ p : Nat, IntKind.u64.wrap ((gk : Int) * y0) = p /\ p < 18446744073709551616 /\ Hid (p = gk * y0) :=
     ⟨gk * y0, by
      have : gk * y0 <= 4294967295 * 4294967295 := Nat.mul_le_mul (by omega) (by omega)
      rw [<- Int.natCast_mul, qd2 _ (by omega)], by
      have : gk * y0 <= 4294967295 * 4294967295 := Nat.mul_le_mul (by omega) (by omega)
      omega, rfl⟩
    by_cases hm : 4294967296 * r + t1 < p
    ·have hd : D < gk := Gd.much _ _ K (by rw [<- hpq.out]; exact hm)
     have hm3 : (4294967296 : Int) * r + t1 < p := by omega
     have K2 := K.step hd
     by_cases hr2 : 4294967296 <= r + y1
     ·have E := xaa (Gd.stops _ _ K2 hr2)
      have hr3 : (4294967296 : Int) <= (r : Int) + y1 := by omega
      clear K K2 Gd
      go_wp2_with fail
      go_meet
      exact ⟨rfl, congrArg (Value.int .u64) (by have := E.out; omega)⟩
     ·have hr3 : ¬ (4294967296 : Int) <= (r : Int) + y1 := by omega
      clear K Gd
      go_wp2_with fail
      go_roundg (gk - 1)
      case measure => omega
      case rel => exact ⟨rfl, r + y1, by go_num, by go_num, by omega, by omega, K2⟩
    ·have E := xaa (Gd.fits _ _ K (by rw [<- hpq.out]; omega))
     have hm3 : ¬ (4294967296 : Int) * r + t1 < p := by omega
     clear K Gd
     go_wp2_with fail
     go_meet
     exact ⟨rfl, congrArg (Value.int .u64) (by have := E.out; omega)⟩
 case rest =>
  obtain ⟨rfl, rfl⟩ := hcut
  have c1 := F10.out
  obtain ⟨g1, g2, g3⟩ := G1.out
  clear K Gd
  go_upto_block 2 with fail
  clear g1 g2 g3 c1
  go_cut [18, 16] (fun s18 s16 wx => w = wx /\ s18 = .int .u64 (D' : Nat))
  case first =>
   go_wp2_with fail
   go_loopg [18, 16] q' (fun g a b wx => w = wx /\ ∃ r : Nat, a = .int .u64 g /\ b = .int .u64 r /\ g < 18446744073709551616 /\ r < 4294967296 /\ Knuth.KR y1 m D' g r)
   case atStart => exact ⟨rfl, _, rfl, rfl, by omega, by omega, K'⟩
   case round =>
    clear K'
    obtain ⟨rfl, r, rfl, rfl, hq, hr, K⟩ := hrel
    have hg := Gd'.lt
    by_cases hq2 : 4294967296 <= gk
    ·have K2 := K.step (by omega)
     have hq3 : (4294967296 : Int) <= (gk : Int) := by omega
     by_cases hr2 : 4294967296 <= r + y1
     ·have E := xaa (Gd'.stops _ _ K2 hr2)
      have hr3 : (4294967296 : Int) <= (r : Int) + y1 := by omega
      clear K K2 Gd'
      go_wp2_with fail
      go_meet
      exact ⟨rfl, congrArg (Value.int .u64) (by have := E.out; omega)⟩
     ·have hr3 : ¬ (4294967296 : Int) <= (r : Int) + y1 := by omega
      clear K Gd'
      go_wp2_with fail
      go_roundg (gk - 1)
      case measure => omega
      case rel => exact ⟨rfl, r + y1, by go_num, by go_num, by omega, by omega, K2⟩
    ·have hq3 : ¬ (4294967296 : Int) <= (gk : Int) := by omega
     obtain ⟨p, hp, hpb, hpq⟩ : ∃ p : Nat, IntKind.u64.wrap ((gk : Int) * y0) = p /\ p < 18446744073709551616 /\ Hid (p = gk * y0) :=
      ⟨gk * y0, by
       have : gk * y0 <= 4294967295 * 4294967295 := Nat.mul_le_mul (by omega) (by omega)
       rw [<- Int.natCast_mul, qd2 _ (by omega)], by
       have : gk * y0 <= 4294967295 * 4294967295 := Nat.mul_le_mul (by omega) (by omega)
       omega, rfl⟩
     by_cases hm : 4294967296 * r + t0 < p
     ·have hd : D' < gk := Gd'.much _ _ K (by rw [<- hpq.out]; exact hm)
      have hm3 : (4294967296 : Int) * r + t0 < p := by omega
      have K2 := K.step hd
      by_cases hr2 : 4294967296 <= r + y1
      ·have E := xaa (Gd'.stops _ _ K2 hr2)
       have hr3 : (4294967296 : Int) <= (r : Int) + y1 := by omega
       clear K K2 Gd'
       go_wp2_with fail
       go_meet
       exact ⟨rfl, congrArg (Value.int .u64) (by have := E.out; omega)⟩
      ·have hr3 : ¬ (4294967296 : Int) <= (r : Int) + y1 := by omega
       clear K Gd'
       go_wp2_with fail
       go_roundg (gk - 1)
       case measure => omega
       case rel => exact ⟨rfl, r + y1, by go_num, by go_num, by omega, by omega, K2⟩
     ·have E := xaa (Gd'.fits _ _ K (by rw [<- hpq.out]; omega))
      have hm3 : ¬ (4294967296 : Int) * r + t0 < p := by omega
      clear K Gd'
      go_wp2_with fail
      go_meet
      exact ⟨rfl, congrArg (Value.int .u64) (by have := E.out; omega)⟩
  case rest =>
   obtain ⟨rfl, rfl⟩ := hcut
   have g4 := G4.out
   go_wp2_with fail
   go_ret2
   obtain ⟨z1, z2⟩ := fin.out
   exact ⟨ret2 (by rw [<- z1]; omega) (by rw [<- z2, <- qww, Int.natCast_emod, Int.natCast_add, Int.natCast_mul]; rfl), rfl⟩
theorem qlf (lo y : Nat) (w : World) (h1 : 0 < y) (h2 : y < 9223372036854775808) (h3 : lo < 18446744073709551616) :
 Calls Tryz.prog 134 #[.int .u64 0, .int .u64 lo, .int .u64 y] w fun e w' => e = .returned (.tuple #[.int .u64 (lo / y : Nat), .int .u64 (lo % y : Nat)]) /\ Drawn w w' := by
 have ey : ((y : Int) == 0) = false := by simp; omega
 go_enter Tryz.func134, Tryz.ntmps134
 go_wp2_with fail
 go_quiet (fail)
 go_wp2_with fail
 go_ret2
 exact ⟨ret2 (by rw [<- Int.natCast_ediv, qd2 _ (Nat.lt_of_le_of_lt (Nat.div_le_self lo y) h3)]) (by rw [Int.natCast_emod]), _, rfl⟩
theorem qgj (x y : Nat) (w : World) (h1 : 0 < y) (h2 : y < 9223372036854775808) (h3 : x / 18446744073709551616 < y) :
 Calls Tryz.prog 134 #[.int .u64 (x / 18446744073709551616 : Nat), .int .u64 (x % 18446744073709551616 : Nat), .int .u64 y] w fun e w' => e = .returned (.tuple #[.int .u64 (x / y : Nat), .int .u64 (x % y : Nat)]) /\ Drawn w w' := by
 rcases Nat.eq_zero_or_pos (x / 18446744073709551616) with h | h
 ·rw [h, Nat.mod_eq_of_lt (show x < 18446744073709551616 by omega)]
  exact qlf x y w h1 h2 (by omega)
 ·obtain ⟨l1, l2, l3, l4⟩ := qrj y h1 (by omega)
  have hb : Lib.bitLen y <= 63 := Lib.bitLen_le y 63 (by omega) h2
  refine (qr9 _ _ y _ w h h3 h2 (Nat.mod_lt _ (by omega)) rfl (by omega) (by omega)).mono ?_
  rintro e w' ⟨rfl, rfl⟩
  rw [Nat.mul_comm, Nat.div_add_mod]
  exact ⟨rfl, 0, rfl⟩
end Fo
end Go.Proofs.YtmceblkjbpbcoaaGreatDoor
