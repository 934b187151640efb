/- Contracts of math/bits' Mul64, LeadingZeros64 and Div64: the product in two words; 64 less the number of bits; quotient and rest of two words by one. Conditions: the arguments are uint64; of Div64: the divisor is above the upper word, and below 2^63. -/
import Derived.Test.YtlbncmgecfnnbaaUnitA
import Derived.Test.YtlbncmgecfnnbaaLen
import Derived.Test.YtlbncmgecfnnbaaMath
import Derived.Lib.Mul64
import Derived.Deep.QuietTactic
import Derived.BigQuiet
import Derived.Deep.DeepCutAuto
import Derived.Deep.CutBlock
import Derived.Deep.LoopGhost
namespace Go.Proofs.Ytlbncmgecfnnbaa
open Go.ChangeShapes Go.WideShapes Go.ChangeAt Go.RowKit

theorem and32 (a : Nat) (ha : a < 18446744073709551616) : bits .and .u64 (a : Int) 4294967295 = ((a % 4294967296 : Nat) : Int) := by
  have h := bits_and_u64_nat a 4294967295 ha (by omega)
  rw [show a &&& 4294967295 = a % 4294967296 from Nat.and_two_pow_sub_one_eq_mod a 32] at h
  exact h
theorem div32 (a : Nat) : (a : Int) / 4294967296 = ((a / 4294967296 : Nat) : Int) := by omega
theorem u64in (a : Nat) (ha : a < 18446744073709551616) : IntKind.u64.wrap (a : Int) = (a : Int) := by rw [IntKind.wrap_u64]; omega
theorem u64mod (a : Nat) : IntKind.u64.wrap (a : Int) = ((a % 18446744073709551616 : Nat) : Int) := by rw [IntKind.wrap_u64]; omega

set_option maxHeartbeats 1000000 in
theorem mul64_any (x y : Nat) (hx : x < 18446744073709551616) (hy : y < 18446744073709551616) (w : World) :
    Calls Try.prog 37 #[.int .u64 x, .int .u64 y] w fun e w' => e = .returned (.tuple #[.int .u64 ((x * y / 18446744073709551616 : Nat) : Int), .int .u64 ((x * y % 18446744073709551616 : Nat) : Int)]) ∧ w = w' := by
  obtain ⟨bd, bt, bw, hhi⟩ := Lib.mul64_hi x y hx hy
  have ba := Lib.half_mul_le (a := x / 4294967296) (b := y / 4294967296) (by omega) (by omega)
  have bb := Lib.half_mul_le (a := x / 4294967296) (b := y % 4294967296) (by omega) (by omega)
  have bc := Lib.half_mul_le (a := x % 4294967296) (b := y / 4294967296) (by omega) (by omega)
  have HH := Lib.hid hhi
  clear hhi
  go_enter Try.func37, Try.ntmps37
  go_wp2
  have ba' : x / 4294967296 * (y / 4294967296) < 18446744073709551616 := by omega
  have bb' : x / 4294967296 * (y % 4294967296) < 18446744073709551616 := by omega
  have bc' : x % 4294967296 * (y / 4294967296) < 18446744073709551616 := by omega
  have bh1 : x / 4294967296 * (y / 4294967296) + (x / 4294967296 * (y % 4294967296) + x % 4294967296 * (y % 4294967296) / 4294967296) / 4294967296 < 18446744073709551616 := by omega
  have bh : x / 4294967296 * (y / 4294967296) + (x / 4294967296 * (y % 4294967296) + x % 4294967296 * (y % 4294967296) / 4294967296) / 4294967296 + ((x / 4294967296 * (y % 4294967296) + x % 4294967296 * (y % 4294967296) / 4294967296) % 4294967296 + x % 4294967296 * (y / 4294967296)) / 4294967296 < 18446744073709551616 := by omega
  simp only [and32 x hx, and32 y hy, div32, ← Int.natCast_mul, ← Int.natCast_add, u64in _ bd, u64in _ bb', u64in _ bt, and32 _ bt, u64in _ bc', u64in _ bw, u64in _ ba', u64in _ bh1, u64in _ bh, u64mod (x * y)]
  rw [HH.out]
  go_ret2
  exact ⟨rfl, rfl⟩

set_option maxHeartbeats 400000 in
theorem lz_any (x : Nat) (s : Nat) (hx : x < 18446744073709551616) (hs : 64 - Lib.bitLen x = s) (hl : Lib.bitLen x ≤ 64) (w : World) :
    Calls Try.prog 42 #[.int .u64 x] w fun e w' => e = .returned (.int .i64 s) ∧ w = w' := by
  have C := Lib.hid (len64_any x w (by omega) (by omega))
  rw [Int.toNat_natCast] at C
  have HS := Lib.hid hs
  clear hs
  generalize Lib.bitLen x = m at *
  go_enter Try.func42, Try.ntmps42
  go_wp2_with fail
  refine C.out.mono ?_
  rintro e w' ⟨rfl, rfl⟩
  go_wp2_with fail
  go_ret
  exact ⟨ret1 (by have := HS.out; omega), rfl⟩

theorem u64cast (y s : Nat) : (y : Int) * 2 ^ s = ((y * 2 ^ s : Nat) : Int) := by rw [Int.natCast_mul, Int.natCast_pow]; rfl
theorem u64shr (y s : Nat) : (y : Int) / 2 ^ s = ((y / 2 ^ s : Nat) : Int) := by rw [Int.natCast_ediv, Int.natCast_pow]; rfl

theorem un_wrap (u t v : Nat) (hv : 0 < v) (hv2 : v < 18446744073709551616) :
    IntKind.u64.wrap (IntKind.u64.wrap (IntKind.u64.wrap ((u : Int) * 4294967296) + t) - IntKind.u64.wrap ((((u * 4294967296 + t) / v : Nat) : Int) * v)) = (((u * 4294967296 + t) % v : Nat) : Int) := by
  have h := Nat.div_add_mod (u * 4294967296 + t) v
  have hl := Nat.mod_lt (u * 4294967296 + t) hv
  rw [← Int.natCast_mul, Nat.mul_comm _ v]
  generalize v * ((u * 4294967296 + t) / v) = p at *
  generalize (u * 4294967296 + t) % v = m at *
  simp only [IntKind.wrap_u64]
  omega

theorem digits (y1 y0 v u t : Nat) (hy1 : 0 < y1) (_hy2 : y1 < 4294967296) (hy0 : y0 < 4294967296) (hv : v = y1 * 4294967296 + y0) (hu : u < v) (hv2 : v < 18446744073709551616) (ht : t < 4294967296) :
    ∃ q p r D : Nat, (u : Int) / y1 = q ∧ IntKind.u64.wrap ((q : Int) * y1) = (p : Int) ∧ (u : Int) - p = r ∧
        p ≤ u ∧ q ≤ u ∧ (u ≤ p + r ∧ p + r ≤ u) ∧ r < 4294967296 ∧ Knuth.KR y1 u D q r ∧ Knuth.Digit y1 y0 u t D ∧
        IntKind.u64.wrap (IntKind.u64.wrap (IntKind.u64.wrap ((u : Int) * 4294967296) + t) - IntKind.u64.wrap ((D : Int) * v)) = (((u * 4294967296 + t) % v : Nat) : Int) ∧ Hid (D = (u * 4294967296 + t) / v) := by
  have h := Nat.div_add_mod u y1
  have hl := Nat.mod_lt u hy1
  refine ⟨u / y1, u / y1 * y1, u % y1, (u * 4294967296 + t) / v, (Int.natCast_ediv u y1).symm, ?_, ?_, ?_, Nat.div_le_self u y1, ?_, by omega, ?_, Knuth.Digit.mk' hy1 hy0 ht hv hu rfl, un_wrap u t v (by omega) hv2, rfl⟩
  · rw [← Int.natCast_mul, u64in _ (by rw [Nat.mul_comm]; omega)]
  · rw [Nat.mul_comm]; omega
  · rw [Nat.mul_comm]; omega
  · rw [Nat.mul_comm]; omega
  · subst hv; exact Knuth.KR.start hy1 ht

theorem norm (hi lo y s : Nat) (h1 : hi < y) (h2 : y < 9223372036854775808) (h3 : lo < 18446744073709551616) (hs : 64 - Lib.bitLen y = s) :
    ∃ v y1 y0 u t t1 t0 : Nat,
      IntKind.u64.wrap ((y : Int) * 2 ^ s) = (v : Int) ∧ (v : Int) / 4294967296 = y1 ∧ bits .and .u64 (v : Int) 4294967295 = (y0 : Int) ∧
      bits .or .u64 (IntKind.u64.wrap ((hi : Int) * 2 ^ s)) ((lo : Int) / 2 ^ (64 - s)) = (u : Int) ∧
      IntKind.u64.wrap ((lo : Int) * 2 ^ s) = (t : Int) ∧ (t : Int) / 4294967296 = (t1 : Int) ∧ bits .and .u64 (t : Int) 4294967295 = (t0 : Int) ∧
      2147483648 ≤ y1 ∧ y1 < 4294967296 ∧ y0 < 4294967296 ∧ u < v ∧ v < 18446744073709551616 ∧ t1 < 4294967296 ∧ t0 < 4294967296 ∧ t < 18446744073709551616 ∧
      Hid (v = y1 * 4294967296 + y0) ∧ Hid (v = y * 2 ^ s) ∧ Hid ((hi * 18446744073709551616 + lo) * 2 ^ s = (u * 4294967296 + t1) * 4294967296 + t0) := by
  obtain ⟨l1, l2, l3, l4⟩ := len_is y (by omega) (by omega)
  have hb : Lib.bitLen y = 64 - s := by omega
  have hs2 : s ≤ 63 := by omega
  rw [hb] at l3 l4
  have hk : 0 < 2 ^ s := Nat.two_pow_pos s
  have e64 : 2 ^ (64 - s) * 2 ^ s = 18446744073709551616 := by rw [← Nat.pow_add, show 64 - s + s = 64 from by omega]
  have e63 : 2 ^ (64 - s - 1) * 2 ^ s = 9223372036854775808 := by rw [← Nat.pow_add, show 64 - s - 1 + s = 63 from by omega]
  have g1 : y * 2 ^ s < 18446744073709551616 := by rw [← e64]; exact Nat.mul_lt_mul_of_pos_right l4 hk
  have g2 : 9223372036854775808 ≤ y * 2 ^ s := by rw [← e63]; exact Nat.mul_le_mul_right _ l3
  have g3 : (hi + 1) * 2 ^ s ≤ y * 2 ^ s := Nat.mul_le_mul_right _ h1
  rw [Nat.add_mul, Nat.one_mul] at g3
  have ec : lo / 2 ^ (64 - s) = lo * 2 ^ s / 18446744073709551616 := by rw [← e64, Nat.mul_div_mul_right _ _ hk]
  have hc : lo * 2 ^ s / 18446744073709551616 < 2 ^ s := by
    rw [Nat.div_lt_iff_lt_mul (by omega), Nat.mul_comm (2 ^ s)]
    exact Nat.mul_lt_mul_of_pos_right h3 hk
  have eor : (hi * 2 ^ s) ||| (lo * 2 ^ s / 18446744073709551616) = hi * 2 ^ s + lo * 2 ^ s / 18446744073709551616 := by
    rw [Nat.mul_comm hi, ← Nat.two_pow_add_eq_or_of_lt hc]
  refine ⟨y * 2 ^ s, y * 2 ^ s / 4294967296, y * 2 ^ s % 4294967296, hi * 2 ^ s + lo * 2 ^ s / 18446744073709551616, lo * 2 ^ s % 18446744073709551616, lo * 2 ^ s % 18446744073709551616 / 4294967296, lo * 2 ^ s % 18446744073709551616 % 4294967296, ?_, ?_, ?_, ?_, ?_, ?_, ?_, ?_, ?_, ?_, ?_, g1, ?_, ?_, ?_, ?_, rfl, ?_⟩
  · rw [u64cast, u64in _ g1]
  · exact div32 _
  · exact and32 _ g1
  · rw [u64cast, u64in _ (by omega), u64shr, ec, bits_or_u64_nat _ _ (by omega) (by omega), eor]
  · rw [u64cast, u64mod]
  · exact div32 _
  · exact and32 _ (by omega)
  · omega
  · omega
  · omega
  · omega
  · omega
  · omega
  · omega
  · show _ = _; omega
  · show _ = _
    rw [Nat.add_mul, Nat.mul_right_comm]
    generalize lo * 2 ^ s = a
    generalize hi * 2 ^ s = b
    omega

theorem done (X y u t1 t0 v m D D' k : Nat) (hk : 0 < k) (hv0 : 0 < v) (hv : v = y * k) (e : X * k = (u * 4294967296 + t1) * 4294967296 + t0) (hm : m = (u * 4294967296 + t1) % v) (hD : D = (u * 4294967296 + t1) / v) (hD' : D' = (m * 4294967296 + t0) / v) :
    D * 4294967296 + D' = X / y ∧ (m * 4294967296 + t0) % v / k = X % y := by
  obtain ⟨a, b⟩ := Knuth.two 4294967296 v u t1 t0 hv0
  obtain ⟨c, d⟩ := Knuth.scaled X y k hk
  rw [← hv, e] at c d
  rw [← hm] at a b
  rw [← hD, ← hD'] at a
  refine ⟨by rw [← a, c], ?_⟩
  rw [← b, d, Nat.mul_div_cancel _ hk]

set_option maxRecDepth 100000 in
set_option maxHeartbeats 1000000 in
theorem div64_big (hi lo y s : Nat) (w : World) (h0 : 0 < hi) (h1 : hi < y) (h2 : y < 9223372036854775808) (h3 : lo < 18446744073709551616) (hs : 64 - Lib.bitLen y = s) (hs1 : 1 ≤ s) (hs2 : s ≤ 63) :
    Calls Try.prog 39 #[.int .u64 hi, .int .u64 lo, .int .u64 y] w fun e w' => e = .returned (.tuple #[.int .u64 ((hi * 18446744073709551616 + lo) / y : Nat), .int .u64 ((hi * 18446744073709551616 + lo) % y : Nat)]) ∧ w = w' := by
  have hl := (len_is y (by omega) (by omega)).2.1
  have C := Lib.hid (lz_any y s (by omega) hs hl w)
  obtain ⟨v, y1, y0, u, t, t1, t0, f1, f2, f3, f4, f5, f6, f7, b1, b2, b3, b4, b5, b6, b7, bt, V1, V2, V3⟩ := norm hi lo y s h1 h2 h3 hs
  obtain ⟨q, p, r, D, f8, f9, er, b8, b9, b10, b11, K, Gd, f10, D1⟩ := digits y1 y0 v u t1 (by omega) b2 b3 V1.out b4 b5 b6
  obtain ⟨m, M1, hm⟩ : ∃ m, Hid (m = (u * 4294967296 + t1) % v) ∧ m < v := ⟨_, rfl, Nat.mod_lt _ (by omega)⟩
  rw [← M1.out] at f10
  have F10 := Lib.hid f10
  obtain ⟨q', p', r', D', g1, g2, g3, c2, c3, c4, c5, K', Gd', g4, D2⟩ := digits y1 y0 v m t0 (by omega) b2 b3 V1.out hm b5 b7
  have fin := Lib.hid (done (hi * 18446744073709551616 + lo) y u t1 t0 v m D D' (2 ^ s) (Nat.two_pow_pos s) (by omega) V2.out V3.out M1.out D1.out D2.out)
  have hD := Gd.lt
  have hD' := Gd'.lt
  have G1 := Lib.hid (And.intro g1 (And.intro g2 g3))
  have G4 := Lib.hid g4
  clear hs hl f10 g1 g2 g3 g4 V1 V2 V3 M1 D1 D2
  have ey : ((y : Int) == 0) = false := by simp; omega
  have eh : ((hi : Int) == 0) = false := by simp; omega
  have ey1 : ((y1 : Int) == 0) = false := by simp; omega
  go_enter Try.func39, Try.ntmps39
  go_wp2_with fail
  refine C.out.mono ?_
  rintro e w' ⟨rfl, rfl⟩
  go_upto_block 0 with fail
  clear f1 f2 f3 f4 f5 f6 f7 f8 f9 er
  go_cut [15, 16] (fun s15 s16 wx => w = wx ∧ s15 = .int .u64 (D : Nat))
  case first =>
    go_wp2_with fail
    go_loopg [15, 16] q (fun g a b wx => w = wx ∧ ∃ r : Nat, a = .int .u64 g ∧ b = .int .u64 r ∧ g < 18446744073709551616 ∧ r < 4294967296 ∧ Knuth.KR y1 u D g r)
    case atStart => exact ⟨rfl, _, rfl, rfl, by omega, by omega, K⟩
    case round =>
      clear K
      obtain ⟨rfl, r, rfl, rfl, hq, hr, K⟩ := hrel
      have hg := Gd.lt
      by_cases hq2 : 4294967296 ≤ gk
      · have K2 := K.step (by omega)
        have hq3 : (4294967296 : Int) ≤ (gk : Int) := by omega
        by_cases hr2 : 4294967296 ≤ r + y1
        · have E := Lib.hid (Gd.stops _ _ K2 hr2)
          have hr3 : (4294967296 : Int) ≤ (r : Int) + y1 := by omega
          clear K K2 Gd
          go_wp2_with fail
          go_meet
          exact ⟨rfl, congrArg (Value.int .u64) (by have := E.out; omega)⟩
        · have hr3 : ¬ (4294967296 : Int) ≤ (r : Int) + y1 := by omega
          clear K Gd
          go_wp2_with fail
          go_roundg (gk - 1)
          case measure => omega
          case rel => exact ⟨rfl, r + y1, by go_num, by go_num, by omega, by omega, K2⟩
      · have hq3 : ¬ (4294967296 : Int) ≤ (gk : Int) := by omega
        obtain ⟨p, hp, hpb, hpq⟩ : ∃ p : Nat, IntKind.u64.wrap ((gk : Int) * y0) = p ∧ p < 18446744073709551616 ∧ Hid (p = gk * y0) :=
          ⟨gk * y0, by
            have : gk * y0 ≤ 4294967295 * 4294967295 := Nat.mul_le_mul (by omega) (by omega)
            rw [← Int.natCast_mul, u64in _ (by omega)], by
            have : gk * y0 ≤ 4294967295 * 4294967295 := Nat.mul_le_mul (by omega) (by omega)
            omega, rfl⟩
        by_cases hm : 4294967296 * r + t1 < p
        · have hd : D < gk := Gd.much _ _ K (by rw [← hpq.out]; exact hm)
          have hm3 : (4294967296 : Int) * r + t1 < p := by omega
          have K2 := K.step hd
          by_cases hr2 : 4294967296 ≤ r + y1
          · have E := Lib.hid (Gd.stops _ _ K2 hr2)
            have hr3 : (4294967296 : Int) ≤ (r : Int) + y1 := by omega
            clear K K2 Gd
            go_wp2_with fail
            go_meet
            exact ⟨rfl, congrArg (Value.int .u64) (by have := E.out; omega)⟩
          · have hr3 : ¬ (4294967296 : Int) ≤ (r : Int) + y1 := by omega
            clear K Gd
            go_wp2_with fail
            go_roundg (gk - 1)
            case measure => omega
            case rel => exact ⟨rfl, r + y1, by go_num, by go_num, by omega, by omega, K2⟩
        · have E := Lib.hid (Gd.fits _ _ K (by rw [← hpq.out]; omega))
          have hm3 : ¬ (4294967296 : Int) * r + t1 < p := by omega
          clear K Gd
          go_wp2_with fail
          go_meet
          exact ⟨rfl, congrArg (Value.int .u64) (by have := E.out; omega)⟩
  case rest =>
    obtain ⟨rfl, rfl⟩ := hcut
    have c1 := F10.out
    obtain ⟨g1, g2, g3⟩ := G1.out
    clear K Gd
    go_upto_block 2 with fail
    clear g1 g2 g3 c1
    go_cut [18, 16] (fun s18 s16 wx => w = wx ∧ s18 = .int .u64 (D' : Nat))
    case first =>
      go_wp2_with fail
      go_loopg [18, 16] q' (fun g a b wx => w = wx ∧ ∃ r : Nat, a = .int .u64 g ∧ b = .int .u64 r ∧ g < 18446744073709551616 ∧ r < 4294967296 ∧ Knuth.KR y1 m D' g r)
      case atStart => exact ⟨rfl, _, rfl, rfl, by omega, by omega, K'⟩
      case round =>
        clear K'
        obtain ⟨rfl, r, rfl, rfl, hq, hr, K⟩ := hrel
        have hg := Gd'.lt
        by_cases hq2 : 4294967296 ≤ gk
        · have K2 := K.step (by omega)
          have hq3 : (4294967296 : Int) ≤ (gk : Int) := by omega
          by_cases hr2 : 4294967296 ≤ r + y1
          · have E := Lib.hid (Gd'.stops _ _ K2 hr2)
            have hr3 : (4294967296 : Int) ≤ (r : Int) + y1 := by omega
            clear K K2 Gd'
            go_wp2_with fail
            go_meet
            exact ⟨rfl, congrArg (Value.int .u64) (by have := E.out; omega)⟩
          · have hr3 : ¬ (4294967296 : Int) ≤ (r : Int) + y1 := by omega
            clear K Gd'
            go_wp2_with fail
            go_roundg (gk - 1)
            case measure => omega
            case rel => exact ⟨rfl, r + y1, by go_num, by go_num, by omega, by omega, K2⟩
        · have hq3 : ¬ (4294967296 : Int) ≤ (gk : Int) := by omega
          obtain ⟨p, hp, hpb, hpq⟩ : ∃ p : Nat, IntKind.u64.wrap ((gk : Int) * y0) = p ∧ p < 18446744073709551616 ∧ Hid (p = gk * y0) :=
            ⟨gk * y0, by
              have : gk * y0 ≤ 4294967295 * 4294967295 := Nat.mul_le_mul (by omega) (by omega)
              rw [← Int.natCast_mul, u64in _ (by omega)], by
              have : gk * y0 ≤ 4294967295 * 4294967295 := Nat.mul_le_mul (by omega) (by omega)
              omega, rfl⟩
          by_cases hm : 4294967296 * r + t0 < p
          · have hd : D' < gk := Gd'.much _ _ K (by rw [← hpq.out]; exact hm)
            have hm3 : (4294967296 : Int) * r + t0 < p := by omega
            have K2 := K.step hd
            by_cases hr2 : 4294967296 ≤ r + y1
            · have E := Lib.hid (Gd'.stops _ _ K2 hr2)
              have hr3 : (4294967296 : Int) ≤ (r : Int) + y1 := by omega
              clear K K2 Gd'
              go_wp2_with fail
              go_meet
              exact ⟨rfl, congrArg (Value.int .u64) (by have := E.out; omega)⟩
            · have hr3 : ¬ (4294967296 : Int) ≤ (r : Int) + y1 := by omega
              clear K Gd'
              go_wp2_with fail
              go_roundg (gk - 1)
              case measure => omega
              case rel => exact ⟨rfl, r + y1, by go_num, by go_num, by omega, by omega, K2⟩
          · have E := Lib.hid (Gd'.fits _ _ K (by rw [← hpq.out]; omega))
            have hm3 : ¬ (4294967296 : Int) * r + t0 < p := by omega
            clear K Gd'
            go_wp2_with fail
            go_meet
            exact ⟨rfl, congrArg (Value.int .u64) (by have := E.out; omega)⟩

    case rest =>
      obtain ⟨rfl, rfl⟩ := hcut
      have g4 := G4.out
      go_wp2_with fail
      go_ret2
      obtain ⟨z1, z2⟩ := fin.out
      exact ⟨ret2 (by rw [← z1]; omega) (by rw [← z2, ← u64shr, Int.natCast_emod, Int.natCast_add, Int.natCast_mul]; rfl), rfl⟩


set_option maxHeartbeats 400000 in
theorem div64_small (lo y : Nat) (w : World) (h1 : 0 < y) (h2 : y < 9223372036854775808) (h3 : lo < 18446744073709551616) :
    Calls Try.prog 39 #[.int .u64 0, .int .u64 lo, .int .u64 y] w fun e w' => e = .returned (.tuple #[.int .u64 (lo / y : Nat), .int .u64 (lo % y : Nat)]) ∧ Drawn w w' := by
  have ey : ((y : Int) == 0) = false := by simp; omega
  go_enter Try.func39, Try.ntmps39
  go_wp2_with fail
  go_quiet (fail)
  go_wp2_with fail
  go_ret2
  exact ⟨ret2 (by rw [← Int.natCast_ediv, u64in _ (Nat.lt_of_le_of_lt (Nat.div_le_self lo y) h3)]) (by rw [Int.natCast_emod]), _, rfl⟩

theorem div64_any (x y : Nat) (w : World) (h1 : 0 < y) (h2 : y < 9223372036854775808) (h3 : x / 18446744073709551616 < y) :
    Calls Try.prog 39 #[.int .u64 (x / 18446744073709551616 : Nat), .int .u64 (x % 18446744073709551616 : Nat), .int .u64 y] w fun e w' => e = .returned (.tuple #[.int .u64 (x / y : Nat), .int .u64 (x % y : Nat)]) ∧ Drawn w w' := by
  rcases Nat.eq_zero_or_pos (x / 18446744073709551616) with h | h
  · rw [h, Nat.mod_eq_of_lt (show x < 18446744073709551616 by omega)]
    exact div64_small x y w h1 h2 (by omega)
  · obtain ⟨l1, l2, l3, l4⟩ := len_is y h1 (by omega)
    have hb : Lib.bitLen y ≤ 63 := Lib.bitLen_le y 63 (by omega) h2
    refine (div64_big _ _ y _ w h h3 h2 (Nat.mod_lt _ (by omega)) rfl (by omega) (by omega)).mono ?_
    rintro e w' ⟨rfl, rfl⟩
    rw [Nat.mul_comm, Nat.div_add_mod]
    exact ⟨rfl, 0, rfl⟩
end Go.Proofs.Ytlbncmgecfnnbaa
