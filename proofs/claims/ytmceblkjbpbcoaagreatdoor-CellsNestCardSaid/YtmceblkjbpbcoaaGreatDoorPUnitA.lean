/- Contracts of layers below. -/
import Derived.Test.YtmceblkjbpbcoaaGreatDoorPBase
import Derived.WalkKit
import Derived.ProofKit
import Derived.OpenShut
import Derived.IntWalk
import Derived.WalkSpells
import Derived.Laws.Externs
import Derived.Lib.Hide
namespace Go.Proofs.YtmceblkjbpbcoaaGreatDoor
set_option maxHeartbeats 400000
open Go.ChangeShapes Go.WideShapes Go.ChangeAt Go.RowKit
namespace Fo
def fitV (s : Int) : Int := if -4611686018427387904 <= s /\ s <= 4611686018427387904 then s else 0
def fitE (s : Int) : Int := if -4611686018427387904 <= s /\ s <= 4611686018427387904 then 0 else 10
theorem ret2 {k l : IntKind} {a b c d : Int} (h : a = c) (h' : b = d) : Ending.returned (.tuple #[.int k a, .int l b]) = .returned (.tuple #[.int k c, .int l d]) := by rw [h, h']
theorem qay (n : Int) (w : World) (h1 : -9223372036854775808 <= n) (h2 : n <= 9223372036854775807) :
 Calls Tryz.prog 133 #[.int .i64 n] w fun e w' => e = .returned (.int .u64 (n.natAbs : Nat)) /\ w = w' := by
 by_cases hn : n < 0
 ·go_enter Tryz.func133, Tryz.ntmps133
  go_wp2
  go_ret
  exact ⟨qb7 (by simp only [IntKind.wrap_u64]; omega), rfl⟩
 ·go_enter Tryz.func133, Tryz.ntmps133
  go_wp2
  go_ret
  exact ⟨qb7 (by omega), rfl⟩
theorem qzr (n : Int) (w : World) (h1 : -9223372036854775808 <= n) (h2 : n <= 9223372036854775807) :
 Calls Tryz.prog 105 #[.int .i64 n] w fun e w' => e = .returned (.bool (decide (-1073741824 <= n /\ n <= 1073741824))) /\ w = w' := by
 by_cases ha : -1073741824 <= n
 ·by_cases hb : n <= 1073741824
  ·go_enter Tryz.func105, Tryz.ntmps105
   go_wp2
   go_ret
   exact ⟨qak (Eq.symm (decide_eq_true (by omega))), rfl⟩
  ·go_enter Tryz.func105, Tryz.ntmps105
   go_wp2
   go_ret
   exact ⟨qak (Eq.symm (decide_eq_false (by omega))), rfl⟩
 ·have hf : decide (-1073741824 <= n /\ n <= 1073741824) = false := decide_eq_false (by omega)
  have HF := xaa hf
  clear hf
  go_enter Tryz.func105, Tryz.ntmps105
  go_wp2
  go_ret
  exact ⟨qak (by simp; omega), rfl⟩
theorem qta (s : Int) : -9223372036854775808 <= wrap64 (s % 18446744073709551616) /\ wrap64 (s % 18446744073709551616) <= 9223372036854775807 /\ (s / 18446744073709551616 = wrap64 (s % 18446744073709551616) / 9223372036854775808 ↔ wrap64 (s % 18446744073709551616) = s) /\ (-9223372036854775808 <= s -> s <= 9223372036854775807 -> wrap64 (s % 18446744073709551616) = s) := by
 by_cases h : s % 18446744073709551616 < 9223372036854775808
 ·have e : wrap64 (s % 18446744073709551616) = s % 18446744073709551616 := by unfold wrap64; omega
  rw [e]; omega
 ·have e : wrap64 (s % 18446744073709551616) = s % 18446744073709551616 - 18446744073709551616 := by unfold wrap64; omega
  rw [e]; omega
theorem qhh (s : Int) (w : World) (h1 : -170141183460469231731687303715884105728 <= s) (h2 : s <= 170141183460469231731687303715884105727) :
 Calls Tryz.prog 103 #[.int .i64 (s / 18446744073709551616), .int .u64 (s % 18446744073709551616)] w fun e w' => e = .returned (.tuple #[.int .i64 (fitV s), .int .i64 (fitE s)]) /\ w = w' := by
 have H := xaa (qta s)
 go_enter Tryz.func103, Tryz.ntmps103
 go_wp2
 all_goals (go_ret2; obtain ⟨g1, g2, g3, g4⟩ := H.out; refine ⟨ret2 ?_ ?_, rfl⟩)
 all_goals (generalize wrap64 (s % 18446744073709551616) = x at *; generalize s / 18446744073709551616 = y at *)
 all_goals (first | unfold fitV | unfold fitE)
 all_goals (first | (rw [if_pos (by omega)]; try omega) | (rw [if_neg (by omega)]))
theorem qw0 (zs : List Int) (hr : ∀ z ∈ zs, -9223372036854775808 <= z /\ z <= 9223372036854775807) : -9223372036854775808 * (zs.length : Int) <= zs.sum /\ zs.sum <= 9223372036854775808 * (zs.length : Int) := by
 induction zs with
 | nil => simp
 | cons z zs ih =>
   have h1 := hr z (by simp)
   have h2 := ih (fun y hy => hr y (by simp [hy]))
   simp only [List.sum_cons, List.length_cons]
   omega
theorem qtj (zs : List Int) (k : Nat) (h : k < zs.length) : (zs.take (k + 1)).sum = (zs.take k).sum + zs.getD k 0 := by
 rw [List.take_succ_eq_append_getElem h, List.sum_append]
 simp only [List.getD, List.sum_cons, List.sum_nil, xac h, Option.getD_some, Int.add_zero]
theorem qng (S x : Int) (h1 : -9223372036854775808 <= x) (h2 : x <= 9223372036854775807) :
 (S + IntKind.u64.wrap x) % 18446744073709551616 = (S + x) % 18446744073709551616 ∧
 S / 18446744073709551616 + (x / 9223372036854775808 + (S % 18446744073709551616 + IntKind.u64.wrap x) / 18446744073709551616) = (S + x) / 18446744073709551616 := by
 rw [IntKind.wrap_u64]
 have hx : x / 9223372036854775808 = 0 \/ x / 9223372036854775808 = -1 := by omega
 have hm : x % 18446744073709551616 = x - 18446744073709551616 * (x / 9223372036854775808) := by omega
 rw [hm]
 generalize x / 9223372036854775808 = c at *
 omega
theorem qo8 (x y : Int) (hx : 0 <= x) (hy : 0 <= y) (w : World) :
 (callFunc 130 #[.int .u64 x, .int .u64 y, .int .u64 0]).run Tryz.prog w =
  .ok (.value (.tuple #[.int .u64 ((x + y) % 18446744073709551616), .int .u64 ((x + y) / 18446744073709551616)])) w := by
 rw [run_callFunc_extern Tryz.func130 (by kernel_rfl) (by kernel_rfl) (by kernel_rfl) (e := add64Entry) (by kernel_rfl), run_add64 x y 0 hx hy (by omega) (by omega)]
 simp only [Result.andThen, Int.add_zero]
theorem qp5 (a : Addr) (zs : List Int) (cap : Nat) (w : World) (hl : zs.length <= 1152921504606846976)
 (hc : ∀ j, j < zs.length -> w.cell? (a.add j) = some (.int .i64 (zs.getD j 0))) (hr : ∀ z ∈ zs, -9223372036854775808 <= z /\ z <= 9223372036854775807) :
 Calls Tryz.prog 104 #[.slice (some a) zs.length cap] w fun e w' => e = .returned (.tuple #[.int .i64 (zs.sum / 18446744073709551616), .int .u64 (zs.sum % 18446744073709551616)]) /\ w = w' := by
 go_enter Tryz.func104, Tryz.ntmps104
 go_wp2
 go_loop [2, 3, 9] (fun h l i => ∃ k : Nat, k <= zs.length /\ i = .int .i64 k /\ h = .int .i64 ((zs.take k).sum / 18446744073709551616) /\ l = .int .u64 ((zs.take k).sum % 18446744073709551616)) (fun _ _ i => zs.length - (intOf i).toNat)
 case atStart => exact ⟨0, Nat.zero_le _, rfl, by simp, by simp⟩
 case round =>
  obtain ⟨k, hk, rfl, rfl, rfl⟩ := hrel
  by_cases hlt : k < zs.length
  ·have hck := hc k hlt
   have hz := hr (zs.getD k 0) (by simp [List.getD, hlt])
   have hb := qw0 (zs.take k) (fun z hz => hr z (List.mem_of_mem_take hz))
   rw [List.length_take, Nat.min_eq_left (by omega)] at hb
   have HT := xaa (qtj zs k hlt)
   generalize zs.getD k 0 = x at *
   generalize (zs.take k).sum = S at *
   clear hc hr
   obtain ⟨e1, e2⟩ := qng S x hz.1 hz.2
   have E1 := xaa e1
   have E2 := xaa e2
   clear e1 e2
   have hwx : 0 <= IntKind.u64.wrap x /\ IntKind.u64.wrap x <= 18446744073709551615 := by rw [IntKind.wrap_u64]; omega
   have hs := fun w : World => qo8 (S % 18446744073709551616) (IntKind.u64.wrap x) (by omega) (by omega) w
   go_wp2
   go_round
   case rel => exact ⟨k + 1, by omega, by go_num, by rw [HT.out, <- E2.out], by rw [HT.out, <- E1.out]⟩
   case measure => simp [intOf]; omega
  ·go_wp2
   go_ret2
   have : k = zs.length := by omega
   subst this
   simp
theorem qp4 (w : World) :
 Calls Tryz.prog 104 #[.slice none 0 0] w fun e w' => e = .returned (.tuple #[.int .i64 0, .int .u64 0]) /\ w = w' := by
 go_enter Tryz.func104, Tryz.ntmps104
 go_wp2
 refine wp_loop_rounds 1 ?_
 rw [rounds_succ]
 go_wp2
 go_ret2
 exact ⟨rfl, rfl⟩
theorem qyq (a : Addr) (zs : List Int) (cap : Nat) (w : World) (hl : zs.length <= 1152921504606846976)
 (hc : ∀ j, j < zs.length -> w.cell? (a.add j) = some (.int .i64 (zs.getD j 0))) (hr : ∀ z ∈ zs, -9223372036854775808 <= z /\ z <= 9223372036854775807) :
 Calls Tryz.prog 56 #[.slice (some a) zs.length cap] w fun e w' => e = .returned (.tuple #[.int .i64 (fitV zs.sum), .int .i64 (fitE zs.sum)]) /\ w = w' := by
 have hb := qw0 zs hr
 have C := qp5 a zs cap w hl hc hr
 have D := qhh zs.sum w (by omega) (by omega)
 clear hc hr
 have C1 := xaa C
 have D1 := xaa D
 clear C D
 go_enter Tryz.func56, Tryz.ntmps56
 go_wp2_with fail
 refine C1.out.mono ?_
 rintro e w' ⟨rfl, rfl⟩
 go_wp2_with fail
 refine D1.out.mono ?_
 rintro e w' ⟨rfl, rfl⟩
 go_wp2_with fail
 go_ret2
 exact ⟨rfl, rfl⟩
theorem sum_nil (w : World) :
 Calls Tryz.prog 56 #[.slice none 0 0] w fun e w' => e = .returned (.tuple #[.int .i64 0, .int .i64 0]) /\ w = w' := by
 have D := qhh 0 w (by omega) (by omega)
 rw [show fitV 0 = 0 from rfl, show fitE 0 = 0 from rfl, show (0 : Int) / 18446744073709551616 = 0 from rfl, show (0 : Int) % 18446744073709551616 = 0 from rfl] at D
 have D1 := xaa D
 clear D
 go_enter Tryz.func56, Tryz.ntmps56
 go_wp2_with fail
 refine (qp4 _).mono ?_
 rintro e w' ⟨rfl, rfl⟩
 go_wp2_with fail
 refine D1.out.mono ?_
 rintro e w' ⟨rfl, rfl⟩
 go_wp2_with fail
 go_ret2
 exact ⟨rfl, rfl⟩
end Fo
end Go.Proofs.YtmceblkjbpbcoaaGreatDoor
