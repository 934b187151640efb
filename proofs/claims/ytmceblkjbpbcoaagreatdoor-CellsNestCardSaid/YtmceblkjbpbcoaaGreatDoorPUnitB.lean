/- Contracts of layers below. -/
import Derived.Test.YtmceblkjbpbcoaaGreatDoorPMath
import Derived.Deep.RegionWith
import Derived.Deep.RegionHeld3
import Derived.Test.YtmceblkjbpbcoaaGreatDoorPBase
import Derived.KernelRfl
import Derived.Laws.Rows
import Derived.Shelf.RegionOpen
namespace Go.Proofs.YtmceblkjbpbcoaaGreatDoor
set_option maxRecDepth 100000
set_option maxHeartbeats 2000000
open Go.ChangeShapes Go.WideShapes Go.ChangeAt Go.RowKit
namespace Fo
def Kept (w w' : World) : Prop := Below w.heap.size w w' /\ (∀ a, w'.frozen? a = w.frozen? a) /\ w.heap.size <= w'.heap.size
theorem Kept.refl (w : World) : Kept w w := ⟨xas, fun _ => rfl, xat⟩
theorem Kept.alloc {w w' : World} (h : Kept w w') (c : Array Value) (t : TypeId) : Kept w (w'.alloc (.cells c t)) :=
 ⟨h.1.alloc h.2.2 _, fun a => (frozen?_alloc_cells _ _ _ a).trans (h.2.1 a), xau h.2.2 (by show w'.heap.size <= (w'.heap.push _).size; simp)⟩
theorem kept_trans {a b c : World} (h : Kept a b) (k : Kept b c) : Kept a c :=
 ⟨h.1.trans (k.1.mono h.2.2), fun x => (k.2.1 x).trans (h.2.1 x), xau h.2.2 k.2.2⟩
theorem qeq {a b : World} (h : Kept a b) (n : Nat) : Kept a (b.drewN n) := kept_trans h ⟨⟨rfl, rfl, rfl, xat, fun _ _ => rfl⟩, fun _ => rfl, xat⟩
def upB (whole rest : Nat) (below : Bool) : Bool := if below then decide (whole < 2 * rest) else decide (whole <= 2 * rest)
theorem qhg (whole rest : Nat) (below : Bool) (a8 a9 : Addr) (w : World) (h1 : rest < whole) (h2 : whole < 9223372036854775808)
 (c8 : w.cell? a8 = some (.int .u64 whole)) (c9 : w.cell? a9 = some (.bool below)) :
 Calls Tryz.prog 131 #[.int .u64 rest, .pointer (some a8), .pointer (some a9)] w fun e w' => e = .returned (.bool (upB whole rest below)) /\ w = w' := by
 cases below
 ·go_enter Tryz.func131, Tryz.ntmps131
  go_wp2
  go_ret
  exact ⟨qak (by unfold upB; simp; omega), rfl⟩
 ·go_enter Tryz.func131, Tryz.ntmps131
  go_wp2
  go_ret
  exact ⟨qak (by unfold upB; simp; omega), rfl⟩
def sc (P O : Nat) (below : Bool) : Int := if below then -((P / O + (if upB O (P % O) below then 1 else 0) : Nat) : Int) else ((P / O + (if upB O (P % O) below then 1 else 0) : Nat) : Int)
def Signs (n b : Int) (below : Bool) : Prop := (n < 0 /\ ¬ b < 0 /\ below = true) \/ (¬ n < 0 /\ b < 0 /\ below = true) \/ (n < 0 /\ b < 0 /\ below = false) \/ (¬ n < 0 /\ ¬ b < 0 /\ below = false)
theorem qh9 (P O : Nat) (below : Bool) (h : 4611686018427387904 < P / O) : fitV (sc P O below) = 0 /\ fitE (sc P O below) = 10 := by
 unfold fitV fitE sc
 cases below <;> simp only [if_true, Bool.false_eq_true, if_false] <;> rw [if_neg (by omega), if_neg (by omega)] <;> exact ⟨rfl, rfl⟩
theorem qq5 (P O : Nat) (o1 : 1 <= O) (h : O <= P / 18446744073709551616) : 4611686018427387904 < P / O := by
 have h2 : O * 18446744073709551616 <= P := by omega
 have : 18446744073709551616 <= P / O := by rw [Nat.le_div_iff_mul_le (by omega)]; omega
 omega
theorem qyy (n b : Int) (P O : Nat) (below : Bool) (w : World) (hn : -9223372036854775808 <= n /\ n <= 9223372036854775807) (hb : -9223372036854775808 <= b /\ b <= 9223372036854775807) (o1 : 1 <= O) (o2 : O < 9223372036854775808)
 (hs : Signs n b below) (hP : Hid (n.natAbs * b.natAbs = P)) (h : O <= P / 18446744073709551616) :
 Calls Tryz.prog 107 #[.int .i64 n, .int .i64 b, .int .i64 O] w fun e w' => e = .returned (.tuple #[.int .i64 0, .int .i64 10]) /\ Kept w w' := by
 rcases hs with ⟨s1, s2, rfl⟩ | ⟨s1, s2, rfl⟩ | ⟨s1, s2, rfl⟩ | ⟨s1, s2, rfl⟩
 all_goals
  go_enter Tryz.func107, Tryz.ntmps107
  go_wp2_with fail
  refine (qay n _ (by omega) (by omega)).mono ?_
  rintro e w' ⟨rfl, rfl⟩
  go_wp2_with fail
  refine (qay b _ (by omega) (by omega)).mono ?_
  rintro e w' ⟨rfl, rfl⟩
  go_wp2_with fail
  refine (qd8 n.natAbs b.natAbs (by omega) (by omega) _).mono ?_
  rintro e w' ⟨rfl, rfl⟩
  rw [hP.out]
  go_wp2_with fail
  go_ret2
  exact ⟨rfl, ((Kept.refl _).alloc _ _).alloc _ _⟩
theorem qyx (n b : Int) (P O : Nat) (below : Bool) (w : World) (hn : -9223372036854775808 <= n /\ n <= 9223372036854775807) (hb : -9223372036854775808 <= b /\ b <= 9223372036854775807) (o1 : 1 <= O) (o2 : O < 9223372036854775808)
 (hs : Signs n b below) (hP : Hid (n.natAbs * b.natAbs = P)) (h : P / 18446744073709551616 < O) (h2 : 4611686018427387904 < P / O) :
 Calls Tryz.prog 107 #[.int .i64 n, .int .i64 b, .int .i64 O] w fun e w' => e = .returned (.tuple #[.int .i64 0, .int .i64 10]) /\ Kept w w' := by
 have h3 : ¬ O <= P / 18446744073709551616 := by omega
 rcases hs with ⟨s1, s2, rfl⟩ | ⟨s1, s2, rfl⟩ | ⟨s1, s2, rfl⟩ | ⟨s1, s2, rfl⟩
 all_goals
  go_enter Tryz.func107, Tryz.ntmps107
  go_wp2_with fail
  refine (qay n _ (by omega) (by omega)).mono ?_
  rintro e w' ⟨rfl, rfl⟩
  go_wp2_with fail
  refine (qay b _ (by omega) (by omega)).mono ?_
  rintro e w' ⟨rfl, rfl⟩
  go_wp2_with fail
  refine (qd8 n.natAbs b.natAbs (by omega) (by omega) _).mono ?_
  rintro e w' ⟨rfl, rfl⟩
  rw [hP.out]
  go_wp2_with fail
  refine (qgj P O _ (by omega) (by omega) (by omega)).mono ?_
  rintro e w' ⟨rfl, nd, rfl⟩
  go_wp2_with fail
  go_ret2
  exact ⟨rfl, qeq (((Kept.refl _).alloc _ _).alloc _ _) _⟩
theorem qp7 (zs : List Int) (n : Nat) (hz : zs.length = n) (t : TypeId) (g : Nat) (w0 : World) (hg : g = w0.heap.size) (hn : n <= 1152921504606846976) (hr : ∀ z ∈ zs, -9223372036854775808 <= z /\ z <= 9223372036854775807) :
 Calls Tryz.prog 56 #[.slice (some ⟨g, 0, none⟩) n n] (w0.alloc (.cells (zs.map (Value.int .i64)).toArray t)) fun e w' => e = .returned (.tuple #[.int .i64 (fitV zs.sum), .int .i64 (fitE zs.sum)]) /\ (w0.alloc (.cells (zs.map (Value.int .i64)).toArray t)) = w' := by
 subst hg; subst hz
 refine qyq ⟨w0.heap.size, 0, none⟩ zs zs.length _ hn (fun j hj => ?_) hr
 rw [add_plain, World.cell?_alloc_new]
 simp [hj]
theorem sum1 (x : Int) (t : TypeId) (g : Nat) (w0 : World) (hg : g = w0.heap.size) (hx : -9223372036854775808 <= x /\ x <= 9223372036854775807) :
 Calls Tryz.prog 56 #[.slice (some ⟨g, 0, none⟩) 1 1] (w0.alloc (.cells #[.int .i64 x] t)) fun e w' => e = .returned (.tuple #[.int .i64 (fitV x), .int .i64 (fitE x)]) /\ (w0.alloc (.cells #[.int .i64 x] t)) = w' := by
 have h := qp7 [x] 1 rfl t g w0 hg (by omega) (by simpa using hx)
 simpa using h
end Fo
namespace Fo
theorem ql1 (n b : Int) (P O : Nat) (w : World) (hn : -9223372036854775808 <= n /\ n <= 9223372036854775807) (hb : -9223372036854775808 <= b /\ b <= 9223372036854775807) (o1 : 1 <= O) (o2 : O < 9223372036854775808)
 (hs : (n < 0 /\ ¬ b < 0) \/ (¬ n < 0 /\ b < 0)) (hP : Hid (n.natAbs * b.natAbs = P)) (h : P / 18446744073709551616 < O) (h2 : P / O <= 4611686018427387904) (up : Bool) (hup : upB O (P % O) true = up) :
 Calls Tryz.prog 107 #[.int .i64 n, .int .i64 b, .int .i64 O] w fun e w' => e = .returned (.tuple #[.int .i64 (fitV (sc P O true)), .int .i64 (fitE (sc P O true))]) /\ Kept w w' := by
 have h3 : ¬ O <= P / 18446744073709551616 := by omega
 obtain ⟨Q, hQ, hq, HQ⟩ : ∃ Q : Nat, (P : Int) / (O : Int) = (Q : Int) /\ Q <= 4611686018427387904 /\ Hid (P / O = Q) := ⟨P / O, (Int.natCast_ediv P O).symm, h2, rfl⟩
 have h5 := Nat.mod_lt P o1
 have HU := xaa hup
 have HS : Hid (sc P O true = -((P / O + (if up then 1 else 0) : Nat) : Int)) := by
  show _ = _
  unfold sc
  rw [hup]
  simp
 rw [HQ.out] at HS
 clear hup h2
 rcases hs with ⟨s1, s2⟩ | ⟨s1, s2⟩ <;> cases up
 all_goals
  go_enter Tryz.func107, Tryz.ntmps107
  go_wp2_with fail
  refine (qay n _ (by omega) (by omega)).mono ?_
  rintro e w' ⟨rfl, rfl⟩
  go_wp2_with fail
  refine (qay b _ (by omega) (by omega)).mono ?_
  rintro e w' ⟨rfl, rfl⟩
  go_wp2_with fail
  refine (qd8 n.natAbs b.natAbs (by omega) (by omega) _).mono ?_
  rintro e w' ⟨rfl, rfl⟩
  rw [hP.out]
  go_wp2_with fail
  refine (qgj P O _ (by omega) (by omega) (by omega)).mono ?_
  rintro e w' ⟨rfl, nd, rfl⟩
  go_wp2_with fail
  refine (qhg O (P % O) true _ _ _ (by omega) (by omega) (by simp) (by simp)).mono ?_
  rintro e w' ⟨rfl, rfl⟩
  rw [HU.out]
  go_wp2_with fail
  refine (sum1 _ _ _ _ (by simp) (by omega)).mono ?_
  rintro e w' ⟨rfl, rfl⟩
  go_wp2_with fail
  go_ret2
  rw [HS.out]
  exact ⟨by simp, kept_trans (qeq (((Kept.refl _).alloc _ _).alloc _ _) nd) ((Kept.refl _).alloc _ _)⟩
theorem ql2 (n b : Int) (P O : Nat) (w : World) (hn : -9223372036854775808 <= n /\ n <= 9223372036854775807) (hb : -9223372036854775808 <= b /\ b <= 9223372036854775807) (o1 : 1 <= O) (o2 : O < 9223372036854775808)
 (hs : (n < 0 /\ b < 0) \/ (¬ n < 0 /\ ¬ b < 0)) (hP : Hid (n.natAbs * b.natAbs = P)) (h : P / 18446744073709551616 < O) (h2 : P / O <= 4611686018427387904) (up : Bool) (hup : upB O (P % O) false = up) :
 Calls Tryz.prog 107 #[.int .i64 n, .int .i64 b, .int .i64 O] w fun e w' => e = .returned (.tuple #[.int .i64 (fitV (sc P O false)), .int .i64 (fitE (sc P O false))]) /\ Kept w w' := by
 have h3 : ¬ O <= P / 18446744073709551616 := by omega
 obtain ⟨Q, hQ, hq, HQ⟩ : ∃ Q : Nat, (P : Int) / (O : Int) = (Q : Int) /\ Q <= 4611686018427387904 /\ Hid (P / O = Q) := ⟨P / O, (Int.natCast_ediv P O).symm, h2, rfl⟩
 have h5 := Nat.mod_lt P o1
 have HU := xaa hup
 have HS : Hid (sc P O false = ((P / O + (if up then 1 else 0) : Nat) : Int)) := by
  show _ = _
  unfold sc
  rw [hup]
  simp
 rw [HQ.out] at HS
 clear hup h2
 rcases hs with ⟨s1, s2⟩ | ⟨s1, s2⟩ <;> cases up
 all_goals
  go_enter Tryz.func107, Tryz.ntmps107
  go_wp2_with fail
  refine (qay n _ (by omega) (by omega)).mono ?_
  rintro e w' ⟨rfl, rfl⟩
  go_wp2_with fail
  refine (qay b _ (by omega) (by omega)).mono ?_
  rintro e w' ⟨rfl, rfl⟩
  go_wp2_with fail
  refine (qd8 n.natAbs b.natAbs (by omega) (by omega) _).mono ?_
  rintro e w' ⟨rfl, rfl⟩
  rw [hP.out]
  go_wp2_with fail
  refine (qgj P O _ (by omega) (by omega) (by omega)).mono ?_
  rintro e w' ⟨rfl, nd, rfl⟩
  go_wp2_with fail
  refine (qhg O (P % O) false _ _ _ (by omega) (by omega) (by simp) (by simp)).mono ?_
  rintro e w' ⟨rfl, rfl⟩
  rw [HU.out]
  go_wp2_with fail
  refine (sum1 _ _ _ _ (by simp) (by omega)).mono ?_
  rintro e w' ⟨rfl, rfl⟩
  go_wp2_with fail
  go_ret2
  rw [HS.out]
  exact ⟨by simp, kept_trans (qeq (((Kept.refl _).alloc _ _).alloc _ _) nd) ((Kept.refl _).alloc _ _)⟩
end Fo
namespace Fo
def rnd (n b o : Int) : Int := (2 * (n * b) + o) / (2 * o)
theorem qis (a b q : Int) (hb : 0 < b) (h1 : q * b <= a) (h2 : a < q * b + b) : a / b = q := by
 have e1 : q <= a / b := Int.le_ediv_of_mul_le hb h1
 have e2 : a / b < q + 1 := Int.ediv_lt_of_lt_mul hb (by rw [Int.add_mul]; omega)
 omega
theorem rnd_sc (n b : Int) (O : Nat) (below : Bool) (o1 : 1 <= O) (hs : Signs n b below) : rnd n b O = sc (n.natAbs * b.natAbs) O below := by
 have hsign : (below = true -> n * b = -((n.natAbs * b.natAbs : Nat) : Int)) /\ (below = false -> n * b = ((n.natAbs * b.natAbs : Nat) : Int)) := by
  rw [Int.natCast_mul]
  rcases hs with ⟨s1, s2, rfl⟩ | ⟨s1, s2, rfl⟩ | ⟨s1, s2, rfl⟩ | ⟨s1, s2, rfl⟩
  ·refine ⟨fun _ => ?_, by simp⟩
   rw [show (n.natAbs : Int) = -n by omega, show (b.natAbs : Int) = b by omega, Int.neg_mul, Int.neg_neg]
  ·refine ⟨fun _ => ?_, by simp⟩
   rw [show (n.natAbs : Int) = n by omega, show (b.natAbs : Int) = -b by omega, Int.mul_neg, Int.neg_neg]
  ·refine ⟨by simp, fun _ => ?_⟩
   rw [show (n.natAbs : Int) = -n by omega, show (b.natAbs : Int) = -b by omega, Int.neg_mul_neg]
  ·refine ⟨by simp, fun _ => ?_⟩
   rw [show (n.natAbs : Int) = n by omega, show (b.natAbs : Int) = b by omega]
 generalize n.natAbs * b.natAbs = P at *
 have hd := Nat.div_add_mod P O
 have hm := Nat.mod_lt P o1
 unfold rnd
 cases below
 ·rw [hsign.2 rfl]
  unfold sc upB
  simp only [Bool.false_eq_true, if_false, decide_eq_true_eq]
  generalize P / O = Q at *
  generalize P % O = R at *
  subst hd
  rw [Int.natCast_add, Int.natCast_mul]
  split
  ·refine qis _ _ _ (by omega) ?_ ?_ <;> simp only [Int.natCast_add, Int.add_mul, Int.mul_add] <;> rw [show ((Q : Int) * (2 * O)) = 2 * ((O : Int) * Q) by rw [Int.mul_left_comm, Int.mul_comm (Q : Int)]] <;> omega
  ·refine qis _ _ _ (by omega) ?_ ?_ <;> simp only [Int.natCast_add, Int.add_mul, Int.mul_add] <;> rw [show ((Q : Int) * (2 * O)) = 2 * ((O : Int) * Q) by rw [Int.mul_left_comm, Int.mul_comm (Q : Int)]] <;> omega
 ·rw [hsign.1 rfl]
  unfold sc upB
  simp only [if_true, decide_eq_true_eq]
  generalize P / O = Q at *
  generalize P % O = R at *
  subst hd
  rw [Int.natCast_add, Int.natCast_mul]
  split
  ·refine qis _ _ _ (by omega) ?_ ?_ <;> simp only [Int.natCast_add, Int.neg_mul, Int.add_mul, Int.mul_add, Int.mul_neg] <;> rw [show ((Q : Int) * (2 * O)) = 2 * ((O : Int) * Q) by rw [Int.mul_left_comm, Int.mul_comm (Q : Int)]] <;> omega
  ·refine qis _ _ _ (by omega) ?_ ?_ <;> simp only [Int.natCast_add, Int.neg_mul, Int.add_mul, Int.mul_add, Int.mul_neg] <;> rw [show ((Q : Int) * (2 * O)) = 2 * ((O : Int) * Q) by rw [Int.mul_left_comm, Int.mul_comm (Q : Int)]] <;> omega
theorem qqc (n b o : Int) (w : World) (hn : -9223372036854775808 <= n /\ n <= 9223372036854775807) (hb : -9223372036854775808 <= b /\ b <= 9223372036854775807) (ho : 1 <= o /\ o <= 9223372036854775807) :
 Calls Tryz.prog 107 #[.int .i64 n, .int .i64 b, .int .i64 o] w fun e w' => e = .returned (.tuple #[.int .i64 (fitV (rnd n b o)), .int .i64 (fitE (rnd n b o))]) /\ Kept w w' := by
 obtain ⟨O, rfl⟩ := Int.eq_ofNat_of_zero_le (show 0 <= o by omega)
 obtain ⟨below, hs⟩ : ∃ below, Signs n b below := by
  unfold Signs
  by_cases h1 : n < 0 <;> by_cases h2 : b < 0
  ·exact ⟨false, by simp [h1, h2]⟩
  ·exact ⟨true, by simp [h1, h2]⟩
  ·exact ⟨true, by simp [h1, h2]⟩
  ·exact ⟨false, by simp [h1, h2]⟩
 rw [rnd_sc n b O below (by omega) hs]
 by_cases h : O <= n.natAbs * b.natAbs / 18446744073709551616
 ·rw [(qh9 _ O below (qq5 _ O (by omega) h)).1, (qh9 _ O below (qq5 _ O (by omega) h)).2]
  exact qyy n b _ O below w hn hb (by omega) (by omega) hs rfl h
 ·by_cases h2 : 4611686018427387904 < n.natAbs * b.natAbs / O
  ·rw [(qh9 _ O below h2).1, (qh9 _ O below h2).2]
   exact qyx n b _ O below w hn hb (by omega) (by omega) hs rfl (by omega) h2
  ·rcases hs with ⟨s1, s2, rfl⟩ | ⟨s1, s2, rfl⟩ | ⟨s1, s2, rfl⟩ | ⟨s1, s2, rfl⟩
   ·exact ql1 n b _ O w hn hb (by omega) (by omega) (Or.inl ⟨s1, s2⟩) rfl (by omega) (by omega) _ rfl
   ·exact ql1 n b _ O w hn hb (by omega) (by omega) (Or.inr ⟨s1, s2⟩) rfl (by omega) (by omega) _ rfl
   ·exact ql2 n b _ O w hn hb (by omega) (by omega) (Or.inl ⟨s1, s2⟩) rfl (by omega) (by omega) _ rfl
   ·exact ql2 n b _ O w hn hb (by omega) (by omega) (Or.inr ⟨s1, s2⟩) rfl (by omega) (by omega) _ rfl
end Fo
namespace Fo
def atI (n s : Int) : Int := if 0 <= s /\ s <= 1073741824 /\ 0 <= n /\ n <= 8192 then rnd n s 1024 else 0
theorem qql (n s : Int) (h : 0 <= s /\ s <= 1073741824 /\ 0 <= n /\ n <= 8192) : 0 <= n * s /\ n * s <= 8796093022208 /\ 0 <= rnd n s 1024 /\ rnd n s 1024 <= 8589934592 := by
 have h1 : 0 <= n * s := Int.mul_nonneg h.2.2.1 h.1
 have h2 : n * s <= 8192 * 1073741824 := Int.mul_le_mul h.2.2.2 h.2.1 h.1 (by omega)
 unfold rnd
 omega
theorem qe9 (n s : Int) : 0 <= atI n s /\ atI n s <= 8589934592 := by
 unfold atI
 split
 ·rename_i h; exact (qql n s h).2.2
 ·omega
structure Rg where
 f : Int
 t : Int
 a : Int
def fnd (o : Int) (r : Int) : List Rg -> Int
 | [] => o
 | x :: l => if x.f <= r /\ r <= x.t then x.a else fnd o r l
theorem qr1 (o r : Int) : ∀ (l : List Rg), (∀ x ∈ l, ¬ (x.f <= r /\ r <= x.t)) -> fnd o r l = o
 | [], _ => rfl
 | y :: l, h => by
   rw [fnd, if_neg (h y (List.mem_cons_self ..))]
   exact qr1 o r l fun x hx => h x (List.mem_cons_of_mem _ hx)
theorem qxp (o r : Int) (ho : -9223372036854775808 <= o /\ o <= 9223372036854775807) : ∀ (l : List Rg), (∀ x ∈ l, -9223372036854775808 <= x.a /\ x.a <= 9223372036854775807) -> -9223372036854775808 <= fnd o r l /\ fnd o r l <= 9223372036854775807
 | [], _ => ho
 | y :: l, h => by
   unfold fnd
   split
   ·exact h y (List.mem_cons_self ..)
   ·exact qxp o r ho l fun x hx => h x (List.mem_cons_of_mem _ hx)
end Fo
namespace Fo
def Rg.cells (x : Rg) : List Value := [.int .i32 x.f, .int .i32 x.t, .int .i64 x.a]
structure Fnt where
 a : Int
 d : Int
 g : Int
 x : Int
 o : Int
 v : Value
 rs : List Rg
def Fnt.cells (F : Fnt) : Array Value := #[.int .i64 F.a, .int .i64 F.d, .int .i64 F.g, .int .i64 F.x, .int .i64 F.o, F.v]
def Fnt.val (F : Fnt) : Value := .agg F.cells
def W64 (z : Int) : Prop := -9223372036854775808 <= z /\ z <= 9223372036854775807
def W32 (z : Int) : Prop := -2147483648 <= z /\ z <= 2147483647
structure Fnt.Wf (F : Fnt) : Prop where
 a : W64 F.a
 d : W64 F.d
 g : W64 F.g
 x : W64 F.x
 o : W64 F.o
 rs : ∀ y ∈ F.rs, W32 y.f /\ W32 y.t /\ W64 y.a
 len : F.rs.length <= 9223372036854775807
def Fnt.In (F : Fnt) (w : World) : Prop := qa5 3 (fun _ => False) w F.v (F.rs.map Rg.cells)
theorem Fnt.In.below {F : Fnt} {w w' : World} (h : F.In w) (b : Below w.heap.size w w') : F.In w' := qa5.below h b
theorem Fnt.In.form {F : Fnt} {w : World} (h : F.In w) : ∃ A c, F.v = .slice A F.rs.length c := by
 have := qa5.form h
 rwa [xao] at this
theorem Fnt.In.get {F : Fnt} {w wx : World} (h : F.In w) (b : Below w.heap.size w wx) {i : Nat} {x : Rg} (hi : F.rs[i]? = some x) :
 ∃ a cap o, F.v = .slice (some a) F.rs.length cap /\ a.add (i * 3) = ⟨a.block, o, none⟩ /\ wx.cell? ⟨a.block, o, none⟩ = some (.int .i32 x.f) /\ wx.cell? ⟨a.block, o + 1, none⟩ = some (.int .i32 x.t) /\ wx.cell? ⟨a.block, o + 2, none⟩ = some (.int .i64 x.a) := by
 obtain ⟨a, cap, o, hv, _, _, ha, hc⟩ := qa5.get h b (x := x.cells) (by rw [xan, hi]; rfl) (by simp [Rg.cells])
 rw [xao] at hv
 exact ⟨a, cap, o, hv, ha, hc 0 _ rfl, hc 1 _ rfl, hc 2 _ rfl⟩
def mayB (n : Int) : Bool := decide (0 <= n /\ n <= 8192)
theorem qof (n : Int) (w : World) (hn : W64 n) :
 Calls Tryz.prog 106 #[.int .i64 n] w fun e w' => e = .returned (.bool (mayB n)) /\ w = w' := by
 unfold W64 at hn
 by_cases ha : 0 <= n
 ·by_cases hb : n <= 8192
  ·have hf : mayB n = true := decide_eq_true ⟨ha, hb⟩
   rw [hf]
   clear hf
   go_enter Tryz.func106, Tryz.ntmps106
   go_wp2
   go_ret
   exact ⟨rfl, rfl⟩
  ·have hf : mayB n = false := decide_eq_false (by omega)
   rw [hf]
   clear hf
   go_enter Tryz.func106, Tryz.ntmps106
   go_wp2
   go_ret
   exact ⟨rfl, rfl⟩
 ·have hf : mayB n = false := decide_eq_false (by omega)
  rw [hf]
  clear hf
  go_enter Tryz.func106, Tryz.ntmps106
  go_wp2
  go_ret
  exact ⟨rfl, rfl⟩
theorem qwj (n s : Int) (h : 0 <= s /\ s <= 1073741824 /\ 0 <= n /\ n <= 8192) : fitV (rnd n s 1024) = atI n s /\ atI n s = rnd n s 1024 := by
 have e : atI n s = rnd n s 1024 := by unfold atI; rw [if_pos h]
 have h1 := qql n s h
 rw [e]
 refine ⟨?_, rfl⟩
 unfold fitV
 rw [if_pos (by omega)]
theorem q0b (s n : Int) (w : World) (hs : W64 s) (hn : W64 n) :
 Calls Tryz.prog 57 #[.int .i64 s, .int .i64 n] w fun e w' => e = .returned (.int .i64 (atI n s)) /\ Below w.heap.size w w' := by
 have C2 := xaa (fun w => qof n w hn)
 unfold W64 at hs hn
 have C1 := xaa (fun w => qzr s w (by omega) (by omega))
 have C3 := xaa (fun w => qqc n s 1024 w (by omega) (by omega) (by omega))
 by_cases h0 : 0 <= s
 ·by_cases h1 : s <= 1073741824
  ·have e1 : decide (-1073741824 <= s /\ s <= 1073741824) = true := decide_eq_true (by omega)
   rw [e1] at C1
   clear e1
   by_cases h2 : 0 <= n /\ n <= 8192
   ·have e2 : mayB n = true := decide_eq_true h2
    rw [e2] at C2
    clear e2
    rw [(qwj n s ⟨h0, h1, h2⟩).1] at C3
    obtain ⟨z, hz⟩ : ∃ z, fitE (rnd n s 1024) = z := ⟨_, rfl⟩
    rw [hz] at C3
    clear hz
    obtain ⟨y, hy⟩ : ∃ y, atI n s = y := ⟨_, rfl⟩
    rw [hy] at C3 |-
    clear hy
    go_enter Tryz.func57, Tryz.ntmps57
    go_wp2_with fail
    refine (C1.out _).mono ?_
    rintro e w1 ⟨rfl, rfl⟩
    go_wp2_with fail
    refine (C2.out _).mono ?_
    rintro e w2 ⟨rfl, rfl⟩
    go_wp2_with fail
    refine (C3.out _).mono ?_
    rintro e w3 ⟨rfl, b3⟩
    go_wp2_with fail
    go_ret
    exact ⟨rfl, b3.1⟩
   ·have e2 : mayB n = false := decide_eq_false h2
    rw [e2] at C2
    clear e2
    have e3 : atI n s = 0 := by unfold atI; rw [if_neg (by omega)]
    rw [e3]
    clear e3
    go_enter Tryz.func57, Tryz.ntmps57
    go_wp2_with fail
    refine (C1.out _).mono ?_
    rintro e w1 ⟨rfl, rfl⟩
    go_wp2_with fail
    refine (C2.out _).mono ?_
    rintro e w2 ⟨rfl, rfl⟩
    go_wp2_with fail
    go_ret
    exact ⟨rfl, xas⟩
  ·have e1 : decide (-1073741824 <= s /\ s <= 1073741824) = false := decide_eq_false (by omega)
   rw [e1] at C1
   clear e1
   have e3 : atI n s = 0 := by unfold atI; rw [if_neg (by omega)]
   rw [e3]
   clear e3
   go_enter Tryz.func57, Tryz.ntmps57
   go_wp2_with fail
   refine (C1.out _).mono ?_
   rintro e w1 ⟨rfl, rfl⟩
   go_wp2_with fail
   go_ret
   exact ⟨rfl, xas⟩
 ·have e3 : atI n s = 0 := by unfold atI; rw [if_neg (by omega)]
  rw [e3]
  clear e3
  go_enter Tryz.func57, Tryz.ntmps57
  go_wp2_with fail
  go_ret
  exact ⟨rfl, xas⟩
end Fo
namespace Fo
def inB (r : Int) (x : Rg) : Bool := decide (x.f <= r /\ r <= x.t)
theorem q0a (x : Rg) (pr : Nat) (r : Int) (w : World) (hr : w.cell? ⟨pr, 0, none⟩ = some (.int .i32 r)) (hl : pr < w.heap.size) (h1 : W32 x.f /\ W32 x.t) :
 Calls Tryz.prog 109 #[.agg #[.int .i32 x.f, .int .i32 x.t, .int .i64 x.a], .pointer (some ⟨pr, 0, none⟩)] w fun e w' => e = .returned (.bool (inB r x)) /\ Below w.heap.size w w' := by
 obtain ⟨f, t, a⟩ := x
 simp only [W32] at h1
 have HB : Hid (Below w.heap.size w (w.alloc (.cells #[.int .i32 f, .int .i32 t, .int .i64 a] 178))) := xar _ _
 by_cases ha : f <= r
 ·by_cases hb : r <= t
  ·have hf : inB r ⟨f, t, a⟩ = true := decide_eq_true ⟨ha, hb⟩
   rw [hf]
   clear hf
   go_enter Tryz.func109, Tryz.ntmps109
   go_wp2_with fail
   go_ret
   exact ⟨rfl, HB.out⟩
  ·have hf : inB r ⟨f, t, a⟩ = false := decide_eq_false (by show ¬ (f <= r /\ r <= t); omega)
   rw [hf]
   clear hf
   go_enter Tryz.func109, Tryz.ntmps109
   go_wp2_with fail
   go_ret
   exact ⟨rfl, HB.out⟩
 ·have hf : inB r ⟨f, t, a⟩ = false := decide_eq_false (by show ¬ (f <= r /\ r <= t); omega)
  rw [hf]
  clear hf
  go_enter Tryz.func109, Tryz.ntmps109
  go_wp2_with fail
  go_ret
  exact ⟨rfl, HB.out⟩
def Fst (p : Rg -> Bool) (xs : List Rg) (z : Int) : Prop :=
 (∃ (k : Nat) (x : Rg), z = k /\ xs[k]? = some x /\ p x = true /\ ∀ j y, j < k -> xs[j]? = some y -> p y = false) \/ (z = -1 /\ ∀ y ∈ xs, p y = false)
theorem qz4 (g : Nat) (cb : Array Value) (F : Fnt) (p : Rg -> Bool) (w : World) (hF : F.In w) (hw : F.Wf)
 (eg : ∀ args w, (callFunc g args).run Tryz.prog w = .ok (.enter g args) w)
 (hf : ∀ (W : World) (x : Rg), Below w.heap.size w W -> x ∈ F.rs -> Calls Tryz.prog g (#[.agg #[.int .i32 x.f, .int .i32 x.t, .int .i64 x.a]] ++ cb) W fun e W' => e = .returned (.bool (p x)) /\ Below W.heap.size W W') :
 Calls Tryz.prog 108 #[F.v, .func (.func g) #[] cb] w fun e w' => ∃ z : Int, e = .returned (.int .i64 z) /\ Hid (Fst p F.rs z) /\ Below w.heap.size w w' := by
 have HF := xaa hf
 have HI := xaa hF
 have hlen := hw.len
 obtain ⟨A, c, hA⟩ := hF.form
 obtain ⟨n, hn⟩ : ∃ n, F.rs.length = n := ⟨_, rfl⟩
 have HN := xaa hn
 have HV := xaa hA
 rw [hA]
 rw [hn] at hlen hA HV |-
 clear hf hF hA hn hw
 go_enter Tryz.func108, Tryz.ntmps108
 go_wp2
 go_loopg [8] n (fun kx s8 wr => ∃ k : Nat, s8 = .int .i64 k /\ k <= n /\ kx = n - k /\ Below w.heap.size w wr /\ Hid (∀ j y, j < k -> F.rs[j]? = some y -> p y = false))
 case atStart => exact ⟨0, rfl, Nat.zero_le _, by omega, xas, fun j _ h => absurd h (Nat.not_lt_zero j)⟩
 case round =>
  obtain ⟨k, rfl, hk, rfl, bel, I⟩ := hrel
  by_cases hlt : k < n
  ·have hkl : k < F.rs.length := by rw [HN.out]; exact hlt
   obtain ⟨x, hx⟩ : ∃ x, F.rs[k]? = some x := ⟨_, xac hkl⟩
   have hc := HF.out wr x bel (xav hx)
   obtain ⟨a, cap, o, hv, ha, c0, c1, c2⟩ := HI.out.get bel hx
   rw [HV.out] at hv
   injection hv with hv1 hv2 hv3
   subst hv1 hv3
   have HX := xaa hx
   have hkz : (k : Int) < n := by omega
   clear hx hkl hv2
   cases hp : p x <;> rw [hp] at hc
   ·have HP : Hid (p x = false) := hp
    clear hp
    go_wp2_with (go_at_fn g; refine hc.mono ?_; rintro e w' ⟨rfl, bw⟩)
    go_roundg (n - (k + 1))
    case measure => omega
    case rel =>
     refine ⟨k + 1, by go_num, by omega, rfl, bel.trans (bw.mono bel.size), fun j y hj hy => ?_⟩
     rcases Nat.lt_or_ge j k with h | h
     ·exact I.out j y h hy
     ·obtain rfl : j = k := by omega
      rw [HX.out] at hy
      injection hy with hy
      subst hy
      exact HP.out
   ·have HP : Hid (p x = true) := hp
    clear hp
    go_wp2_with (go_at_fn g; refine hc.mono ?_; rintro e w' ⟨rfl, bw⟩)
    go_ret
    exact ⟨k, rfl, .inl ⟨k, x, rfl, HX.out, HP.out, I.out⟩, bel.trans (bw.mono bel.size)⟩
  ·obtain rfl : k = n := by omega
   go_wp2
   go_ret
   refine ⟨-1, rfl, .inr ⟨rfl, fun y hy => ?_⟩, bel⟩
   obtain ⟨j, hj⟩ := List.getElem?_of_mem hy
   exact I.out j y (by rw [<- HN.out]; exact (xah hj).1) hj
theorem qxq (o r : Int) : ∀ (l : List Rg) (k : Nat) (x : Rg), l[k]? = some x -> inB r x = true -> (∀ j y, j < k -> l[j]? = some y -> inB r y = false) -> fnd o r l = x.a
 | [], _, _, h, _, _ => by simp at h
 | y :: l, 0, x, h, hx, _ => by
   injection h with h
   subst h
   rw [fnd, if_pos (of_decide_eq_true hx)]
 | y :: l, k + 1, x, h, hx, hj => by
   have h0 := hj 0 y (by omega) rfl
   rw [fnd, if_neg (of_decide_eq_false h0)]
   exact qxq o r l k x (by simpa using h) hx fun j y hj2 hy => hj (j + 1) y (by omega) (by simpa using hy)
theorem qvp : ∀ args w, (callFunc 109 args).run Tryz.prog w = .ok (.enter 109 args) w := enters_of Tryz.func109 (by kernel_rfl) rfl
def qxr (w : World) (F : Fnt) (r : Int) : World := (w.alloc (.cells F.cells 64)).alloc (.cells #[.int .i32 r] 21)
theorem qes {w W : World} {F : Fnt} {r : Int} (hF : F.In w) (hW : Below (qxr w F r).heap.size (qxr w F r) W) :
 (∀ j u, F.cells[j]? = some u -> W.cell? ⟨w.heap.size, j, none⟩ = some u) /\ W.cell? ⟨w.heap.size + 1, 0, none⟩ = some (.int .i32 r) /\ w.heap.size + 1 < W.heap.size /\ F.In W /\ Below w.heap.size w W := by
 have b1 := xar w (.cells F.cells 64)
 have b2 := xar (w.alloc (.cells F.cells 64)) (.cells #[.int .i32 r] 21)
 have c1 := Blk.new w 64 F.cells
 have c2 := qc0 (w.alloc (.cells F.cells 64)) (.int .i32 r) 21
 have s1 : (w.alloc (.cells F.cells 64)).heap.size = w.heap.size + 1 := by simp
 have s2 : (qxr w F r).heap.size = w.heap.size + 2 := by simp [qxr]
 have s3 := hW.size
 rw [s1] at c2
 have c3 : Blk W w.heap.size 64 F.cells := (c1.kb b2).kb hW
 exact ⟨fun j u hj => (c3.cell j).trans hj, qbj hW (by omega) c2, by omega, ((hF.below b1).below b2).below hW, xaq b1 (xaq b2 hW)⟩
theorem qvk (F : Fnt) (r : Int) (w : World) (hF : F.In w) (hw : F.Wf) :
 Calls Tryz.prog 58 #[F.val, .int .i32 r] w fun e w' => e = .returned (.int .i64 (fnd F.o r F.rs)) /\ Below w.heap.size w w' := by
 have S : Hid (Calls Tryz.prog 108 #[F.v, .func (.func 109) #[] #[.pointer (some ⟨w.heap.size + 1, 0, none⟩)]] (qxr w F r) fun e w' => ∃ z : Int, e = .returned (.int .i64 z) /\ Hid (Fst (inB r) F.rs z) /\ Below (qxr w F r).heap.size (qxr w F r) w') := by
  refine qz4 _ _ F (inB r) _ (qes hF (xas)).2.2.2.1 hw qvp (fun W x hW hx => ?_)
  obtain ⟨_, h1, h2, _, _⟩ := qes hF hW
  exact q0a x _ r W h1 h2 ⟨(hw.rs x hx).1, (hw.rs x hx).2.1⟩
 have HT := xaa hF
 have HL := xaa hw.len
 obtain ⟨Fa, Fd, Fg, Fx, Fo, Fv, Frs⟩ := F
 simp only [Fnt.val, Fnt.cells, qxr] at S |-
 clear hF hw
 go_enter Tryz.func58, Tryz.ntmps58
 go_wp2_with fail
 refine S.out.mono ?_
 rintro e w1 ⟨z, rfl, HFst, b1⟩
 obtain ⟨h1, h2, h3, h4, hb⟩ := qes HT.out b1
 have c4 : w1.cell? ⟨w.heap.size, 4, none⟩ = some (.int .i64 Fo) := h1 4 _ rfl
 have c5 : w1.cell? ⟨w.heap.size, 5, none⟩ = some Fv := h1 5 _ rfl
 clear h1 h2 h3 b1 S
 rcases HFst.out with ⟨k, x, rfl, hk, hp, hj⟩ | ⟨rfl, hn⟩
 ·have HE := xaa (qxq Fo r Frs k x hk hp hj)
  have hkl := (xah hk).1
  obtain ⟨a, cap, o, hv, ha, _, _, c2⟩ := h4.get (Below.refl _ w1) hk
  simp only at hv
  subst hv
  obtain ⟨n, hn⟩ : ∃ n, Frs.length = n := ⟨_, rfl⟩
  have hlen : n <= 9223372036854775807 := by rw [<- hn]; exact HL.out
  rw [hn] at c5 hkl
  have hkz : (k : Int) < n := by omega
  clear hn hk hp hj h4
  go_wp2_with fail
  go_ret
  exact ⟨qb7 HE.out.symm, hb⟩
 ·have HE := xaa (qr1 Fo r Frs (fun x hx h => by have := hn x hx; unfold inB at this; exact of_decide_eq_false this h))
  clear hn h4
  go_wp2_with fail
  go_ret
  exact ⟨qb7 HE.out.symm, hb⟩
end Fo
namespace Fo
theorem qsq {w W : World} {F : Fnt} (hF : F.In w) (hW : Below (w.alloc (.cells F.cells 64)).heap.size (w.alloc (.cells F.cells 64)) W) :
 Blk W w.heap.size 64 F.cells /\ F.In W /\ Below w.heap.size w W :=
 ⟨(Blk.new w 64 F.cells).kb hW, (hF.below (xar _ _)).below hW, xaq (xar _ _) hW⟩
theorem qz9 (F : Fnt) (r : Int) (hw : F.Wf) : W64 (fnd F.o r F.rs) := qxp F.o r hw.o F.rs fun x hx => (hw.rs x hx).2.2
theorem qms (F : Fnt) (s r : Int) (w : World) (hF : F.In w) (hw : F.Wf) (hs : W64 s) :
 Calls Tryz.prog 32 #[F.val, .int .i64 s, .int .i32 r] w fun e w' => e = .returned (.int .i64 (atI (fnd F.o r F.rs) s)) /\ Below w.heap.size w w' := by
 have C1 : Hid (∀ W, Below (w.alloc (.cells F.cells 64)).heap.size (w.alloc (.cells F.cells 64)) W -> Calls Tryz.prog 58 #[F.val, .int .i32 r] W fun e w' => e = .returned (.int .i64 (fnd F.o r F.rs)) /\ Below W.heap.size W w') := fun W hW => qvk F r W (qsq hF hW).2.1 hw
 have C2 : Hid (∀ w : World, Calls Tryz.prog 57 #[.int .i64 s, .int .i64 (fnd F.o r F.rs)] w fun e w' => e = .returned (.int .i64 (atI (fnd F.o r F.rs) s)) /\ Below w.heap.size w w') := fun w => q0b s _ w hs (qz9 F r hw)
 have HB : Hid (Below w.heap.size w (w.alloc (.cells F.cells 64))) := xar _ _
 obtain ⟨n, hn⟩ : ∃ n, fnd F.o r F.rs = n := ⟨_, rfl⟩
 rw [hn] at C1 C2 |-
 obtain ⟨y, hy⟩ : ∃ y, atI n s = y := ⟨_, rfl⟩
 rw [hy] at C2 |-
 obtain ⟨Fa, Fd, Fg, Fx, Fo, Fv, Frs⟩ := F
 simp only [Fnt.val, Fnt.cells] at C1 C2 HB |-
 clear hn hy hF hw hs
 go_enter Tryz.func32, Tryz.ntmps32
 go_wp2_with fail
 refine (C1.out _ (xas)).mono ?_
 rintro e w1 ⟨rfl, b1⟩
 go_wp2_with fail
 refine (C2.out _).mono ?_
 rintro e w2 ⟨rfl, b2⟩
 go_wp2_with fail
 go_ret
 exact ⟨rfl, xaq HB.out (xaq b1 b2)⟩
end Fo
namespace Fo
end Fo
end Go.Proofs.YtmceblkjbpbcoaaGreatDoor
