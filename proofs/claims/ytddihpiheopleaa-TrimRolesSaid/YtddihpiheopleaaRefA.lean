/- Contracts of the document's answers (package stickfulref01): May, fits, size, Halves, Sum, Stop: each is what the program's own function gives. Conditions: the arguments are of their types; a list has at most 1000 numbers. -/
import Derived.Test.YtddihpiheopleaaUnitF
namespace Go.Proofs.Ytddihpiheopleaa.Fo
open Go.ChangeShapes Go.WideShapes Go.ChangeAt Go.RowKit

set_option maxHeartbeats 400000 in
theorem rfits_yes (n : Int) (w : World) (h1 : -4611686018427387904 ≤ n) (h2 : n ≤ 4611686018427387904) :
    Calls Try.prog 50 #[.int .i64 n] w fun e w' => e = .returned (.bool true) ∧ w = w' := by
  go_enter Try.func50, Try.ntmps50
  go_wp2
  go_ret
  exact ⟨retb (by simp), rfl⟩

set_option maxHeartbeats 400000 in
theorem rfits_no (n : Int) (w : World) (h : n < -4611686018427387904 ∨ 4611686018427387904 < n) :
    Calls Try.prog 50 #[.int .i64 n] w fun e w' => e = .returned (.bool false) ∧ w = w' := by
  rcases h with h | h
  · go_enter Try.func50, Try.ntmps50
    go_wp2
    go_ret
    exact ⟨retb (by simp), rfl⟩
  · have h2 : -4611686018427387904 ≤ n := by omega
    go_enter Try.func50, Try.ntmps50
    go_wp2
    go_ret
    exact ⟨retb (by simp; omega), rfl⟩

theorem tdiv2 (n : Int) : ∃ d r : Int, n.tdiv 2 = d ∧ n.tmod 2 = r ∧ -2 < r ∧ r < 2 ∧ n = 2 * d + r ∧ (0 ≤ n → 0 ≤ r) ∧ (n ≤ 0 → r ≤ 0) := by
  refine ⟨n.tdiv 2, n.tmod 2, rfl, rfl, ?_⟩
  have h := Int.tmod_add_mul_tdiv n 2
  rcases Int.lt_or_le n 0 with hn | hn
  · obtain ⟨y, rfl⟩ : ∃ y, n = -y := ⟨-n, by omega⟩
    have e1 : (-y).tmod 2 = -(y % 2) := by rw [Int.neg_tmod, Int.tmod_eq_emod_of_nonneg (by omega)]
    omega
  · rw [Int.tmod_eq_emod_of_nonneg hn] at *
    omega

theorem tdivM (n : Int) : ∃ d r : Int, n.tdiv 1000000 = d ∧ n.tmod 1000000 = r ∧ -1000000 < r ∧ r < 1000000 ∧ n = 1000000 * d + r ∧ (0 ≤ n → 0 ≤ r) ∧ (n ≤ 0 → r ≤ 0) := by
  refine ⟨n.tdiv 1000000, n.tmod 1000000, rfl, rfl, ?_⟩
  have h := Int.tmod_add_mul_tdiv n 1000000
  rcases Int.lt_or_le n 0 with hn | hn
  · obtain ⟨y, rfl⟩ : ∃ y, n = -y := ⟨-n, by omega⟩
    have e1 : (-y).tmod 1000000 = -(y % 1000000) := by rw [Int.neg_tmod, Int.tmod_eq_emod_of_nonneg (by omega)]
    omega
  · rw [Int.tmod_eq_emod_of_nonneg hn] at *
    omega

set_option maxHeartbeats 1000000 in
theorem rsum_any (a : Addr) (zs : List Int) (cap : Nat) (w : World) (hl : zs.length ≤ 1000)
    (hc : ∀ j, j < zs.length → w.cell? (a.add j) = some (.int .i64 (zs.getD j 0))) (hr : ∀ z ∈ zs, -9223372036854775808 ≤ z ∧ z ≤ 9223372036854775807) :
    Calls Try.prog 46 #[.slice (some a) zs.length cap] w fun e w' => e = .returned (.tuple #[.int .i64 (fitV zs.sum), .int .i64 (fitE zs.sum)]) ∧ w = w' := by
  go_enter Try.func46, Try.ntmps46
  go_wp2_with fail
  go_loop [4, 5, 6] (fun h l i => ∃ (k : Nat) (H L : Int), k ≤ zs.length ∧ i = .int .i64 k ∧ h = .int .i64 H ∧ l = .int .i64 L ∧ Hid (H * 1000000 + L = (zs.take k).sum) ∧ -9223372036855 * (k : Int) ≤ H ∧ H ≤ 9223372036855 * (k : Int) ∧ -1000000 * (k : Int) ≤ L ∧ L ≤ 1000000 * (k : Int)) (fun _ _ i => zs.length - (intOf i).toNat)
  case atStart => exact ⟨0, 0, 0, Nat.zero_le _, rfl, rfl, rfl, by show _ = _; simp, by omega, by omega, by omega, by omega⟩
  case round =>
    obtain ⟨k, H, L, hk, rfl, rfl, rfl, HS, b1, b2, b3, b4⟩ := hrel
    by_cases hlt : k < zs.length
    · have hck := hc k hlt
      have hz := hr (zs.getD k 0) (by simp [List.getD, hlt])
      have HT := Lib.hid (take_sum zs k hlt)
      generalize zs.getD k 0 = x at *
      clear hc hr
      obtain ⟨d, r, hd, hm, c1, c2, e, _, _⟩ := tdivM x
      have E := Lib.hid e
      have c3 : -9223372036855 ≤ d ∧ d ≤ 9223372036855 := by omega
      clear e
      go_wp2_with fail
      go_round
      case rel => exact ⟨k + 1, H + d, L + r, by omega, by go_num, rfl, rfl, by show _ = _; rw [HT.out, E.out, ← HS.out, Int.add_mul]; omega, by omega, by omega, by omega, by omega⟩
      case measure => simp [intOf]; omega
    · have hkk : k = zs.length := by omega
      rw [hkk, List.take_length] at HS
      obtain ⟨d, r, hd, hm, c1, c2, e, c3, c4⟩ := tdivM L
      have E := Lib.hid e
      have c5 : -1001 ≤ d ∧ d ≤ 1001 := by omega
      have hkb : k ≤ 1000 := by omega
      clear e hc hr hkk
      by_cases t1 : 4611686018428 < H + d
      · have f : fitV zs.sum = 0 ∧ fitE zs.sum = 10 := by
          have := HS.out; have := E.out
          unfold fitV fitE
          rw [if_neg (by omega), if_neg (by omega)]; exact ⟨rfl, rfl⟩
        have F := Lib.hid f
        clear f
        go_wp2_with fail
        go_ret2
        exact ⟨ret2 F.out.1.symm F.out.2.symm, rfl⟩
      · by_cases t2 : H + d < -4611686018428
        · have f : fitV zs.sum = 0 ∧ fitE zs.sum = 10 := by
            have := HS.out; have := E.out
            unfold fitV fitE
            rw [if_neg (by omega), if_neg (by omega)]; exact ⟨rfl, rfl⟩
          have F := Lib.hid f
          clear f
          go_wp2_with fail
          go_ret2
          exact ⟨ret2 F.out.1.symm F.out.2.symm, rfl⟩
        · have HN : Hid ((H + d) * 1000000 + r = zs.sum) := by show _ = _; rw [← HS.out, E.out, Int.add_mul]; omega
          by_cases t3 : (H + d) * 1000000 + r < -4611686018427387904 ∨ 4611686018427387904 < (H + d) * 1000000 + r
          · have f : fitV zs.sum = 0 ∧ fitE zs.sum = 10 := by
              have := HN.out
              unfold fitV fitE
              rw [if_neg (by omega), if_neg (by omega)]; exact ⟨rfl, rfl⟩
            have F := Lib.hid f
            have T3 := Lib.hid t3
            clear f t3
            go_wp2_with fail
            refine (rfits_no _ _ T3.out).mono ?_
            rintro e w1 ⟨rfl, rfl⟩
            go_wp2_with fail
            go_ret2
            exact ⟨ret2 F.out.1.symm F.out.2.symm, rfl⟩
          · have f := fits_is zs.sum (by have := HN.out; omega) (by have := HN.out; omega)
            have F := Lib.hid f
            have t4 : -4611686018427387904 ≤ (H + d) * 1000000 + r ∧ (H + d) * 1000000 + r ≤ 4611686018427387904 := by omega
            clear f t3
            go_wp2_with fail
            refine (rfits_yes _ _ t4.1 t4.2).mono ?_
            rintro e w1 ⟨rfl, rfl⟩
            go_wp2_with fail
            go_ret2
            exact ⟨ret2 (by rw [F.out.1, HN.out]) F.out.2.symm, rfl⟩

set_option maxHeartbeats 400000 in
theorem rsum_nil (w : World) :
    Calls Try.prog 46 #[.slice none 0 0] w fun e w' => e = .returned (.tuple #[.int .i64 0, .int .i64 0]) ∧ w = w' := by
  go_enter Try.func46, Try.ntmps46
  go_wp2_with fail
  refine wp_loop_rounds 1 ?_
  rw [rounds_succ]
  go_wp2_with fail
  refine (rfits_yes _ _ (by omega) (by omega)).mono ?_
  rintro e w1 ⟨rfl, rfl⟩
  go_wp2_with fail
  go_ret2
  exact ⟨rfl, rfl⟩

set_option maxHeartbeats 400000 in
theorem rstop_arg (x s : Int) (w : World) (h : s < 1) :
    Calls Try.prog 47 #[.int .i64 x, .int .i64 s] w fun e w' => e = .returned (.tuple #[.int .i64 0, .int .i64 2]) ∧ Kept w w' := by
  go_enter Try.func47, Try.ntmps47
  go_wp2
  go_ret2
  exact ⟨rfl, Kept.refl _⟩

theorem rsum3 (x y z : Int) (t : TypeId) (g : Nat) (w0 : World) (hg : g = w0.heap.size) (hx : -9223372036854775808 ≤ x ∧ x ≤ 9223372036854775807) (hy : -9223372036854775808 ≤ y ∧ y ≤ 9223372036854775807) (hz : -9223372036854775808 ≤ z ∧ z ≤ 9223372036854775807) :
    Calls Try.prog 46 #[.slice (some ⟨g, 0, none⟩) 3 3] (w0.alloc (.cells #[.int .i64 x, .int .i64 y, .int .i64 z] t)) fun e w' => e = .returned (.tuple #[.int .i64 (fitV (x + (y + z))), .int .i64 (fitE (x + (y + z)))]) ∧ (w0.alloc (.cells #[.int .i64 x, .int .i64 y, .int .i64 z] t)) = w' := by
  subst hg
  have h := rsum_any ⟨w0.heap.size, 0, none⟩ [x, y, z] 3 (w0.alloc (.cells #[.int .i64 x, .int .i64 y, .int .i64 z] t)) (by simp) (fun j hj => by
    have : j = 0 ∨ j = 1 ∨ j = 2 := by simp at hj; omega
    rw [add_plain, World.cell?_alloc_new]
    rcases this with rfl | rfl | rfl <;> simp) (by simp; omega)
  simpa using h

set_option maxHeartbeats 1000000 in
theorem rstop_any (x s : Int) (w : World) (hx : -9223372036854775808 ≤ x ∧ x ≤ 9223372036854775807) (hs : 1 ≤ s ∧ s ≤ 9223372036854775807) :
    Calls Try.prog 47 #[.int .i64 x, .int .i64 s] w fun e w' => e = .returned (.tuple #[.int .i64 (fitV (x + s - x % s)), .int .i64 (fitE (x + s - x % s))]) ∧ Kept w w' := by
  obtain ⟨r, hr, hr1, hr2, hp1, hp2⟩ : ∃ r : Int, x.tmod s = r ∧ -s < r ∧ r < s ∧ (r < 0 → x % s = r + s) ∧ (0 ≤ r → x % s = r) :=
    ⟨x.tmod s, rfl, (tmod_is x s hs.1).1, (tmod_is x s hs.1).2.1, (tmod_is x s hs.1).2.2.1, (tmod_is x s hs.1).2.2.2⟩
  have P1 := Lib.hid hp1
  have P2 := Lib.hid hp2
  have es : (s == 0) = false := by simp; omega
  clear hp1 hp2
  by_cases h : r < 0
  · have E : Hid (x + s - x % s = x + (-(r + s) + s)) := by show _ = _; rw [P1.out h]; omega
    rw [E.out]
    go_enter Try.func47, Try.ntmps47
    go_wp2_with fail
    refine (rsum3 x (-(r + s)) s _ _ _ (by simp) (by omega) (by omega) (by omega)).mono ?_
    rintro e w1 ⟨rfl, rfl⟩
    go_wp2_with fail
    go_ret2
    exact ⟨rfl, (Kept.refl _).alloc _ _⟩
  · have E : Hid (x + s - x % s = x + (-r + s)) := by show _ = _; rw [P2.out (by omega)]; omega
    rw [E.out]
    go_enter Try.func47, Try.ntmps47
    go_wp2_with fail
    refine (rsum3 x (-r) s _ _ _ (by simp) (by omega) (by omega) (by omega)).mono ?_
    rintro e w1 ⟨rfl, rfl⟩
    go_wp2_with fail
    go_ret2
    exact ⟨rfl, (Kept.refl _).alloc _ _⟩
end Go.Proofs.Ytddihpiheopleaa.Fo
