/- Contract of the reference's Rule, where something that is no space stands ahead. Conditions: the slice reads as the list, at most 1048576 long, of numbers that are not negative; the place is within it. -/
import Derived.Test.YtnoenccpbbkdeaaGO
namespace Go.Proofs.Ytnoenccpbbkdeaa
open Go.ChangeShapes Go.WideShapes Go.ChangeAt Go.RowKit
open Pr

set_option maxRecDepth 100000 in
set_option maxHeartbeats 40000000 in
theorem rruleC_any (l : List Int) (v : Value) (w : World) (hR : R8 w v l) (hcap : Cap v) (hlen : l.length ≤ 1048576) (i : Nat) (x : Int) (hi0 : 0 < i) (hx : l[i]? = some x) (ho : (st s0 (l.take i)).2 = some 15) :
    Calls Try.prog 89 #[v, .int .i64 (i : Int)] w fun e w' => e = .returned (.tuple #[.int .u8 (plcAt (st s0 (l.take i)) x).1, .bool (plcAt (st s0 (l.take i)) x).2]) ∧ Below w.heap.size w w' := by
  have hil := (List.getElem?_eq_some_iff.1 hx).1
  obtain ⟨ad, cap, rfl, _, _, _⟩ := hR.at_ (by rw [r8_len]; omega)
  rw [r8_len] at hR hcap ⊢
  have hc := hcap.le
  obtain ⟨n, hn⟩ : ∃ n, l.length = n := ⟨_, rfl⟩
  have HN := Lib.hid hn
  rw [hn] at hR hlen hc hil ⊢
  have hRt : R8 w (.slice (some ad) (i + 1) cap) (l.take (i + 1)) := by
    have := row_take hR (i + 1) (by omega)
    rw [← r8_take] at this
    exact this
  have HCN := Lib.hid (rcounts_any (l.take (i + 1)) _ w hRt (by rw [List.length_take]; omega))
  obtain ⟨i1, hi1⟩ : ∃ j, i = j + 1 := ⟨i - 1, by omega⟩
  have hi1z : (i : Int) - 1 = (i1 : Int) := by omega
  have hinz : (i : Int) + 1 ≤ cap := by omega
  obtain ⟨a, ha1, ha2, _⟩ := cnt_at (l := l) (j := i1) (k := i + 1) (by omega) (by omega)
  rw [← hi1] at ha2
  obtain ⟨b, hb1, hb2, _⟩ := cnt_at (l := l) (j := i) (k := i + 1) (by omega) (by omega)
  have hcl := cli_at (k := i + 1) (by omega) hx
  have hb3 : (cnt (some a) x).1 = b := by
    rw [st_succ l s0 i hx] at hb2
    unfold nx at hb2
    rw [ha2] at hb2
    exact Option.some.inj hb2
  rw [ha2] at hcl
  obtain ⟨cl, hcl2⟩ : ∃ q, (cnt (some a) x).2 = q := ⟨_, rfl⟩
  rw [hcl2] at hcl
  have hpl : plcAt (st s0 (l.take i)) x = rule a b (some 15) cl := by
    unfold plcAt
    rw [ha2, ho]
    show rule a (cnt (some a) x).1 _ (cnt (some a) x).2 = _
    rw [hb3, hcl2]
  rw [hpl]
  obtain ⟨r, hr⟩ : ∃ r, rule a b (some 15) cl = r := ⟨_, rfl⟩
  have HR := Lib.hid hr
  rw [hr]
  have HO := Lib.hid ho
  have CI : Hid (∀ (L : List Int) (y : Int) (q : Bool), has L y = q → L.length ≤ 1048576 → ∀ W v, R8 W v L → Calls Try.prog 93 #[.int .u8 y, v] W fun e W' => e = .returned (.bool q) ∧ Below W.heap.size W W') := Lib.hid fun L y q hq hL W v h => by
    rw [← hq]
    exact (inref_any v L y W h hL).mono fun e w' h => ⟨h.1, h.2 ▸ Below.refl _ _⟩
  obtain ⟨qa, hqa⟩ : ∃ q, hard a = q := ⟨_, rfl⟩
  have HQA := Lib.hid hqa
  have CA := Lib.hid (CI.out [2, 3, 4] a qa (by rw [← hqa, Bool.eq_iff_iff]; simp [has, hard, or_assoc]) (by decide))
  obtain ⟨qb, hqb⟩ : ∃ q, hard b = q := ⟨_, rfl⟩
  have HQB := Lib.hid hqb
  have CB := Lib.hid (CI.out [2, 3, 4] b qb (by rw [← hqb, Bool.eq_iff_iff]; simp [has, hard, or_assoc]) (by decide))
  obtain ⟨qd, hqd⟩ : ∃ q, (a == 5 || a == 10 || a == 13) = q := ⟨_, rfl⟩
  have HQD := Lib.hid hqd
  have CD := Lib.hid (CI.out [5, 10, 13] a qd (by rw [← hqd, Bool.eq_iff_iff]; simp [has, or_assoc]) (by decide))
  obtain ⟨qe, hqe⟩ : ∃ q, (b == 15 || b == 17 || b == 18) = q := ⟨_, rfl⟩
  have HQE := Lib.hid hqe
  have CE := Lib.hid (CI.out [15, 17, 18] b qe (by rw [← hqe, Bool.eq_iff_iff]; simp [has, or_assoc]) (by decide))
  have CE8 := Lib.hid (CI.out [15, 17, 18] 8 false (by decide) (by decide))
  obtain ⟨qf, hqf⟩ : ∃ q, (b == 10 || b == 13 || b == 19) = q := ⟨_, rfl⟩
  have HQF := Lib.hid hqf
  have CF := Lib.hid (CI.out [10, 13, 19] b qf (by rw [← hqf, Bool.eq_iff_iff]; simp [has, or_assoc]) (by decide))
  have CF8 := Lib.hid (CI.out [10, 13, 19] 8 false (by decide) (by decide))
  have HI1 := Lib.hid hi1
  have hi1i : i1 < i := by omega
  clear hi1 hr ho hpl hqa hqb hqd hqe hqf CI hRt hb2 hb3 hcl2 hn hR hcap ha2
  go_enter Try.func89, Try.ntmps89
  go_wp2_with fail
  refine (HCN.out).mono ?_
  rintro e w1 ⟨u1, u2, rfl, R1, R2, b1⟩
  obtain ⟨a1, c1, rfl, _, _, hc1⟩ := R1.at_ (by rw [r8_len, cntL_len, List.length_take, HN.out]; omega)
  rw [r8_len, cntL_len, List.length_take, HN.out, Nat.min_eq_left (by omega)] at R1 ⊢
  obtain ⟨a2, c2, rfl, hab2, _, hc2⟩ := R2.at_ (by rw [rb_len, cliL_len, List.length_take, HN.out]; omega)
  rw [rb_len, cliL_len, List.length_take, HN.out, Nat.min_eq_left (by omega)] at R2 ⊢
  have q1 := hc1 _ _ (r8_at ha1)
  have q2 := hc1 _ _ (r8_at hb1)
  have HC1 : Hid (∀ W, Below w1.heap.size w1 W → R8 W (.slice (some a1) (i + 1) c1) (cntL (l.take (i + 1)))) := Lib.hid fun W h => R1.below h
  have HC2 : Hid (∀ W, Below w1.heap.size w1 W → W.cell? (a2.add i) = some (.bool cl)) := Lib.hid fun W h => (h.cell (p := a2.add i) (by rw [block_of_add]; exact hab2)).trans (hc2 _ _ (rb_at hcl))
  have hi1n : (i1 : Int) < (i : Int) + 1 := by omega
  clear hc1 hc2 R1 R2 ha1 hb1 hcl HCN hab2
  go_wp2_with fail
  go_quiet (fail)
  go_wp2_with fail
  go_loopg [10] i (fun kx s10 wr => ∃ (m : Nat), s10 = .int .i64 ((m : Int) - 1) ∧ m ≤ i ∧ kx = m ∧ Below w1.heap.size w1 wr ∧ Hid ((st s0 (l.take m)).2 = (some 15 : Option Int)))
  case atStart => exact ⟨i, by go_num, by omega, rfl, below_drewN (Below.refl _ _) _, HO⟩
  case round =>
    obtain ⟨m, rfl, hm, hkx, bel, HM⟩ := hrel
    have HKX := Lib.hid hkx
    clear q1 q2 hkx
    rcases Nat.eq_zero_or_pos m with hm0 | hm0
    · subst hm0
      exact absurd HM.out (by simp [st, s0])
    · obtain ⟨j, rfl⟩ : ∃ j, m = j + 1 := ⟨m - 1, by omega⟩
      have hz : ((j + 1 : Nat) : Int) - 1 = (j : Int) := by omega
      rw [hz]
      obtain ⟨d, hd1, _, hd2⟩ := cnt_at (l := l) (j := j) (k := i + 1) (by omega) (by rw [HN.out]; omega)
      have hj0 : (0 : Int) ≤ (j : Int) := by omega
      have hji : (j : Int) < (i : Int) + 1 := by omega
      obtain ⟨a3, c3, hv3, _, _, hc3⟩ := (HC1.out wr bel).at_ (by rw [r8_len, cntL_len, List.length_take, HN.out]; omega)
      obtain rfl : a1 = a3 := by injection hv3 with e; injection e
      clear hv3
      have q3 := hc3 _ _ (r8_at hd1)
      by_cases h5 : d = 5
      · have HM2 : Hid ((st s0 (l.take j)).2 = (some 15 : Option Int)) := Lib.hid (by rw [← HM.out, hd2, if_pos h5])
        subst h5
        clear hd1 hd2 hc3 hz hm0
        go_wp2_with fail
        go_roundg j
        case measure => have := HKX.out; omega
        case rel => exact ⟨j, by go_num, by omega, rfl, bel, HM2⟩
      · have hod : some d = (some 15 : Option Int) := by rw [← HM.out, hd2, if_neg h5]
        obtain rfl : d = 15 := Option.some.inj hod
        clear hd1 hd2 hc3 hz hod hm0
        have b9 := below_seq bel (below_alloc wr (.cells (r8 [2, 3, 4]).toArray 5))
        have HH : Hid (∀ W, Below (wr.alloc (.cells (r8 [2, 3, 4]).toArray 5)).heap.size (wr.alloc (.cells (r8 [2, 3, 4]).toArray 5)) W → R8 W (.slice (some ⟨wr.heap.size, 0, none⟩) 3 3) [2, 3, 4]) := Lib.hid fun W h => (r8_lit wr [2, 3, 4] 5 3 _ rfl rfl).below h
        have HCC : Hid (∀ W, Below (wr.alloc (.cells (r8 [2, 3, 4]).toArray 5)).heap.size (wr.alloc (.cells (r8 [2, 3, 4]).toArray 5)) W → W.cell? (a2.add i) = some (.bool cl)) := Lib.hid fun W h => HC2.out W (below_seq b9 h)
        by_cases h4 : a = 1
        · subst h4
          obtain rfl : ((4 : Int), true) = r := by rw [← HR.out]; unfold rule; rw [if_pos (by rfl)]
          go_wp2_with fail
          go_ret2
          exact ⟨rfl, below_seq b1 b9⟩
        have n4 : ¬ ((a == 1) = true) := by simp [h4]
        go_wp2_with fail
        refine (CA.out _ _ (r8_lit wr [2, 3, 4] 5 3 _ rfl rfl)).mono ?_
        rintro e x1 ⟨rfl, d1⟩
        have e1 := below_seq b9 d1
        rcases Bool.eq_false_or_eq_true qa with rfl | rfl
        · by_cases h5 : a = 2
          · subst h5
            obtain rfl : ((5 : Int), !((2 : Int) == 2 && b == 3)) = r := by rw [← HR.out]; unfold rule; rw [if_neg n4, if_pos HQA.out]
            go_wp2_with fail
            go_ret2
            exact ⟨by simp; rfl, below_seq b1 e1⟩
          · obtain rfl : ((5 : Int), !(a == 2 && b == 3)) = r := by rw [← HR.out]; unfold rule; rw [if_neg n4, if_pos HQA.out]
            go_wp2_with fail
            go_ret2
            exact ⟨by simp [h5], below_seq b1 e1⟩
        have n5 : ¬ (hard a = true) := by rw [HQA.out]; decide
        by_cases h6 : b = 1
        · subst h6
          obtain rfl : ((6 : Int), false) = r := by rw [← HR.out]; unfold rule; rw [if_neg n4, if_neg n5, if_pos (by rfl)]
          go_wp2_with fail
          go_ret2
          exact ⟨rfl, below_seq b1 e1⟩
        go_wp2_with fail
        refine (CB.out _ _ (HH.out _ d1)).mono ?_
        rintro e x2 ⟨rfl, d2⟩
        have e2 := below_seq e1 d2
        have k2 := below_seq d1 d2
        rcases Bool.eq_false_or_eq_true qb with rfl | rfl
        ·
          obtain rfl : ((6 : Int), false) = r := by rw [← HR.out]; unfold rule; rw [if_neg n4, if_neg n5, if_pos (by rw [HQB.out]; simp)]
          go_wp2_with fail
          go_ret2
          exact ⟨rfl, below_seq b1 e2⟩
        have n6 : ¬ ((b == 1 || hard b) = true) := by rw [HQB.out]; simp [h6]
        by_cases h7 : b = 5
        · subst h7
          obtain rfl : ((7 : Int), false) = r := by rw [← HR.out]; unfold rule; rw [if_neg n4, if_neg n5, if_neg n6, if_pos (by simp)]
          go_wp2_with fail
          go_ret2
          exact ⟨rfl, below_seq b1 e2⟩
        by_cases g7 : b = 6
        · subst g7
          obtain rfl : ((7 : Int), false) = r := by rw [← HR.out]; unfold rule; rw [if_neg n4, if_neg n5, if_neg n6, if_pos (by simp)]
          go_wp2_with fail
          go_ret2
          exact ⟨rfl, below_seq b1 e2⟩
        have n7 : ¬ ((b == 5 || b == 6) = true) := by simp [h7, g7]
        have n8 : ¬ ((((some 15 : Option Int)) == some 6) = true) := by decide
        have c9 := HCC.out _ k2
        rcases Bool.eq_false_or_eq_true cl with rfl | rfl
        ·
          obtain rfl : ((9 : Int), false) = r := by rw [← HR.out]; unfold rule; rw [if_neg n4, if_neg n5, if_neg n6, if_neg n7, if_neg n8, if_pos rfl]
          go_wp2_with fail
          go_ret2
          exact ⟨rfl, below_seq b1 e2⟩
        have n9 : ¬ (false = true) := by decide
        by_cases h11 : a = 7
        · subst h11
          obtain rfl : ((11 : Int), false) = r := by rw [← HR.out]; unfold rule; rw [if_neg n4, if_neg n5, if_neg n6, if_neg n7, if_neg n8, if_neg n9, if_pos (by simp)]
          go_wp2_with fail
          go_ret2
          exact ⟨rfl, below_seq b1 e2⟩
        by_cases g11 : b = 7
        · subst g11
          obtain rfl : ((11 : Int), false) = r := by rw [← HR.out]; unfold rule; rw [if_neg n4, if_neg n5, if_neg n6, if_neg n7, if_neg n8, if_neg n9, if_pos (by simp)]
          go_wp2_with fail
          go_ret2
          exact ⟨rfl, below_seq b1 e2⟩
        have n11 : ¬ ((a == 7 || b == 7) = true) := by simp [h11, g11]
        by_cases h12 : a = 8
        · subst h12
          obtain rfl : ((12 : Int), false) = r := by rw [← HR.out]; unfold rule; rw [if_neg n4, if_neg n5, if_neg n6, if_neg n7, if_neg n8, if_neg n9, if_neg n11, if_pos (by simp)]
          go_wp2_with fail
          go_ret2
          exact ⟨rfl, below_seq b1 e2⟩
        by_cases g12 : b = 8
        · subst g12
          go_wp2_with fail
          refine (CD.out _ _ (r8_lit x2 [5, 10, 13] 5 3 _ rfl rfl)).mono ?_
          rintro e x3 ⟨rfl, d3⟩
          have e3 := below_seq e2 (below_seq (below_alloc x2 _) d3)
          rcases Bool.eq_false_or_eq_true qd with rfl | rfl
          · have n12 : ¬ ((a == 8 || ((8 : Int) == 8 && !(a == 5 || a == 10 || a == 13))) = true) := by rw [HQD.out]; simp [h12]
            go_wp2_with fail
            refine (CE8.out _ _ (r8_lit x3 [15, 17, 18] 5 3 _ rfl rfl)).mono ?_
            rintro e y13 ⟨rfl, f13⟩
            have j13 := below_seq e3 (below_seq (below_alloc x3 _) f13)
            have n13 : ¬ (((8 : Int) == 15 || (8 : Int) == 17 || (8 : Int) == 18) = true) := by decide
            have n14 : ¬ ((((some 15 : Option Int)) == some 14) = true) := by decide
            have n15 : ¬ ((((some 15 : Option Int)) == some 16 && (8 : Int) == 14) = true) := by simp
            have n16 : ¬ ((((some 15 : Option Int)) == some 15 && (8 : Int) == 19) = true) := by simp
            have n17 : ¬ ((((some 15 : Option Int)) == some 12 && (8 : Int) == 12) = true) := by simp
            by_cases h18 : a = 5
            · subst h18
              obtain rfl : ((18 : Int), true) = r := by rw [← HR.out]; unfold rule; rw [if_neg n4, if_neg n5, if_neg n6, if_neg n7, if_neg n8, if_neg n9, if_neg n11, if_neg n12, if_neg n13, if_neg n14, if_neg n15, if_neg n16, if_neg n17, if_pos (by rfl)]
              go_wp2_with fail
              go_ret2
              exact ⟨rfl, below_seq b1 j13⟩
            have n18 : ¬ ((a == 5) = true) := by simp [h18]
            by_cases h19 : a = 16
            · subst h19
              obtain rfl : ((19 : Int), false) = r := by rw [← HR.out]; unfold rule; rw [if_neg n4, if_neg n5, if_neg n6, if_neg n7, if_neg n8, if_neg n9, if_neg n11, if_neg n12, if_neg n13, if_neg n14, if_neg n15, if_neg n16, if_neg n17, if_neg n18, if_pos (by simp)]
              go_wp2_with fail
              go_ret2
              exact ⟨rfl, below_seq b1 j13⟩
            have n19 : ¬ ((a == 16 || (8 : Int) == 16) = true) := by simp [h19]
            by_cases h20 : a = 26
            · subst h20
              obtain rfl : ((20 : Int), true) = r := by rw [← HR.out]; unfold rule; rw [if_neg n4, if_neg n5, if_neg n6, if_neg n7, if_neg n8, if_neg n9, if_neg n11, if_neg n12, if_neg n13, if_neg n14, if_neg n15, if_neg n16, if_neg n17, if_neg n18, if_neg n19, if_pos (by simp)]
              go_wp2_with fail
              go_ret2
              exact ⟨rfl, below_seq b1 j13⟩
            have n20 : ¬ ((a == 26 || (8 : Int) == 26) = true) := by simp [h20]
            go_wp2_with fail
            refine (CF8.out _ _ (r8_lit y13 [10, 13, 19] 5 3 _ rfl rfl)).mono ?_
            rintro e y21 ⟨rfl, f21⟩
            have j21 := below_seq j13 (below_seq (below_alloc y13 _) f21)
            by_cases h21 : a = 11
            · subst h21
              obtain rfl : ((21 : Int), false) = r := by rw [← HR.out]; unfold rule; rw [if_neg n4, if_neg n5, if_neg n6, if_neg n7, if_neg n8, if_neg n9, if_neg n11, if_neg n12, if_neg n13, if_neg n14, if_neg n15, if_neg n16, if_neg n17, if_neg n18, if_neg n19, if_neg n20, if_pos (by simp)]
              go_wp2_with fail
              go_ret2
              exact ⟨rfl, below_seq b1 j21⟩
            have n21 : ¬ (((8 : Int) == 10 || (8 : Int) == 13 || (8 : Int) == 19 || a == 11) = true) := by simp [h21]
            have n22 : ¬ (((8 : Int) == 21) = true) := by decide
            go_wp2_with fail
            have hr : last a 8 = r := by rw [← HR.out]; unfold rule; rw [if_neg n4, if_neg n5, if_neg n6, if_neg n7, if_neg n8, if_neg n9, if_neg n11, if_neg n12, if_neg n13, if_neg n14, if_neg n15, if_neg n16, if_neg n17, if_neg n18, if_neg n19, if_neg n20, if_neg n21, if_neg n22]
            refine (rlast_any a 8 _).mono ?_
            rw [hr]
            rintro e z1 ⟨rfl, g1⟩
            have z2 := below_seq j21 g1
            go_wp2_with fail
            go_ret2
            exact ⟨rfl, below_seq b1 z2⟩
          ·
            obtain rfl : ((12 : Int), false) = r := by rw [← HR.out]; unfold rule; rw [if_neg n4, if_neg n5, if_neg n6, if_neg n7, if_neg n8, if_neg n9, if_neg n11, if_pos (by rw [HQD.out]; simp)]
            go_wp2_with fail
            go_ret2
            exact ⟨rfl, below_seq b1 e3⟩
        have n12 : ¬ ((a == 8 || (b == 8 && !(a == 5 || a == 10 || a == 13))) = true) := by simp [h12, g12]
        go_wp2_with fail
        refine (CE.out _ _ (r8_lit x2 [15, 17, 18] 5 3 _ rfl rfl)).mono ?_
        rintro e y13 ⟨rfl, f13⟩
        have j13 := below_seq e2 (below_seq (below_alloc x2 _) f13)
        rcases Bool.eq_false_or_eq_true qe with rfl | rfl
        ·
          obtain rfl : ((13 : Int), false) = r := by rw [← HR.out]; unfold rule; rw [if_neg n4, if_neg n5, if_neg n6, if_neg n7, if_neg n8, if_neg n9, if_neg n11, if_neg n12, if_pos HQE.out]
          go_wp2_with fail
          go_ret2
          exact ⟨rfl, below_seq b1 j13⟩
        have n13 : ¬ ((b == 15 || b == 17 || b == 18) = true) := by rw [HQE.out]; decide
        have n14 : ¬ ((((some 15 : Option Int)) == some 14) = true) := by decide
        have n15 : ¬ ((((some 15 : Option Int)) == some 16 && b == 14) = true) := by simp
        by_cases g16 : b = 19
        · subst g16
          obtain rfl : ((16 : Int), false) = r := by rw [← HR.out]; unfold rule; rw [if_neg n4, if_neg n5, if_neg n6, if_neg n7, if_neg n8, if_neg n9, if_neg n11, if_neg n12, if_neg n13, if_neg n14, if_neg n15, if_pos (by rfl)]
          go_wp2_with fail
          go_ret2
          exact ⟨rfl, below_seq b1 j13⟩
        have n16 : ¬ ((((some 15 : Option Int)) == some 15 && b == 19) = true) := by simp [g16]
        have n17 : ¬ ((((some 15 : Option Int)) == some 12 && b == 12) = true) := by simp
        by_cases h18 : a = 5
        · subst h18
          obtain rfl : ((18 : Int), true) = r := by rw [← HR.out]; unfold rule; rw [if_neg n4, if_neg n5, if_neg n6, if_neg n7, if_neg n8, if_neg n9, if_neg n11, if_neg n12, if_neg n13, if_neg n14, if_neg n15, if_neg n16, if_neg n17, if_pos (by rfl)]
          go_wp2_with fail
          go_ret2
          exact ⟨rfl, below_seq b1 j13⟩
        have n18 : ¬ ((a == 5) = true) := by simp [h18]
        by_cases h19 : a = 16
        · subst h19
          obtain rfl : ((19 : Int), false) = r := by rw [← HR.out]; unfold rule; rw [if_neg n4, if_neg n5, if_neg n6, if_neg n7, if_neg n8, if_neg n9, if_neg n11, if_neg n12, if_neg n13, if_neg n14, if_neg n15, if_neg n16, if_neg n17, if_neg n18, if_pos (by simp)]
          go_wp2_with fail
          go_ret2
          exact ⟨rfl, below_seq b1 j13⟩
        by_cases g19 : b = 16
        · subst g19
          obtain rfl : ((19 : Int), false) = r := by rw [← HR.out]; unfold rule; rw [if_neg n4, if_neg n5, if_neg n6, if_neg n7, if_neg n8, if_neg n9, if_neg n11, if_neg n12, if_neg n13, if_neg n14, if_neg n15, if_neg n16, if_neg n17, if_neg n18, if_pos (by simp)]
          go_wp2_with fail
          go_ret2
          exact ⟨rfl, below_seq b1 j13⟩
        have n19 : ¬ ((a == 16 || b == 16) = true) := by simp [h19, g19]
        by_cases h20 : a = 26
        · subst h20
          obtain rfl : ((20 : Int), true) = r := by rw [← HR.out]; unfold rule; rw [if_neg n4, if_neg n5, if_neg n6, if_neg n7, if_neg n8, if_neg n9, if_neg n11, if_neg n12, if_neg n13, if_neg n14, if_neg n15, if_neg n16, if_neg n17, if_neg n18, if_neg n19, if_pos (by simp)]
          go_wp2_with fail
          go_ret2
          exact ⟨rfl, below_seq b1 j13⟩
        by_cases g20 : b = 26
        · subst g20
          obtain rfl : ((20 : Int), true) = r := by rw [← HR.out]; unfold rule; rw [if_neg n4, if_neg n5, if_neg n6, if_neg n7, if_neg n8, if_neg n9, if_neg n11, if_neg n12, if_neg n13, if_neg n14, if_neg n15, if_neg n16, if_neg n17, if_neg n18, if_neg n19, if_pos (by simp)]
          go_wp2_with fail
          go_ret2
          exact ⟨rfl, below_seq b1 j13⟩
        have n20 : ¬ ((a == 26 || b == 26) = true) := by simp [h20, g20]
        go_wp2_with fail
        refine (CF.out _ _ (r8_lit y13 [10, 13, 19] 5 3 _ rfl rfl)).mono ?_
        rintro e y21 ⟨rfl, f21⟩
        have j21 := below_seq j13 (below_seq (below_alloc y13 _) f21)
        rcases Bool.eq_false_or_eq_true qf with rfl | rfl
        ·
          obtain rfl : ((21 : Int), false) = r := by rw [← HR.out]; unfold rule; rw [if_neg n4, if_neg n5, if_neg n6, if_neg n7, if_neg n8, if_neg n9, if_neg n11, if_neg n12, if_neg n13, if_neg n14, if_neg n15, if_neg n16, if_neg n17, if_neg n18, if_neg n19, if_neg n20, if_pos (by rw [HQF.out]; simp)]
          go_wp2_with fail
          go_ret2
          exact ⟨rfl, below_seq b1 j21⟩
        by_cases h21 : a = 11
        · subst h21
          obtain rfl : ((21 : Int), false) = r := by rw [← HR.out]; unfold rule; rw [if_neg n4, if_neg n5, if_neg n6, if_neg n7, if_neg n8, if_neg n9, if_neg n11, if_neg n12, if_neg n13, if_neg n14, if_neg n15, if_neg n16, if_neg n17, if_neg n18, if_neg n19, if_neg n20, if_pos (by simp)]
          go_wp2_with fail
          go_ret2
          exact ⟨rfl, below_seq b1 j21⟩
        have n21 : ¬ ((b == 10 || b == 13 || b == 19 || a == 11) = true) := by rw [HQF.out]; simp [h21]
        by_cases h22 : b = 21
        · subst h22
          obtain rfl : ((22 : Int), false) = r := by rw [← HR.out]; unfold rule; rw [if_neg n4, if_neg n5, if_neg n6, if_neg n7, if_neg n8, if_neg n9, if_neg n11, if_neg n12, if_neg n13, if_neg n14, if_neg n15, if_neg n16, if_neg n17, if_neg n18, if_neg n19, if_neg n20, if_neg n21, if_pos (by rfl)]
          go_wp2_with fail
          go_ret2
          exact ⟨rfl, below_seq b1 j21⟩
        have n22 : ¬ ((b == 21) = true) := by simp [h22]
        go_wp2_with fail
        have hr : last a b = r := by rw [← HR.out]; unfold rule; rw [if_neg n4, if_neg n5, if_neg n6, if_neg n7, if_neg n8, if_neg n9, if_neg n11, if_neg n12, if_neg n13, if_neg n14, if_neg n15, if_neg n16, if_neg n17, if_neg n18, if_neg n19, if_neg n20, if_neg n21, if_neg n22]
        refine (rlast_any a b _).mono ?_
        rw [hr]
        rintro e z1 ⟨rfl, g1⟩
        have z2 := below_seq j21 g1
        go_wp2_with fail
        go_ret2
        exact ⟨rfl, below_seq b1 z2⟩
end Go.Proofs.Ytnoenccpbbkdeaa
