/- The walk of PairAlike: for every two numbers the law returns true. No conditions but that they are numbers of eight bits. -/
import Derived.Test.YtijdippkkaigjaaPr21
namespace Go.Proofs.Ytijdippkkaigjaa
open Go.ChangeShapes Go.WideShapes Go.ChangeAt Go.RowKit Go.Shelf
open Pr

theorem rep_succ (c : Int) (k : Nat) : r8 (List.replicate (k + 1) c) = r8 (List.replicate k c) ++ [.int .u8 c] := by
  unfold r8
  rw [List.replicate_succ', List.map_append]
  rfl
theorem let_at {n k : Nat} (h : k < n) : (breaksL (List.replicate n 0))[k]? = some false := by
  unfold breaksL
  rw [letters, List.getElem?_replicate, if_pos h]
theorem ide_at {n k : Nat} (h : k < n) : (breaksL (List.replicate n 25))[k]? = some (decide (0 < k)) := by
  obtain ⟨m, rfl⟩ : ∃ m, n = m + 1 := ⟨n - 1, by omega⟩
  unfold breaksL
  rw [ideographs]
  cases k with
  | zero => rfl
  | succ k =>
    rw [List.getElem?_cons_succ, List.getElem?_replicate, if_pos (by omega)]
    simp
theorem sp_breaks : breaksL [0, 5] = [false, false] := by decide +kernel

set_option maxRecDepth 100000 in
set_option maxHeartbeats 16000000 in
theorem lawAlike_any (M c : Nat) (w : World) (hM : M < 256) (hc : c < 256) :
    Calls Try.prog 8 #[.int .u8 (M : Int), .int .u8 (c : Int)] w fun e w' => e = .returned (.bool true) ∧ Below w.heap.size w w' := by
  obtain ⟨N, hN⟩ : ∃ N : Nat, M % 100 = N := ⟨_, rfl⟩
  obtain ⟨X, hX⟩ : ∃ X : Nat, c % 27 = X := ⟨_, rfl⟩
  have hN1 : (M : Int) % 100 = (N : Int) := by omega
  have hX1 : (c : Int) % 27 = (X : Int) := by omega
  have hN2 : N < 100 := by omega
  have hX2 : X < 27 := by omega
  have OH := Lib.hid (open_hard (X : Int) (by omega) (by omega))
  clear hN hX
  go_enter Try.func8, Try.ntmps8
  go_wp2_with fail
  simp only [hN1]
  go_loopg [6, 7, 8] N (fun kx s6 s7 s8 wr => ∃ (k : Nat) (v1 v2 : Value), s6 = v1 ∧ s7 = v2 ∧ s8 = .int .i64 (k : Int) ∧ k ≤ N ∧ kx = N - k ∧ Below w.heap.size w wr ∧ Hid (wr.ownsRow w.heap.size 5 1 v1 k (r8 (List.replicate k 0))) ∧ Hid (wr.ownsRow w.heap.size 5 1 v2 k (r8 (List.replicate k 25))) ∧ Hid (Apart v1 v2))
  case atStart => exact ⟨0, _, _, rfl, rfl, rfl, by omega, by omega, Below.refl _ _, Lib.hid (own_nil _ _ _ _), Lib.hid (own_nil _ _ _ _), Lib.hid (Apart.nil _)⟩
  case round =>
    obtain ⟨k, v1, v2, rfl, rfl, rfl, hk, rfl, bel, HO1, HO2, HA⟩ := hrel
    have hbs := bel.size
    by_cases hlt : k < N
    · have hkz : (k : Int) < N := by omega
      go_wp2_with (first
        | (refine apN8 (o1 := ⟨some 25, _, _, _, _, _⟩) rfl (.const (.int .u8 0)) rfl 25 rfl rfl (.tmp 24) rfl 0 rfl _ (fun _ => rfl) (fun _ => rfl) w.heap.size k _ HO1.out (by omega) hbs ?_; intro u5 v5 w5 O5 b5 m5 n5; refine Mk.out ?_))
      constructor
      have P2 := Lib.hid (own_keep HO2.out m5 HA.out.symm)
      have HA2 := Lib.hid (HA.out.symm.step HO2.out n5)
      have HO5 := Lib.hid O5
      have hbs5 : w.heap.size ≤ w5.heap.size := by have := b5.size; omega
      have bel5 := bel.trans b5
      clear O5 m5 n5 b5 HO1 HO2 HA bel
      go_wp2_with (first
        | (refine apN8 (o1 := ⟨some 28, _, _, _, _, _⟩) rfl (.const (.int .u8 25)) rfl 28 rfl rfl (.tmp 27) rfl 25 rfl _ (fun _ => rfl) (fun _ => rfl) w.heap.size k _ P2.out (by omega) hbs5 ?_; intro u6 v6 w6 O6 b6 m6 n6; refine Mk.out ?_))
      constructor
      have S1 := own_keep HO5.out m6 HA2.out.symm
      have HA3 := Lib.hid (HA2.out.symm.step HO5.out n6)
      rw [← rep_succ] at S1 O6
      have HS1 := Lib.hid S1
      have HS2 := Lib.hid O6
      have bel6 := bel5.trans b6
      clear S1 O6 m6 n6 b6 P2 HO5 HA2 bel5
      go_wp2_with fail
      go_roundg (N - (k + 1))
      case measure => omega
      case rel => exact ⟨k + 1, v5, v6, rfl, rfl, by go_num, by omega, by first | rfl | trivial, bel6, HS1, HS2, HA3⟩
    · have hkn : k = N := by omega
      subst hkn
      have L1 : R8 wr _ (List.replicate k 0) := (Row.of_own HO1.out).mono (fun _ _ (h : False) => h.elim)
      have L2 : R8 wr _ (List.replicate k 25) := (Row.of_own HO2.out).mono (fun _ _ (h : False) => h.elim)
      clear HO1 HO2 HA
      go_wp2_with fail
      refine (pBreaksG_any _ _ _ L1 (by simp; omega) (by simp)).mono ?_
      rintro e w_1 ⟨G1, rfl, S1, d1⟩
      have L1 := L1.below d1
      have L2 := L2.below d1
      have bel := below_seq bel d1
      rw [List.length_replicate] at S1 ⊢
      go_wp2_with fail
      refine (pBreaksG_any _ _ _ L2 (by simp; omega) (by simp)).mono ?_
      rintro e w_2 ⟨G2, rfl, S2, d2⟩
      have L1 := L1.below d2
      have L2 := L2.below d2
      have S1 := S1.below d2
      have bel := below_seq bel d2
      rw [List.length_replicate] at S2 ⊢
      have HS1 := Lib.hid S1
      have HS2 := Lib.hid S2
      have HBL := Lib.hid bel
      clear S1 S2 L1 L2 bel
      go_wp2_with fail
      go_loopg [11] k (fun kx i wl => ∃ (j : Nat), i = .int .i64 j ∧ j ≤ k ∧ kx = k - j ∧ wl = w_2)
      case atStart => exact ⟨0, rfl, by omega, by omega, rfl⟩
      case round =>
        obtain ⟨j, rfl, hj, rfl, rfl⟩ := hrel
        by_cases hjk : j < k
        · obtain ⟨a, cap, hv, _, _, hcell⟩ := HS1.out.at_ (by rw [rb_len, breaksL_len, List.length_replicate]; omega)
          obtain ⟨a2, cap2, hv2, _, _, hcell2⟩ := HS2.out.at_ (by rw [rb_len, breaksL_len, List.length_replicate]; omega)
          obtain rfl : (⟨G1, 0, none⟩ : Addr) = a := by injection hv with e; injection e
          obtain rfl : (⟨G2, 0, none⟩ : Addr) = a2 := by injection hv2 with e; injection e
          have q1 := hcell j _ (rb_at (let_at hjk))
          have q2 := hcell2 j _ (rb_at (ide_at hjk))
          rw [Addr.add_lit, Nat.zero_add] at q1 q2
          have hjz : (j : Int) < k := by omega
          clear hv hv2 hcell hcell2
          by_cases h0 : 0 < j
          · have h0z : (0 : Int) < j := by omega
            rw [decide_eq_true h0] at q2
            go_wp2_with fail
            go_roundg (k - (j + 1))
            case measure => omega
            case rel => exact ⟨j + 1, by go_num, by omega, by first | rfl | trivial, rfl⟩
          · have h0z : ¬ (0 : Int) < j := by omega
            rw [decide_eq_false h0] at q2
            go_wp2_with fail
            go_roundg (k - (j + 1))
            case measure => omega
            case rel => exact ⟨j + 1, by go_num, by omega, by first | rfl | trivial, rfl⟩
        · have hjn : j = k := by omega
          subst hjn
          go_wp2_with fail
          have K1 := r8_lit wr [0, 5] 5 2 _ rfl rfl
          have a3 := below_alloc wr (.cells (r8 [0, 5]).toArray 5)
          have bel := below_seq HBL.out a3
          refine (pBreaks_any [0, 5] _ _ K1 (by decide) (by decide)).mono ?_
          rintro e w_4 ⟨u1, rfl, B1, d4⟩
          have K1 := K1.below d4
          have bel := below_seq bel d4
          go_wp2_with fail
          have K2 := r8_lit w_4 [14, (X : Int)] 5 2 _ rfl rfl
          have a5 := below_alloc w_4 (.cells (r8 [14, (X : Int)]).toArray 5)
          have K1 := K1.below a5
          have B1 := B1.below a5
          have bel := below_seq bel a5
          refine (pBreaks_any [14, (X : Int)] _ _ K2 (by simp) (by simp)).mono ?_
          rintro e w_6 ⟨u2, rfl, B2, d6⟩
          have K1 := K1.below d6
          have B1 := B1.below d6
          have K2 := K2.below d6
          have bel := below_seq bel d6
          go_wp2_with fail
          have K3 := r8_lit w_6 [1, (X : Int)] 5 2 _ rfl rfl
          have a7 := below_alloc w_6 (.cells (r8 [1, (X : Int)]).toArray 5)
          have K1 := K1.below a7
          have B1 := B1.below a7
          have K2 := K2.below a7
          have B2 := B2.below a7
          have bel := below_seq bel a7
          refine (pMust_any [1, (X : Int)] _ _ K3 (by simp) (by simp)).mono ?_
          rintro e w_8 ⟨u3, rfl, B3, d8⟩
          have K1 := K1.below d8
          have B1 := B1.below d8
          have K2 := K2.below d8
          have B2 := B2.below d8
          have K3 := K3.below d8
          have bel := below_seq bel d8
          go_wp2_with fail
          have J1 := rb_lit w_8 [false, false] 4 2 _ rfl rfl
          have a9 := below_alloc w_8 (.cells (rb [false, false]).toArray 4)
          have K1 := K1.below a9
          have B1 := B1.below a9
          have K2 := K2.below a9
          have B2 := B2.below a9
          have K3 := K3.below a9
          have B3 := B3.below a9
          have bel := below_seq bel a9
          refine (psameB_is _ _ _ _ _ B1 J1 sp_breaks (by decide)).mono ?_
          rintro e w_10 ⟨rfl, d10⟩
          have K1 := K1.below d10
          have B1 := B1.below d10
          have K2 := K2.below d10
          have B2 := B2.below d10
          have K3 := K3.below d10
          have B3 := B3.below d10
          have J1 := J1.below d10
          have bel := below_seq bel d10
          go_wp2_with fail
          have J2 := rb_lit w_10 [false, false] 4 2 _ rfl rfl
          have a11 := below_alloc w_10 (.cells (rb [false, false]).toArray 4)
          have K1 := K1.below a11
          have B1 := B1.below a11
          have K2 := K2.below a11
          have B2 := B2.below a11
          have K3 := K3.below a11
          have B3 := B3.below a11
          have J1 := J1.below a11
          have bel := below_seq bel a11
          refine (psameB_is _ _ _ _ _ B2 J2 OH.out.1 (by rw [breaksL_len]; simp)).mono ?_
          rintro e w_12 ⟨rfl, d12⟩
          have K1 := K1.below d12
          have B1 := B1.below d12
          have K2 := K2.below d12
          have B2 := B2.below d12
          have K3 := K3.below d12
          have B3 := B3.below d12
          have J1 := J1.below d12
          have J2 := J2.below d12
          have bel := below_seq bel d12
          go_wp2_with fail
          have J3 := rb_lit w_12 [false, true] 4 2 _ rfl rfl
          have a13 := below_alloc w_12 (.cells (rb [false, true]).toArray 4)
          have K1 := K1.below a13
          have B1 := B1.below a13
          have K2 := K2.below a13
          have B2 := B2.below a13
          have K3 := K3.below a13
          have B3 := B3.below a13
          have J1 := J1.below a13
          have J2 := J2.below a13
          have bel := below_seq bel a13
          refine (psameB_is _ _ _ _ _ B3 J3 OH.out.2 (by rw [mustL_len]; simp)).mono ?_
          rintro e w_14 ⟨rfl, d14⟩
          have K1 := K1.below d14
          have B1 := B1.below d14
          have K2 := K2.below d14
          have B2 := B2.below d14
          have K3 := K3.below d14
          have B3 := B3.below d14
          have J1 := J1.below d14
          have J2 := J2.below d14
          have J3 := J3.below d14
          have bel := below_seq bel d14
          go_wp2_with fail
          refine (phead_any _).mono ?_
          rintro e w_15 ⟨rfl, d15⟩
          have K1 := K1.below d15
          have B1 := B1.below d15
          have K2 := K2.below d15
          have B2 := B2.below d15
          have K3 := K3.below d15
          have B3 := B3.below d15
          have J1 := J1.below d15
          have J2 := J2.below d15
          have J3 := J3.below d15
          have bel := below_seq bel d15
          go_wp2_with fail
          go_ret
          exact ⟨rfl, bel⟩
end Go.Proofs.Ytijdippkkaigjaa
