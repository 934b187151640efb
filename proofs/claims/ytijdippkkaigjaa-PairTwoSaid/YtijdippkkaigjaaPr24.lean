/- The walk of PairTwo: for every three numbers the law returns true. No conditions but that they are numbers of eight bits. -/
import Derived.Test.YtijdippkkaigjaaPr20
import Derived.Test.YtijdippkkaigjaaPr21
namespace Go.Proofs.Ytijdippkkaigjaa
open Go.ChangeShapes Go.WideShapes Go.ChangeAt Go.RowKit Go.Shelf
open Pr

theorem own_lit (w : World) (base : Nat) (hb : base ≤ w.heap.size) (t : TypeId) (xs : List Value) (n : Nat) (hn : xs.length = n) (hl : n ≤ 1000) (cs : Array Value) (hc : cs = xs.toArray) : (w.alloc (.cells cs t)).ownsRow base t 1 (.slice (some ⟨w.heap.size, 0, none⟩) n n) n xs := by
  subst hc
  exact ⟨by omega, .inr ⟨w.heap.size, n, xs.toArray, rfl, hb, Blk.new w t _, Nat.le_refl _, by unfold maxLen; omega, by simp; omega, by rw [Nat.mul_one, ← hn]; exact List.take_length⟩⟩
theorem own_cap {w : World} {base : Nat} {e : TypeId} {v : Value} {n : Nat} {xs : List Value} (h : w.ownsRow base e 1 v n xs) : Cap v := by
  rcases h.2 with ⟨rfl, _⟩ | ⟨g, cap, cur, rfl, _, _, hc, _⟩
  · exact Cap.is (Nat.le_refl _)
  · exact Cap.is hc
def two (x a : Int) (k : Nat) : List Int := [x, a] ++ List.replicate k 5
theorem two_succ (x a : Int) (k : Nat) : r8 (two x a (k + 1)) = r8 (two x a k) ++ [.int .u8 5] := by
  unfold two r8
  rw [List.replicate_succ', ← List.append_assoc, List.map_append]
  rfl
theorem two_len (x a : Int) (k : Nat) : (two x a k).length = k + 2 := by simp [two]
theorem two_end (x a b : Int) (k : Nat) : r8 (two x a k ++ [b]) = r8 (two x a k) ++ [.int .u8 b] := by simp [r8]
theorem two_pos {x a b : Nat} (k : Nat) : ∀ c ∈ two (x : Int) (a : Int) k ++ [(b : Int)], 0 ≤ c := by
  intro c hc
  simp only [two, List.mem_append, List.mem_cons, List.not_mem_nil, or_false, List.mem_replicate] at hc
  omega

set_option maxRecDepth 100000 in
set_option maxHeartbeats 16000000 in
theorem lawTwo_any (x a b : Nat) (w : World) (hx : x < 256) (ha : a < 256) (hb : b < 256) :
    Calls Try.prog 4 #[.int .u8 (x : Int), .int .u8 (a : Int), .int .u8 (b : Int)] w fun e w' => e = .returned (.bool true) ∧ Below w.heap.size w w' := by
  obtain ⟨X, hX⟩ : ∃ N : Nat, x % 30 = N := ⟨_, rfl⟩
  obtain ⟨A, hA⟩ : ∃ N : Nat, a % 30 = N := ⟨_, rfl⟩
  obtain ⟨B, hB⟩ : ∃ N : Nat, b % 30 = N := ⟨_, rfl⟩
  have hX1 : (x : Int) % 30 = (X : Int) := by omega
  have hA1 : (a : Int) % 30 = (A : Int) := by omega
  have hB1 : (b : Int) % 30 = (B : Int) := by omega
  clear hX hA hB
  go_enter Try.func4, Try.ntmps4
  go_wp2_with fail
  go_loopg [7] 3 (fun kx s7 wr => ∃ (n : Nat), s7 = .int .i64 (n : Int) ∧ n ≤ 3 ∧ kx = 3 - n ∧ Below w.heap.size w wr)
  case atStart => exact ⟨0, rfl, by omega, by omega, Below.refl _ _⟩
  case round =>
    obtain ⟨n, rfl, hn, rfl, bel⟩ := hrel
    by_cases hlt : n < 3
    · have hnz : (n : Int) < 3 := by omega
      have hbs := bel.size
      go_wp2_with fail
      try simp only [hX1, hA1]
      have O0 := own_lit wr w.heap.size hbs 5 (r8 (two (X : Int) (A : Int) 0)) 2 rfl (by decide) _ rfl
      have b0 := below_seq bel (below_alloc wr (.cells (r8 (two (X : Int) (A : Int) 0)).toArray 5))
      go_loopg [8, 9] n (fun kx s8 s9 wi => ∃ (k : Nat) (v : Value), s8 = v ∧ s9 = .int .i64 (k : Int) ∧ k ≤ n ∧ kx = n - k ∧ Below w.heap.size w wi ∧ Hid (wi.ownsRow w.heap.size 5 1 v (k + 2) (r8 (two (X : Int) (A : Int) k))))
      case atStart => exact ⟨0, _, rfl, rfl, by omega, by omega, b0, Lib.hid O0⟩
      case round =>
        obtain ⟨k, v, rfl, rfl, hk, rfl, bi, HO⟩ := hrel
        clear O0 b0
        have hbi := bi.size
        by_cases hkn : k < n
        · have hkz : (k : Int) < n := by omega
          go_wp2_with (first
            | (refine apN8 (o1 := ⟨some 28, _, _, _, _, _⟩) rfl (.const (.int .u8 5)) rfl 28 rfl rfl (.tmp 27) rfl 5 rfl _ (fun _ => rfl) (fun _ => rfl) w.heap.size (k + 2) _ HO.out (by omega) hbi ?_; intro u5 v5 w5 O5 b5 m5 n5; refine Mk.out ?_))
          constructor
          rw [← two_succ, show k + 2 + 1 = k + 1 + 2 by omega] at O5
          have HO5 := Lib.hid O5
          have bel5 := bi.trans b5
          clear O5 m5 n5 b5 HO bi
          go_wp2_with fail
          go_roundg (n - (k + 1))
          case measure => omega
          case rel => exact ⟨k + 1, v5, rfl, by go_num, by omega, by first | rfl | trivial, bel5, HO5⟩
        · have hkn2 : k = n := by omega
          subst hkn2
          go_wp2_with (first
            | (refine apN8 (o1 := ⟨some 33, _, _, _, _, _⟩) rfl (.tmp 32) rfl 33 rfl rfl (.tmp 30) rfl ((B : Int)) rfl _ (fun _ => rfl) (fun _ => rfl) w.heap.size (k + 2) _ HO.out (by omega) hbi ?_; intro u5 v5 w5 O5 b5 m5 n5; refine Mk.out ?_)
            | (refine apN8 (o1 := ⟨some 33, _, _, _, _, _⟩) rfl (.tmp 32) rfl 33 rfl rfl (.tmp 30) rfl ((b : Int) % 30) rfl _ (fun _ => rfl) (fun _ => rfl) w.heap.size (k + 2) _ HO.out (by omega) hbi ?_; intro u5 v5 w5 O5 b5 m5 n5; refine Mk.out ?_)
            | (refine apN8 (o1 := ⟨some 33, _, _, _, _, _⟩) rfl (.tmp 32) rfl 33 rfl rfl (.tmp 30) rfl (Int.tmod (b : Int) 30) rfl _ (fun _ => rfl) (fun _ => rfl) w.heap.size (k + 2) _ HO.out (by omega) hbi ?_; intro u5 v5 w5 O5 b5 m5 n5; refine Mk.out ?_))
          constructor
          try simp only [hB1] at O5
          rw [← two_end] at O5
          have HC := Lib.hid (own_cap O5)
          have L1 : R8 w5 v5 (two (X : Int) (A : Int) k ++ [(B : Int)]) := (Row.of_own O5).mono (fun _ _ (h : False) => h.elim)
          have HP := Lib.hid (two_pos (x := X) (a := A) (b := B) k)
          have bel5 := bi.trans b5
          obtain ⟨ll, hll⟩ : ∃ ll, two (X : Int) (A : Int) k ++ [(B : Int)] = ll := ⟨_, rfl⟩
          have HL : Hid (ll.length ≤ 120) := Lib.hid (by rw [← hll, List.length_append, two_len]; simp; omega)
          rw [hll] at L1 HP
          clear O5 m5 n5 b5 HO bi hll
          go_wp2_with fail
          refine (rall_any _ _ _ L1 HC.out (by have := HL.out; omega)).mono ?_
          rintro e w_1 ⟨u1, u2, u3, rfl, S1, S2, S3, d1⟩
          have L1 := L1.below d1
          have bel := below_seq bel5 d1
          go_wp2_with fail
          refine (pRules_any _ _ _ L1 (by have := HL.out; omega) HP.out).mono ?_
          rintro e w_2 ⟨u4, rfl, S4, d2⟩
          have L1 := L1.below d2
          have S1 := S1.below d2
          have S2 := S2.below d2
          have S3 := S3.below d2
          have bel := below_seq bel d2
          go_wp2_with fail
          refine (psame8 _ _ _ _ S4 S1 (by rw [rulesL_len]; have := HL.out; omega)).mono ?_
          rintro e w_3 ⟨rfl, d3⟩
          have L1 := L1.below d3
          have S1 := S1.below d3
          have S2 := S2.below d3
          have S3 := S3.below d3
          have S4 := S4.below d3
          have bel := below_seq bel d3
          go_wp2_with fail
          refine (pBreaks_any _ _ _ L1 (by have := HL.out; omega) HP.out).mono ?_
          rintro e w_4 ⟨u5, rfl, S5, d4⟩
          have L1 := L1.below d4
          have S1 := S1.below d4
          have S2 := S2.below d4
          have S3 := S3.below d4
          have S4 := S4.below d4
          have bel := below_seq bel d4
          go_wp2_with fail
          refine (psameB _ _ _ _ S5 S2 (by rw [breaksL_len]; have := HL.out; omega)).mono ?_
          rintro e w_5 ⟨rfl, d5⟩
          have L1 := L1.below d5
          have S1 := S1.below d5
          have S2 := S2.below d5
          have S3 := S3.below d5
          have S4 := S4.below d5
          have S5 := S5.below d5
          have bel := below_seq bel d5
          clear S1 S2 S3 S4 S5 L1
          go_wp2_with fail
          go_roundg (3 - (k + 1))
          case measure => omega
          case rel => exact ⟨k + 1, by go_num, by omega, by first | rfl | trivial, bel⟩
    · have hn3 : n = 3 := by omega
      subst hn3
      go_wp2_with fail
      refine (phead_any _).mono ?_
      rintro e w9 ⟨rfl, b9⟩
      have bel9 := below_seq bel b9
      go_wp2_with fail
      go_ret
      exact ⟨rfl, bel9⟩
end Go.Proofs.Ytijdippkkaigjaa
