/- The walk of PairAhead: for every row and every number the law returns true. Conditions: the slice reads as the list, of numbers that are not negative, and is no longer than its memory. -/
import Derived.Test.YtijdippkkaigjaaPr21
namespace Go.Proofs.Ytijdippkkaigjaa
open Go.ChangeShapes Go.WideShapes Go.ChangeAt Go.RowKit Go.Shelf
open Pr

theorem breaks_take (l : List Int) (k : Nat) : breaksL (l.take k) = (breaksL l).take k := by
  unfold breaksL
  rw [plc_take, List.map_take]
theorem pl_at {l : List Int} {j : Nat} (h : j < l.length) : ∃ p : Int × Bool, (breaksL l)[j]? = some p.2 ∧ (mustL l)[j]? = some (mst p) := by
  obtain ⟨p, hp⟩ : ∃ p, (plc s0 l)[j]? = some p := ⟨_, List.getElem?_eq_getElem (by rw [plc_len]; exact h)⟩
  exact ⟨p, by unfold breaksL; rw [List.getElem?_map, hp]; rfl, by unfold mustL; rw [List.getElem?_map, hp]; rfl⟩
theorem first_no {l : List Int} (h : 0 < l.length) : (breaksL l)[0]? = some false := by
  cases l with
  | nil => simp at h
  | cons c t => rfl

set_option maxRecDepth 100000 in
set_option maxHeartbeats 16000000 in
theorem lawAhead_any (l : List Int) (v : Value) (M : Nat) (w : World) (R : R8 w v l) (hcap : Cap v) (h0 : ∀ c ∈ l, 0 ≤ c) (hM : M < 256) :
    Calls Try.prog 5 #[v, .int .u8 (M : Int)] w fun e w' => e = .returned (.bool true) ∧ Below w.heap.size w w' := by
  have H0 := Lib.hid h0
  have HCP := Lib.hid hcap
  obtain ⟨A, cap, rfl⟩ := R.form
  obtain ⟨n, hn⟩ : ∃ n, l.length = n := ⟨_, rfl⟩
  have HN := Lib.hid hn
  rw [r8_len, hn] at R HCP ⊢
  clear h0 hcap hn
  go_enter Try.func5, Try.ntmps5
  go_wp2_with fail
  refine (pgreat_any _ _ _ _).mono ?_
  rintro e w_0 ⟨rfl, rfl⟩
  by_cases hg : 120 < n
  · rw [decide_eq_true hg]
    go_wp2_with fail
    refine (phead_any _).mono ?_
    rintro e w_1 ⟨rfl, b⟩
    go_wp2_with fail
    go_ret
    exact ⟨rfl, b⟩
  have HL : Hid (l.length ≤ 120) := Lib.hid (by rw [HN.out]; omega)
  rw [decide_eq_false hg]
  go_wp2_with fail
  refine (pBreaksG_any l _ _ R (by have := HL.out; omega) H0.out).mono ?_
  rintro e w_1 ⟨G1, rfl, S1, d1⟩
  have R := R.below d1
  have bel := d1
  rw [HN.out] at S1 ⊢
  go_wp2_with fail
  refine (pMustG_any l _ _ R (by have := HL.out; omega) H0.out).mono ?_
  rintro e w_2 ⟨G2, rfl, S2, d2⟩
  have R := R.below d2
  have S1 := S1.below d2
  have bel := below_seq bel d2
  rw [HN.out] at S2 ⊢
  by_cases hn0 : n = 0
  · have hnz : (n : Int) = 0 := by omega
    subst hn0
    clear R S1 S2
    go_wp2_with fail
    refine (phead_any _).mono ?_
    rintro e w_9 ⟨rfl, b⟩
    have bel := below_seq bel b
    go_wp2_with fail
    go_ret
    exact ⟨rfl, bel⟩
  obtain ⟨K, hK⟩ : ∃ K : Nat, 1 + M % n = K := ⟨_, rfl⟩
  have hKn : K ≤ n := by have := Nat.mod_lt M (show 0 < n by omega); omega
  have hK0 : 0 < K := by omega
  have hKz : (1 : Int) + (M : Int) % (n : Int) = (K : Int) := by omega
  have hnz : ¬ (n : Int) = 0 := by omega
  have hnz2 : ((n : Int) == 0) = false := by simpa using hn0
  obtain ⟨ad, cap2, hv, _, _, _⟩ := R.at_ (by rw [r8_len, HN.out]; omega)
  obtain rfl : A = some ad := by injection hv
  clear hv hK
  have hcn := HCP.out.le
  have Rt : R8 w_2 (.slice (some ad) K cap) (l.take K) := by
    have := row_take R K (by omega)
    rw [← r8_take] at this
    exact this
  have H0t : Hid (∀ c ∈ l.take K, 0 ≤ c) := Lib.hid fun c hc => H0.out c (List.mem_of_mem_take hc)
  have hKc : (K : Int) ≤ cap := by omega
  have hKz2 : (K : Int) ≤ n := by omega
  go_wp2_with fail
  refine (pBreaksG_any _ _ _ Rt (by rw [List.length_take]; have := HL.out; omega) H0t.out).mono ?_
  rintro e w_3 ⟨G3, rfl, S3, d3⟩
  have S1 := S1.below d3
  have S2 := S2.below d3
  have bel := below_seq bel d3
  rw [List.length_take, HN.out, Nat.min_eq_left hKn] at S3 ⊢
  have HS1 := Lib.hid S1
  have HS2 := Lib.hid S2
  have HS3 := Lib.hid S3
  have HBL := Lib.hid bel
  clear S1 S2 S3 R Rt d3 bel
  go_wp2_with fail
  go_loopg [9] n (fun kx i wl => ∃ (j : Nat), i = .int .i64 j ∧ j ≤ n ∧ kx = n - j ∧ wl = w_3)
  case atStart => exact ⟨0, rfl, by omega, by omega, rfl⟩
  case round =>
    obtain ⟨j, rfl, hj, rfl, rfl⟩ := hrel
    by_cases hjk : j < n
    · obtain ⟨p, hp1, hp2⟩ := pl_at (l := l) (j := j) (by rw [HN.out]; exact hjk)
      obtain ⟨a, c1, hv, _, _, hcell⟩ := HS1.out.at_ (by rw [rb_len, breaksL_len, HN.out]; omega)
      obtain ⟨a2, c2, hv2, _, _, hcell2⟩ := HS2.out.at_ (by rw [rb_len, mustL_len, HN.out]; omega)
      obtain rfl : (⟨G1, 0, none⟩ : Addr) = a := by injection hv with e; injection e
      obtain rfl : (⟨G2, 0, none⟩ : Addr) = a2 := by injection hv2 with e; injection e
      have q1 := hcell j _ (rb_at hp1)
      have q2 := hcell2 j _ (rb_at hp2)
      rw [Addr.add_lit, Nat.zero_add] at q1 q2
      have hjz : (j : Int) < n := by omega
      obtain ⟨q, hq⟩ : ∃ q, mst p = q := ⟨_, rfl⟩
      rw [hq] at q2
      clear hv hv2 hcell hcell2 hp1 hp2
      cases q
      · go_wp2_with fail
        go_roundg (n - (j + 1))
        case measure => omega
        case rel => exact ⟨j + 1, by go_num, by omega, by first | rfl | trivial, rfl⟩
      · rw [mst_may hq] at q1
        clear hq
        go_wp2_with fail
        go_roundg (n - (j + 1))
        case measure => omega
        case rel => exact ⟨j + 1, by go_num, by omega, by first | rfl | trivial, rfl⟩
    · have hjn : j = n := by omega
      obtain ⟨a, c1, hv, _, _, hcell⟩ := HS1.out.at_ (by rw [rb_len, breaksL_len, HN.out]; omega)
      obtain rfl : (⟨G1, 0, none⟩ : Addr) = a := by injection hv with e; injection e
      have q1 := hcell 0 _ (rb_at (first_no (by rw [HN.out]; omega)))
      rw [Addr.add_lit, Nat.zero_add] at q1
      have hn1 : (0 : Int) < n := by omega
      have S1t := row_take HS1.out K hKn
      rw [← rb_take] at S1t
      clear hv hcell
      subst hjn
      go_wp2_with fail
      refine (psameB_is _ _ _ _ _ HS3.out S1t (breaks_take l K) (by rw [breaksL_len, List.length_take]; have := HL.out; omega)).mono ?_
      rintro e w_4 ⟨rfl, d4⟩
      have b4 := below_seq HBL.out d4
      clear q1 d4 S1t
      go_wp2_with fail
      refine (phead_any _).mono ?_
      rintro e w_5 ⟨rfl, d5⟩
      have b5 := below_seq b4 d5
      go_wp2_with fail
      go_ret
      exact ⟨rfl, b5⟩
end Go.Proofs.Ytijdippkkaigjaa
