/- Contracts of the reference's Rule and All. Conditions: the slice reads as the list, at most 1048576 long, and is no longer than its memory. -/
import Derived.Test.YtnoenccpbbkdeaaPr15
import Derived.Test.YtnoenccpbbkdeaaPr16
import Derived.Test.YtnoenccpbbkdeaaPr17
import Derived.Test.YtnoenccpbbkdeaaPr18
import Derived.Test.YtnoenccpbbkdeaaPr19
namespace Go.Proofs.Ytnoenccpbbkdeaa
open Go.ChangeShapes Go.WideShapes Go.ChangeAt Go.RowKit
open Pr

theorem rrule_any (l : List Int) (v : Value) (w : World) (hR : R8 w v l) (hcap : Cap v) (hlen : l.length ≤ 1048576) (i : Nat) (x : Int) (hi0 : 0 < i) (hx : l[i]? = some x) :
    Calls Try.prog 89 #[v, .int .i64 (i : Int)] w fun e w' => e = .returned (.tuple #[.int .u8 (plcAt (st s0 (l.take i)) x).1, .bool (plcAt (st s0 (l.take i)) x).2]) ∧ Below w.heap.size w w' := by
  cases ho : (st s0 (l.take i)).2 with
  | none => exact rruleN_any l v w hR hcap hlen i x hi0 hx ho
  | some od =>
    by_cases h16 : od = 16
    · subst h16; exact rruleQ_any l v w hR hcap hlen i x hi0 hx ho
    by_cases h15 : od = 15
    · subst h15; exact rruleC_any l v w hR hcap hlen i x hi0 hx ho
    by_cases h12 : od = 12
    · subst h12; exact rruleB_any l v w hR hcap hlen i x hi0 hx ho
    · exact rruleO_any l v w hR hcap hlen i x hi0 hx od h16 h15 h12 ho
theorem rulesL_succ (l : List Int) (k : Nat) {x : Int} (h : l[k]? = some x) : r8 (rulesL (l.take (k + 1))) = r8 (rulesL (l.take k)) ++ [.int .u8 (plcAt (st s0 (l.take k)) x).1] := by
  unfold rulesL r8
  rw [plc_take_succ l s0 k h]
  simp
theorem breaksL_succ (l : List Int) (k : Nat) {x : Int} (h : l[k]? = some x) : rb (breaksL (l.take (k + 1))) = rb (breaksL (l.take k)) ++ [.bool (plcAt (st s0 (l.take k)) x).2] := by
  unfold breaksL rb
  rw [plc_take_succ l s0 k h]
  simp
theorem mustL_succ (l : List Int) (k : Nat) {x : Int} (h : l[k]? = some x) : rb (mustL (l.take (k + 1))) = rb (mustL (l.take k)) ++ [.bool (mst (plcAt (st s0 (l.take k)) x))] := by
  unfold mustL rb
  rw [plc_take_succ l s0 k h]
  simp

set_option maxRecDepth 100000 in
set_option maxHeartbeats 16000000 in
theorem rall_any (l : List Int) (v : Value) (w : World) (hR : R8 w v l) (hcap : Cap v) (hlen : l.length ≤ 1048576) :
    Calls Try.prog 60 #[v] w fun e w' => ∃ u1 u2 u3, e = .returned (.tuple #[u1, u2, u3]) ∧ R8 w' u1 (rulesL l) ∧ RB w' u2 (breaksL l) ∧ RB w' u3 (mustL l) ∧ Below w.heap.size w w' := by
  have HRw := Lib.hid hR
  obtain ⟨A, cap, rfl⟩ := hR.form
  have HCP := Lib.hid hcap
  obtain ⟨n, hl⟩ : ∃ n, l.length = n := ⟨_, rfl⟩
  have HN := Lib.hid hl
  rw [r8_len, hl] at HRw HCP ⊢
  have HLN := Lib.hid hlen
  rw [hl] at hlen
  clear hl hR hcap
  go_enter Try.func60, Try.ntmps60
  go_wp2_with fail
  go_loopg [5, 6, 7, 8] n (fun kx s5 s6 s7 s8 wr => ∃ (k : Nat) (v1 v2 v3 : Value), s5 = v1 ∧ s6 = v2 ∧ s7 = v3 ∧ s8 = .int .i64 (k : Int) ∧ k ≤ n ∧ kx = n - k ∧ Below w.heap.size w wr ∧ Hid (wr.ownsRow w.heap.size 5 1 v1 k (r8 (rulesL (l.take k)))) ∧ Hid (wr.ownsRow w.heap.size 4 1 v2 k (rb (breaksL (l.take k)))) ∧ Hid (wr.ownsRow w.heap.size 4 1 v3 k (rb (mustL (l.take k)))) ∧ Hid (Apart v2 v3))
  case atStart => exact ⟨0, _, _, _, rfl, rfl, rfl, rfl, by omega, by omega, Below.refl _ _, Lib.hid (own_nil _ _ _ _), Lib.hid (own_nil _ _ _ _), Lib.hid (own_nil _ _ _ _), Lib.hid (Apart.nil _)⟩
  case round =>
    obtain ⟨k, v1, v2, v3, rfl, rfl, rfl, rfl, hk, rfl, bel, HO1, HO2, HO3, HA⟩ := hrel
    by_cases hlt : k < n
    · obtain ⟨x, hx⟩ : ∃ x, l[k]? = some x := ⟨_, List.getElem?_eq_getElem (by rw [HN.out]; exact hlt)⟩
      have hkz : (k : Int) < n := by omega
      have E1 := Lib.hid (rulesL_succ l k hx)
      have E2 := Lib.hid (breaksL_succ l k hx)
      have E3 := Lib.hid (mustL_succ l k hx)
      have hbs := bel.size
      by_cases h0 : 0 < k
      · have h0z : (0 : Int) < k := by omega
        have C := Lib.hid (rrule_any l _ wr (HRw.out.below bel) HCP.out HLN.out k x h0 hx)
        obtain ⟨pl, hpl⟩ : ∃ p, plcAt (st s0 (l.take k)) x = p := ⟨_, rfl⟩
        obtain ⟨pr, pm⟩ := pl
        rw [hpl] at E1 E2 E3 C
        clear hx hpl
        go_wp2_with fail
        refine (C.out).mono ?_
        rintro e w4 ⟨rfl, b4⟩
        have bel4 := below_seq bel b4
        have HP1 := Lib.hid (own_below HO1.out b4)
        have HP2 := Lib.hid (own_below HO2.out b4)
        have HP3 := Lib.hid (own_below HO3.out b4)
        have hbs4 := bel4.size
        clear C b4 bel HO1 HO2 HO3
        go_wp2_with (first
          | (refine apN8 (o1 := ⟨some 27, _, _, _, _, _⟩) rfl (.tmp 26) rfl 27 rfl rfl (.tmp 25) rfl (pr) rfl _ (fun _ => rfl) (fun _ => rfl) w.heap.size k _ HP1.out (by omega) hbs4 ?_; intro u5 v5 w5 O5 b5 m5 n5; refine Mk.out ?_))
        constructor
        have P2 := own_keep HP2.out m5 (own_types HP1.out HP2.out).symm
        have P3 := own_keep HP3.out m5 (own_types HP1.out HP3.out).symm
        have hbw5 : w.heap.size ≤ w5.heap.size := by have := b5.size; omega
        have bel5 := bel4.trans b5
        have HO5 := Lib.hid O5
        have HP2' := Lib.hid P2
        have HP3' := Lib.hid P3
        clear O5 P2 P3 m5 n5 b5 HP1 HP2 HP3
        go_wp2_with (first
          | (refine apNB (o1 := ⟨some 31, _, _, _, _, _⟩) rfl (.tmp 30) rfl 31 rfl rfl (.tmp 29) rfl pm rfl _ (fun _ => rfl) (fun _ => rfl) w.heap.size k _ HP2'.out (by omega) hbw5 ?_; intro u6 v6 w6 O6 b6 m6 n6; refine Mk.out ?_))
        constructor
        have Q1 := Lib.hid (own_keep HO5.out m6 (own_types HO5.out HP2'.out))
        have Q3 := Lib.hid (own_keep HP3'.out m6 HA.out.symm)
        have HA2 := Lib.hid (HA.out.symm.step HP3'.out n6)
        have HO6 := Lib.hid O6
        have hbw6 : w.heap.size ≤ w6.heap.size := by have := b6.size; omega
        have bel6 := bel5.trans b6
        clear O6 m6 n6 b6 HO5 HP2' HP3' bel5
        cases pm
        · have EV : mst (pr, false) = false := rfl
          rw [EV] at E3
          clear EV
          go_wp2_with (first
            | (refine apNB (o1 := ⟨some 43, _, _, _, _, _⟩) rfl (.tmp 42) rfl 43 rfl rfl (.tmp 33) rfl false rfl _ (fun _ => rfl) (fun _ => rfl) w.heap.size k _ Q3.out (by omega) hbw6 ?_; intro u7 v7 w7 O7 b7 m7 n7; refine Mk.out ?_))
          constructor
          have S1 := own_keep Q1.out m7 (own_types Q1.out Q3.out)
          have S2 := own_keep HO6.out m7 HA2.out.symm
          have HA3 := Lib.hid (HA2.out.symm.step HO6.out n7)
          rw [← E1.out] at S1
          rw [← E2.out] at S2
          rw [← E3.out] at O7
          have HS1 := Lib.hid S1
          have HS2 := Lib.hid S2
          have HS3 := Lib.hid O7
          have bel7 := bel6.trans b7
          clear S1 S2 O7 m7 n7 b7
          go_wp2_with fail
          go_roundg (n - (k + 1))
          case measure => omega
          case rel => exact ⟨k + 1, v5, v6, v7, rfl, rfl, rfl, by go_num, by omega, by first | rfl | trivial, bel7, HS1, HS2, HS3, HA3⟩
        · by_cases g4 : 4 ≤ pr
          · by_cases g5 : pr ≤ 5
            · have EV : mst (pr, true) = true := by simp [mst, g4, g5]
              rw [EV] at E3
              clear EV
              go_wp2_with (first
                | (refine apNB (o1 := ⟨some 43, _, _, _, _, _⟩) rfl (.tmp 42) rfl 43 rfl rfl (.tmp 33) rfl true rfl _ (fun _ => rfl) (fun _ => rfl) w.heap.size k _ Q3.out (by omega) hbw6 ?_; intro u7 v7 w7 O7 b7 m7 n7; refine Mk.out ?_))
              constructor
              have S1 := own_keep Q1.out m7 (own_types Q1.out Q3.out)
              have S2 := own_keep HO6.out m7 HA2.out.symm
              have HA3 := Lib.hid (HA2.out.symm.step HO6.out n7)
              rw [← E1.out] at S1
              rw [← E2.out] at S2
              rw [← E3.out] at O7
              have HS1 := Lib.hid S1
              have HS2 := Lib.hid S2
              have HS3 := Lib.hid O7
              have bel7 := bel6.trans b7
              clear S1 S2 O7 m7 n7 b7
              go_wp2_with fail
              go_roundg (n - (k + 1))
              case measure => omega
              case rel => exact ⟨k + 1, v5, v6, v7, rfl, rfl, rfl, by go_num, by omega, by first | rfl | trivial, bel7, HS1, HS2, HS3, HA3⟩
            · have EV : mst (pr, true) = false := by simp [mst]; omega
              rw [EV] at E3
              clear EV
              go_wp2_with (first
                | (refine apNB (o1 := ⟨some 43, _, _, _, _, _⟩) rfl (.tmp 42) rfl 43 rfl rfl (.tmp 33) rfl false rfl _ (fun _ => rfl) (fun _ => rfl) w.heap.size k _ Q3.out (by omega) hbw6 ?_; intro u7 v7 w7 O7 b7 m7 n7; refine Mk.out ?_))
              constructor
              have S1 := own_keep Q1.out m7 (own_types Q1.out Q3.out)
              have S2 := own_keep HO6.out m7 HA2.out.symm
              have HA3 := Lib.hid (HA2.out.symm.step HO6.out n7)
              rw [← E1.out] at S1
              rw [← E2.out] at S2
              rw [← E3.out] at O7
              have HS1 := Lib.hid S1
              have HS2 := Lib.hid S2
              have HS3 := Lib.hid O7
              have bel7 := bel6.trans b7
              clear S1 S2 O7 m7 n7 b7
              go_wp2_with fail
              go_roundg (n - (k + 1))
              case measure => omega
              case rel => exact ⟨k + 1, v5, v6, v7, rfl, rfl, rfl, by go_num, by omega, by first | rfl | trivial, bel7, HS1, HS2, HS3, HA3⟩
          · have EV : mst (pr, true) = false := by simp [mst]; omega
            rw [EV] at E3
            clear EV
            go_wp2_with (first
              | (refine apNB (o1 := ⟨some 43, _, _, _, _, _⟩) rfl (.tmp 42) rfl 43 rfl rfl (.tmp 33) rfl false rfl _ (fun _ => rfl) (fun _ => rfl) w.heap.size k _ Q3.out (by omega) hbw6 ?_; intro u7 v7 w7 O7 b7 m7 n7; refine Mk.out ?_))
            constructor
            have S1 := own_keep Q1.out m7 (own_types Q1.out Q3.out)
            have S2 := own_keep HO6.out m7 HA2.out.symm
            have HA3 := Lib.hid (HA2.out.symm.step HO6.out n7)
            rw [← E1.out] at S1
            rw [← E2.out] at S2
            rw [← E3.out] at O7
            have HS1 := Lib.hid S1
            have HS2 := Lib.hid S2
            have HS3 := Lib.hid O7
            have bel7 := bel6.trans b7
            clear S1 S2 O7 m7 n7 b7
            go_wp2_with fail
            go_roundg (n - (k + 1))
            case measure => omega
            case rel => exact ⟨k + 1, v5, v6, v7, rfl, rfl, rfl, by go_num, by omega, by first | rfl | trivial, bel7, HS1, HS2, HS3, HA3⟩
      · have HK0 : Hid (k = 0) := Lib.hid (by omega)
        have h0z : ¬ (0 : Int) < k := by omega
        have hpl : plcAt (st s0 (l.take k)) x = (0, false) := by rw [HK0.out]; rfl
        rw [hpl] at E1 E2 E3
        have HP1 := HO1
        have HP2 := HO2
        have HP3 := HO3
        have bel4 := bel
        have hbs4 := hbs
        obtain ⟨w4, hw4⟩ : ∃ w4, wr = w4 := ⟨_, rfl⟩
        rw [hw4] at HP1 HP2 HP3 bel4 hbs4 ⊢
        clear hx hpl HO1 HO2 HO3 bel hbs hw4
        go_wp2_with (first
          | (refine apN8 (o1 := ⟨some 27, _, _, _, _, _⟩) rfl (.tmp 26) rfl 27 rfl rfl (.tmp 25) rfl (0) rfl _ (fun _ => rfl) (fun _ => rfl) w.heap.size k _ HP1.out (by omega) hbs4 ?_; intro u5 v5 w5 O5 b5 m5 n5; refine Mk.out ?_))
        constructor
        have P2 := own_keep HP2.out m5 (own_types HP1.out HP2.out).symm
        have P3 := own_keep HP3.out m5 (own_types HP1.out HP3.out).symm
        have hbw5 : w.heap.size ≤ w5.heap.size := by have := b5.size; omega
        have bel5 := bel4.trans b5
        have HO5 := Lib.hid O5
        have HP2' := Lib.hid P2
        have HP3' := Lib.hid P3
        clear O5 P2 P3 m5 n5 b5 HP1 HP2 HP3
        go_wp2_with (first
          | (refine apNB (o1 := ⟨some 31, _, _, _, _, _⟩) rfl (.tmp 30) rfl 31 rfl rfl (.tmp 29) rfl false rfl _ (fun _ => rfl) (fun _ => rfl) w.heap.size k _ HP2'.out (by omega) hbw5 ?_; intro u6 v6 w6 O6 b6 m6 n6; refine Mk.out ?_))
        constructor
        have Q1 := Lib.hid (own_keep HO5.out m6 (own_types HO5.out HP2'.out))
        have Q3 := Lib.hid (own_keep HP3'.out m6 HA.out.symm)
        have HA2 := Lib.hid (HA.out.symm.step HP3'.out n6)
        have HO6 := Lib.hid O6
        have hbw6 : w.heap.size ≤ w6.heap.size := by have := b6.size; omega
        have bel6 := bel5.trans b6
        clear O6 m6 n6 b6 HO5 HP2' HP3' bel5
        have EV : mst (0, false) = false := rfl
        rw [EV] at E3
        clear EV
        go_wp2_with (first
          | (refine apNB (o1 := ⟨some 43, _, _, _, _, _⟩) rfl (.tmp 42) rfl 43 rfl rfl (.tmp 33) rfl false rfl _ (fun _ => rfl) (fun _ => rfl) w.heap.size k _ Q3.out (by omega) hbw6 ?_; intro u7 v7 w7 O7 b7 m7 n7; refine Mk.out ?_))
        constructor
        have S1 := own_keep Q1.out m7 (own_types Q1.out Q3.out)
        have S2 := own_keep HO6.out m7 HA2.out.symm
        have HA3 := Lib.hid (HA2.out.symm.step HO6.out n7)
        rw [← E1.out] at S1
        rw [← E2.out] at S2
        rw [← E3.out] at O7
        have HS1 := Lib.hid S1
        have HS2 := Lib.hid S2
        have HS3 := Lib.hid O7
        have bel7 := bel6.trans b7
        clear S1 S2 O7 m7 n7 b7
        go_wp2_with fail
        go_roundg (n - (k + 1))
        case measure => omega
        case rel => exact ⟨k + 1, v5, v6, v7, rfl, rfl, rfl, by go_num, by omega, by first | rfl | trivial, bel7, HS1, HS2, HS3, HA3⟩
    · have hkn : k = n := by omega
      subst hkn
      have r1 := Row.of_own HO1.out
      have r2 := Row.of_own HO2.out
      have r3 := Row.of_own HO3.out
      rw [List.take_of_length_le (by rw [HN.out]; omega)] at r1 r2 r3
      have q1 : R8 wr _ (rulesL l) := r1.mono (fun _ _ (h : False) => h.elim)
      have q2 : RB wr _ (breaksL l) := r2.mono (fun _ _ (h : False) => h.elim)
      have q3 : RB wr _ (mustL l) := r3.mono (fun _ _ (h : False) => h.elim)
      clear r1 r2 r3
      go_wp2_with fail
      go_ret3
      exact ⟨_, _, _, rfl, q1, q2, q3, bel⟩
end Go.Proofs.Ytnoenccpbbkdeaa
