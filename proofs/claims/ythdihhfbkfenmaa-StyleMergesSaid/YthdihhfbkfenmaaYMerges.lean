/- The walk of StyleMerges. Condition: bits are 16-bit numbers. -/
import Derived.Test.YthdihhfbkfenmaaYLawM
import Derived.Test.YthdihhfbkfenmaaYBits
import Derived.Test.YthdihhfbkfenmaaYHead
import Derived.Test.YthdihhfbkfenmaaYOpen
namespace Go.Proofs.Ythdihhfbkfenmaa
open Go.ChangeShapes Go.WideShapes Go.ChangeAt Go.RowKit

theorem thr_a (a b c : Dcl) : ∀ (j : Nat) (v : Value), a.cells[j]? = some v → (thr a b c)[0 + j]? = some v := fun j v hv => by
  have hj : j < 10 := (Array.getElem?_eq_some_iff.1 hv).1
  match j, hj with
  | 0, _ => exact hv
  | 1, _ => exact hv
  | 2, _ => exact hv
  | 3, _ => exact hv
  | 4, _ => exact hv
  | 5, _ => exact hv
  | 6, _ => exact hv
  | 7, _ => exact hv
  | 8, _ => exact hv
  | 9, _ => exact hv
theorem thr_b (a b c : Dcl) : ∀ (j : Nat) (v : Value), b.cells[j]? = some v → (thr a b c)[10 + j]? = some v := fun j v hv => by
  have hj : j < 10 := (Array.getElem?_eq_some_iff.1 hv).1
  match j, hj with
  | 0, _ => exact hv
  | 1, _ => exact hv
  | 2, _ => exact hv
  | 3, _ => exact hv
  | 4, _ => exact hv
  | 5, _ => exact hv
  | 6, _ => exact hv
  | 7, _ => exact hv
  | 8, _ => exact hv
  | 9, _ => exact hv
theorem thr_c (a b c : Dcl) : ∀ (j : Nat) (v : Value), c.cells[j]? = some v → (thr a b c)[20 + j]? = some v := fun j v hv => by
  have hj : j < 10 := (Array.getElem?_eq_some_iff.1 hv).1
  match j, hj with
  | 0, _ => exact hv
  | 1, _ => exact hv
  | 2, _ => exact hv
  | 3, _ => exact hv
  | 4, _ => exact hv
  | 5, _ => exact hv
  | 6, _ => exact hv
  | 7, _ => exact hv
  | 8, _ => exact hv
  | 9, _ => exact hv

theorem bxT (a b c : Dcl) (w : World) : (Instr.box 53 (.agg (thr a b c))).run Try.prog w = .ok (.pointer (some ⟨w.heap.size, 0, none⟩)) (w.alloc (.cells (thr a b c) 53)) := by kernel_rfl

set_option maxRecDepth 100000 in
set_option maxHeartbeats 16000000 in
theorem merges_any (s : Sty) (a b c : Dcl) (w : World) (ha : a.n < 65536) (hb : b.n < 65536) (hc : c.n < 65536) :
    Calls Try.prog 5 #[.agg s.cells, .agg (thr a b c)] w fun e w' => e = .returned (.bool true) ∧ Below w.heap.size w w' := by
  have CH := Lib.hid head_any
  have D1 := Lib.hid (fun w => ymerge_any a b w ha hb)
  have D2 := Lib.hid (fun w => ymerge_any b c w hb hc)
  have DC := Lib.hid (fun w => ycheck_any s w)
  rcases mrgE_cases a b with ⟨va, vb, e1, e2⟩ | ⟨e1, e2⟩
  · rcases mrgE_cases b c with ⟨_, vc, f1, f2⟩ | ⟨f1, f2⟩
    · rcases chk_cases s with ⟨vs, g1⟩ | ⟨vs, g1⟩
      · have nab := or_lt16 a.n b.n ha hb
        have nbc := or_lt16 b.n c.n hb hc
        have D3 := Lib.hid (fun w => ymerge_any (mrg a b) c w nab hc)
        have D4 := Lib.hid (fun w => ymerge_any a (mrg b c) w ha nbc)
        have D5 := Lib.hid (fun w => yresolve_any s a w ha)
        have D6 := Lib.hid (fun w => yresolve_any (over s a) b w hb)
        have D7 := Lib.hid (fun w => yresolve_any s (mrg a b) w nab)
        have D8 : Hid (∀ w, Calls Try.prog 10 #[.agg a.cells, .agg Dcl.zero.cells] w fun e w' => e = .returned (.tuple #[.agg (mrgV a .zero).cells, .int .i64 (mrgE a .zero)]) ∧ Below w.heap.size w w') := fun w => ymerge_any a .zero w ha (by decide)
        have D9 : Hid (∀ w, Calls Try.prog 8 #[.agg s.cells, .agg Dcl.zero.cells] w fun e w' => e = .returned (.tuple #[.agg (resV s .zero).cells, .int .i64 (resE s .zero)]) ∧ Below w.heap.size w w') := fun w => yresolve_any s .zero w (by decide)
        have D10 := Lib.hid (fun w => ycheck_any (over (over s a) b) w)
        have vab := vldD_mrg a b va vb
        have vbc := vldD_mrg b c vb vc
        have sa := ((vldD_iff a).1 va).2.2
        have sb := ((vldD_iff b).1 vb).2.2
        have vp := vld_over s a vs sa
        have vq := vld_over _ b vp sb
        rw [e1, e2] at D1
        rw [f1, f2] at D2
        rw [g1] at DC
        have k3 : mrgV (mrg a b) c = mrg a (mrg b c) ∧ mrgE (mrg a b) c = 0 := by unfold mrgV mrgE; rw [vab, vc, mrg_assoc]; exact ⟨rfl, rfl⟩
        have k4 : mrgV a (mrg b c) = mrg a (mrg b c) ∧ mrgE a (mrg b c) = 0 := by unfold mrgV mrgE; rw [va, vbc]; exact ⟨rfl, rfl⟩
        have k5 : resV s a = over s a ∧ resE s a = 0 := by unfold resV resE; rw [vs, va]; exact ⟨rfl, rfl⟩
        have k6 : resV (over s a) b = over (over s a) b ∧ resE (over s a) b = 0 := by unfold resV resE; rw [vp, vb]; exact ⟨rfl, rfl⟩
        have k7 : resV s (mrg a b) = over (over s a) b ∧ resE s (mrg a b) = 0 := by unfold resV resE; rw [vs, vab, over_mrg]; exact ⟨rfl, rfl⟩
        have k8 : mrgV a .zero = a ∧ mrgE a .zero = 0 := by unfold mrgV mrgE; rw [va, vldD_zero, mrg_zero]; exact ⟨rfl, rfl⟩
        have k9 : resV s .zero = s ∧ resE s .zero = 0 := by unfold resV resE; rw [vs, vldD_zero, over_zero]; exact ⟨rfl, rfl⟩
        have k10 : chk (over (over s a) b) = 0 := by unfold chk; rw [vq]; rfl
        rw [k3.1, k3.2] at D3
        rw [k4.1, k4.2] at D4
        rw [k5.1, k5.2] at D5
        rw [k6.1, k6.2] at D6
        rw [k7.1, k7.2] at D7
        rw [k8.1, k8.2] at D8
        rw [k9.1, k9.2] at D9
        rw [k10] at D10
        have H1 := Lib.hid (fun w => eqD (mrg a (mrg b c)) (mrg a (mrg b c)) w true (decide_eq_true rfl))
        have H2 := Lib.hid (fun w => eqS (over (over s a) b) (over (over s a) b) w true (decide_eq_true rfl))
        have H3 := Lib.hid (fun w => eqD a a w true (decide_eq_true rfl))
        have H4 := Lib.hid (fun w => eqS s s w true (decide_eq_true rfl))
        clear va vb vc vs e1 e2 f1 f2 g1 nab nbc vab vbc sa sb vp vq k3 k4 k5 k6 k7 k8 k9 k10 ha hb hc
        obtain ⟨abc, habc⟩ : ∃ q, mrg a (mrg b c) = q := ⟨_, rfl⟩
        rw [habc] at D3 D4 H1
        clear habc
        obtain ⟨ab, hab⟩ : ∃ q, mrg a b = q := ⟨_, rfl⟩
        rw [hab] at D1 D3 D7
        obtain ⟨bc, hbc⟩ : ∃ q, mrg b c = q := ⟨_, rfl⟩
        rw [hbc] at D2 D4
        obtain ⟨q, hq⟩ : ∃ q, over (over s a) b = q := ⟨_, rfl⟩
        rw [hq] at D6 D7 D10 H2
        clear hab hbc hq
        obtain ⟨p, hp⟩ : ∃ q, over s a = q := ⟨_, rfl⟩
        rw [hp] at D5 D6
        clear hp
        go_enter Try.func5, Try.ntmps5
        go_wp2_with (first
            | (refine bxSV rfl (.tmp 0) rfl s rfl ?_; intro w1 b1 B1; have hK1 := (Kn.nil w).cons b1 B1)
            | (refine wpList_boxL rfl 53 (.tmp 1) rfl (thr a b c) rfl (bxT a b c) ?_; intro w2 b2 B2; have hK2 := hK1.cons b2 B2)
            | (refine ldD rfl (.tmp 24) rfl _ rfl a ((hK2.at_ 0 rfl).part 0 (thr_a a b c)) ?_)
            | (refine ldD rfl (.tmp 26) rfl _ rfl b ((hK2.at_ 0 rfl).part 10 (thr_b a b c)) ?_))
        refine (D1.out _).mono ?_
        rintro e w3 ⟨rfl, b3⟩
        go_wp2_with (first
            | (refine nwD rfl rfl 5 rfl rfl (.tmp 29) rfl rfl ab (fun _ => rfl) (fun _ => rfl) ?_; intro w4 b4 B4; have hK4 := (hK2.below b3).cons b4 B4)
            | (refine ldD rfl (.tmp 32) rfl _ rfl b ((hK4.at_ 1 rfl).part 10 (thr_b a b c)) ?_)
            | (refine ldD rfl (.tmp 34) rfl _ rfl c ((hK4.at_ 1 rfl).part 20 (thr_c a b c)) ?_))
        refine (D2.out _).mono ?_
        rintro e w5 ⟨rfl, b5⟩
        go_wp2_with (first
            | (refine nwD rfl rfl 7 rfl rfl (.tmp 37) rfl rfl bc (fun _ => rfl) (fun _ => rfl) ?_; intro w6 b6 B6; have hK6 := (hK4.below b5).cons b6 B6)
            | (refine ldSIf (by kernel_rfl) (.tmp 2) rfl _ rfl s (hK6.at_ 3 rfl).lies ?_))
        refine (DC.out _).mono ?_
        rintro e w7 ⟨rfl, b7⟩
        have hK6c := hK6.below b7
        go_wp2_with (first
            | (refine ldD rfl (.tmp 5) rfl _ rfl ab (hK6c.at_ 1 rfl).lies ?_)
            | (refine ldD rfl (.tmp 53) rfl _ rfl c ((hK6c.at_ 2 rfl).part 20 (thr_c a b c)) ?_))
        refine (D3.out _).mono ?_
        rintro e w8 ⟨rfl, b8⟩
        go_wp2_with (first
            | (refine nwD rfl rfl 9 rfl rfl (.tmp 56) rfl rfl abc (fun _ => rfl) (fun _ => rfl) ?_; intro w9 b9 B9; have hK9 := (hK6c.below b8).cons b9 B9)
            | (refine ldD rfl (.tmp 59) rfl _ rfl a ((hK9.at_ 3 rfl).part 0 (thr_a a b c)) ?_)
            | (refine ldD rfl (.tmp 7) rfl _ rfl bc (hK9.at_ 1 rfl).lies ?_))
        refine (D4.out _).mono ?_
        rintro e w10 ⟨rfl, b10⟩
        go_wp2_with (first
            | (refine nwD rfl rfl 11 rfl rfl (.tmp 63) rfl rfl abc (fun _ => rfl) (fun _ => rfl) ?_; intro w11 b11 B11; have hK11 := (hK9.below b10).cons b11 B11)
            | (refine ldS rfl (.tmp 2) rfl _ rfl s (hK11.at_ 5 rfl).lies ?_)
            | (refine ldD rfl (.tmp 67) rfl _ rfl a ((hK11.at_ 4 rfl).part 0 (thr_a a b c)) ?_))
        refine (D5.out _).mono ?_
        rintro e w12 ⟨rfl, b12⟩
        go_wp2_with (first
            | (refine nwS rfl rfl 13 rfl rfl (.tmp 70) rfl rfl p (fun _ => rfl) (fun _ => rfl) ?_; intro w13 b13 B13; have hK13 := (hK11.below b12).cons b13 B13)
            | (refine ldS rfl (.tmp 13) rfl _ rfl p (hK13.at_ 0 rfl).lies ?_)
            | (refine ldD rfl (.tmp 74) rfl _ rfl b ((hK13.at_ 5 rfl).part 10 (thr_b a b c)) ?_))
        refine (D6.out _).mono ?_
        rintro e w14 ⟨rfl, b14⟩
        go_wp2_with (first
            | (refine nwS rfl rfl 15 rfl rfl (.tmp 77) rfl rfl q (fun _ => rfl) (fun _ => rfl) ?_; intro w15 b15 B15; have hK15 := (hK13.below b14).cons b15 B15)
            | (refine ldS rfl (.tmp 2) rfl _ rfl s (hK15.at_ 7 rfl).lies ?_)
            | (refine ldD rfl (.tmp 5) rfl _ rfl ab (hK15.at_ 5 rfl).lies ?_))
        refine (D7.out _).mono ?_
        rintro e w16 ⟨rfl, b16⟩
        go_wp2_with (first
            | (refine nwS rfl rfl 17 rfl rfl (.tmp 83) rfl rfl q (fun _ => rfl) (fun _ => rfl) ?_; intro w17 b17 B17; have hK17 := (hK15.below b16).cons b17 B17)
            | (refine ldD rfl (.tmp 86) rfl _ rfl a ((hK17.at_ 7 rfl).part 0 (thr_a a b c)) ?_))
        refine (D8.out _).mono ?_
        rintro e w18 ⟨rfl, b18⟩
        go_wp2_with (first
            | (refine nwD rfl rfl 19 rfl rfl (.tmp 90) rfl rfl a (fun _ => rfl) (fun _ => rfl) ?_; intro w19 b19 B19; have hK19 := (hK17.below b18).cons b19 B19)
            | (refine ldS rfl (.tmp 2) rfl _ rfl s (hK19.at_ 9 rfl).lies ?_))
        refine (D9.out _).mono ?_
        rintro e w20 ⟨rfl, b20⟩
        have h1 := H1.out
        have h2 := H2.out
        have h3 := H3.out
        have h4 := H4.out
        go_wp2_with (first
            | (refine nwS rfl rfl 21 rfl rfl (.tmp 96) rfl rfl s (fun _ => rfl) (fun _ => rfl) ?_; intro w21 b21 B21; have hK21 := (hK19.below b20).cons b21 B21)
            | (refine ldD rfl (.tmp 9) rfl _ rfl abc (hK21.at_ 6 rfl).lies ?_)
            | (refine ldD rfl (.tmp 11) rfl _ rfl abc (hK21.at_ 5 rfl).lies ?_)
            | (refine ldSIf (by kernel_rfl) (.tmp 15) rfl _ rfl q (hK21.at_ 3 rfl).lies ?_)
            | (refine ldSIf (by kernel_rfl) (.tmp 17) rfl _ rfl q (hK21.at_ 2 rfl).lies ?_)
            | (refine ldDIf (by kernel_rfl) (.tmp 19) rfl _ rfl a (hK21.at_ 1 rfl).lies ?_)
            | (refine ldDIf (by kernel_rfl) (.tmp 128) rfl _ rfl a ((hK21.at_ 9 rfl).part 0 (thr_a a b c)) ?_)
            | (refine ldSIf (by kernel_rfl) (.tmp 21) rfl _ rfl s (hK21.at_ 0 rfl).lies ?_)
            | (refine ldSIf (by kernel_rfl) (.tmp 2) rfl _ rfl s (hK21.at_ 10 rfl).lies ?_))
        refine (D10.out _).mono ?_
        rintro e w22 ⟨rfl, b22⟩
        go_wp2_with fail
        refine (CH.out _).mono ?_
        rintro e w23 ⟨rfl, b23⟩
        go_wp2_with fail
        go_ret
        exact ⟨rfl, (below_seq (below_seq (below_seq (below_seq (below_seq (below_seq (below_seq (below_seq (below_seq (below_seq (below_seq (below_seq (below_seq (below_seq (below_seq (below_seq (below_seq (below_seq (below_seq (below_seq (below_seq (below_seq b1 b2) b3) b4) b5) b6) b7) b8) b9) b10) b11) b12) b13) b14) b15) b16) b17) b18) b19) b20) b21) b22) b23)⟩
      · rw [e1, e2] at D1
        rw [f1, f2] at D2
        rw [g1] at DC
        obtain ⟨ab, hab⟩ : ∃ q, mrg a b = q := ⟨_, rfl⟩
        rw [hab] at D1
        obtain ⟨bc, hbc⟩ : ∃ q, mrg b c = q := ⟨_, rfl⟩
        rw [hbc] at D2
        clear hab hbc va vb vc vs e1 e2 f1 f2 g1 ha hb hc
        go_enter Try.func5, Try.ntmps5
        go_wp2_with (first
            | (refine bxSV rfl (.tmp 0) rfl s rfl ?_; intro w1 b1 B1; have hK1 := (Kn.nil w).cons b1 B1)
            | (refine wpList_boxL rfl 53 (.tmp 1) rfl (thr a b c) rfl (bxT a b c) ?_; intro w2 b2 B2; have hK2 := hK1.cons b2 B2)
            | (refine ldD rfl (.tmp 24) rfl _ rfl a ((hK2.at_ 0 rfl).part 0 (thr_a a b c)) ?_)
            | (refine ldD rfl (.tmp 26) rfl _ rfl b ((hK2.at_ 0 rfl).part 10 (thr_b a b c)) ?_))
        refine (D1.out _).mono ?_
        rintro e w3 ⟨rfl, b3⟩
        go_wp2_with (first
            | (refine nwD rfl rfl 5 rfl rfl (.tmp 29) rfl rfl ab (fun _ => rfl) (fun _ => rfl) ?_; intro w4 b4 B4; have hK4 := (hK2.below b3).cons b4 B4)
            | (refine ldD rfl (.tmp 32) rfl _ rfl b ((hK4.at_ 1 rfl).part 10 (thr_b a b c)) ?_)
            | (refine ldD rfl (.tmp 34) rfl _ rfl c ((hK4.at_ 1 rfl).part 20 (thr_c a b c)) ?_))
        refine (D2.out _).mono ?_
        rintro e w5 ⟨rfl, b5⟩
        go_wp2_with (first
            | (refine nwD rfl rfl 7 rfl rfl (.tmp 37) rfl rfl bc (fun _ => rfl) (fun _ => rfl) ?_; intro w6 b6 B6; have hK6 := (hK4.below b5).cons b6 B6)
            | (refine ldSIf (by kernel_rfl) (.tmp 2) rfl _ rfl s (hK6.at_ 3 rfl).lies ?_))
        refine (DC.out _).mono ?_
        rintro e w7 ⟨rfl, b7⟩
        go_wp2_with fail
        refine (CH.out _).mono ?_
        rintro e w8 ⟨rfl, b8⟩
        go_wp2_with fail
        go_ret
        exact ⟨rfl, (below_seq (below_seq (below_seq (below_seq (below_seq (below_seq (below_seq b1 b2) b3) b4) b5) b6) b7) b8)⟩
    · rw [e1, e2] at D1
      rw [f1] at D2
      obtain ⟨ab, hab⟩ : ∃ q, mrg a b = q := ⟨_, rfl⟩
      rw [hab] at D1
      obtain ⟨bc, hbc⟩ : ∃ q, mrgV b c = q := ⟨_, rfl⟩
      rw [hbc] at D2
      clear hab hbc va vb e1 e2 f1 f2 ha hb hc
      go_enter Try.func5, Try.ntmps5
      go_wp2_with (first
          | (refine bxSV rfl (.tmp 0) rfl s rfl ?_; intro w1 b1 B1; have hK1 := (Kn.nil w).cons b1 B1)
          | (refine wpList_boxL rfl 53 (.tmp 1) rfl (thr a b c) rfl (bxT a b c) ?_; intro w2 b2 B2; have hK2 := hK1.cons b2 B2)
          | (refine ldD rfl (.tmp 24) rfl _ rfl a ((hK2.at_ 0 rfl).part 0 (thr_a a b c)) ?_)
          | (refine ldD rfl (.tmp 26) rfl _ rfl b ((hK2.at_ 0 rfl).part 10 (thr_b a b c)) ?_))
      refine (D1.out _).mono ?_
      rintro e w3 ⟨rfl, b3⟩
      go_wp2_with (first
          | (refine nwD rfl rfl 5 rfl rfl (.tmp 29) rfl rfl ab (fun _ => rfl) (fun _ => rfl) ?_; intro w4 b4 B4; have hK4 := (hK2.below b3).cons b4 B4)
          | (refine ldD rfl (.tmp 32) rfl _ rfl b ((hK4.at_ 1 rfl).part 10 (thr_b a b c)) ?_)
          | (refine ldD rfl (.tmp 34) rfl _ rfl c ((hK4.at_ 1 rfl).part 20 (thr_c a b c)) ?_))
      refine (D2.out _).mono ?_
      rintro e w5 ⟨rfl, b5⟩
      go_wp2_with (refine nwD rfl rfl 7 rfl rfl (.tmp 37) rfl rfl bc (fun _ => rfl) (fun _ => rfl) ?_; intro w6 b6 B6; have hK6 := (hK4.below b5).cons b6 B6)
      refine (CH.out _).mono ?_
      rintro e w7 ⟨rfl, b7⟩
      go_wp2_with fail
      go_ret
      exact ⟨rfl, (below_seq (below_seq (below_seq (below_seq (below_seq (below_seq b1 b2) b3) b4) b5) b6) b7)⟩
  · rw [e1] at D1
    obtain ⟨ab, hab⟩ : ∃ q, mrgV a b = q := ⟨_, rfl⟩
    rw [hab] at D1
    obtain ⟨bc, hbc⟩ : ∃ q, mrgV b c = q := ⟨_, rfl⟩
    obtain ⟨fe, hfe⟩ : ∃ q, mrgE b c = q := ⟨_, rfl⟩
    rw [hbc, hfe] at D2
    clear hab hbc hfe e1 e2 ha hb hc
    go_enter Try.func5, Try.ntmps5
    go_wp2_with (first
        | (refine bxSV rfl (.tmp 0) rfl s rfl ?_; intro w1 b1 B1; have hK1 := (Kn.nil w).cons b1 B1)
        | (refine wpList_boxL rfl 53 (.tmp 1) rfl (thr a b c) rfl (bxT a b c) ?_; intro w2 b2 B2; have hK2 := hK1.cons b2 B2)
        | (refine ldD rfl (.tmp 24) rfl _ rfl a ((hK2.at_ 0 rfl).part 0 (thr_a a b c)) ?_)
        | (refine ldD rfl (.tmp 26) rfl _ rfl b ((hK2.at_ 0 rfl).part 10 (thr_b a b c)) ?_))
    refine (D1.out _).mono ?_
    rintro e w3 ⟨rfl, b3⟩
    go_wp2_with (first
        | (refine nwD rfl rfl 5 rfl rfl (.tmp 29) rfl rfl ab (fun _ => rfl) (fun _ => rfl) ?_; intro w4 b4 B4; have hK4 := (hK2.below b3).cons b4 B4)
        | (refine ldD rfl (.tmp 32) rfl _ rfl b ((hK4.at_ 1 rfl).part 10 (thr_b a b c)) ?_)
        | (refine ldD rfl (.tmp 34) rfl _ rfl c ((hK4.at_ 1 rfl).part 20 (thr_c a b c)) ?_))
    refine (D2.out _).mono ?_
    rintro e w5 ⟨rfl, b5⟩
    go_wp2_with (refine nwD rfl rfl 7 rfl rfl (.tmp 37) rfl rfl bc (fun _ => rfl) (fun _ => rfl) ?_; intro w6 b6 B6; have hK6 := (hK4.below b5).cons b6 B6)
    refine (CH.out _).mono ?_
    rintro e w7 ⟨rfl, b7⟩
    go_wp2_with fail
    go_ret
    exact ⟨rfl, (below_seq (below_seq (below_seq (below_seq (below_seq (below_seq b1 b2) b3) b4) b5) b6) b7)⟩
end Go.Proofs.Ythdihhfbkfenmaa
