/- The walk of StyleApart. Condition: bits are 16-bit numbers. -/
import Derived.Test.YthdihhfbkfenmaaYLawM
import Derived.Test.YthdihhfbkfenmaaYHead
namespace Go.Proofs.Ythdihhfbkfenmaa
open Go.ChangeShapes Go.WideShapes Go.ChangeAt Go.RowKit

set_option maxRecDepth 100000 in
set_option maxHeartbeats 8000000 in
theorem apart_any (s : Sty) (a b : Dcl) (w : World) (ha : a.n < 65536) (hb : b.n < 65536) :
    Calls Try.prog 7 #[.agg s.cells, .agg a.cells, .agg b.cells] w fun e w' => e = .returned (.bool true) ∧ Below w.heap.size w w' := by
  have CH := Lib.hid head_any
  have D1 := Lib.hid (fun w => ymerge_any a b w ha hb)
  have D2 := Lib.hid (fun w => ymerge_any b a w hb ha)
  have D3 := Lib.hid (fun w => yresolve_any s a w ha)
  have D4 := Lib.hid (fun w => yresolve_any (resV s a) b w hb)
  have D5 := Lib.hid (fun w => yresolve_any s b w hb)
  have D6 := Lib.hid (fun w => yresolve_any (resV s b) a w ha)
  have hand := u16_and_nat a.n b.n ha hb
  by_cases hab : a.n &&& b.n = 0
  · obtain ⟨e1, e2⟩ := mrgV_comm a b hab
    have hcm := over_comm s a b hab
    rw [e1, e2] at D2
    rw [hab] at hand
    have hand2 : bits .and .u16 (a.n : Int) (b.n : Int) = 0 := hand
    clear hand e1 e2 hab ha hb
    rcases resE_cases s a with ⟨hs, h1, h2, h3⟩ | ⟨h2, h3⟩
    · rcases resE_cases s b with ⟨_, k1, k2, k3⟩ | ⟨k2, k3⟩
      · have m1 : mrgE a b = 0 := by unfold mrgE; rw [h1, k1]; rfl
        have m2 : mrgV a b = mrg a b := by unfold mrgV; rw [h1, k1]; rfl
        have va := ((vldD_iff a).1 h1).2.2
        have vb := ((vldD_iff b).1 k1).2.2
        have p1 : resV (over s a) b = over (over s a) b := by unfold resV; rw [vld_over s a hs va, k1]; rfl
        have p2 : resE (over s a) b = 0 := by unfold resE; rw [vld_over s a hs va, k1]; rfl
        have p3 : resV (over s b) a = over (over s a) b := by unfold resV; rw [vld_over s b hs vb, h1, hcm]; rfl
        have p4 : resE (over s b) a = 0 := by unfold resE; rw [vld_over s b hs vb, h1]; rfl
        rw [m1, m2] at D1 D2
        rw [h2, h3] at D3
        rw [h3, p1, p2] at D4
        rw [k2, k3] at D5
        rw [k3, p3, p4] at D6
        have HM := Lib.hid (fun w => eqD (mrg a b) (mrg a b) w true (decide_eq_true rfl))
        have HQ := Lib.hid (fun w => eqS (over (over s a) b) (over (over s a) b) w true (decide_eq_true rfl))
        clear hs h1 h2 h3 k1 k2 k3 m1 m2 va vb p1 p2 p3 p4 hcm
        obtain ⟨q, hq⟩ : ∃ q, over (over s a) b = q := ⟨_, rfl⟩
        obtain ⟨q2, hq2⟩ : ∃ q2, q = q2 := ⟨_, rfl⟩
        rw [hq] at D4 D6 HQ
        subst hq2
        obtain ⟨M, hM⟩ : ∃ q, mrg a b = q := ⟨_, rfl⟩
        rw [hM] at D1 D2 HM
        clear hq hM
        obtain ⟨p, hp⟩ : ∃ q, over s a = q := ⟨_, rfl⟩
        rw [hp] at D3 D4
        obtain ⟨r, hr⟩ : ∃ q, over s b = q := ⟨_, rfl⟩
        rw [hr] at D5 D6
        clear hp hr
        go_enter Try.func7, Try.ntmps7
        go_wp2_with (first
            | (refine bxSV rfl (.tmp 0) rfl s rfl ?_; intro w1 b1 B1; have hK1 := (Kn.nil w).cons b1 B1)
            | (refine bxDV rfl (.tmp 1) rfl a rfl ?_; intro w2 b2 B2; have hK2 := hK1.cons b2 B2)
            | (refine bxDV rfl (.tmp 2) rfl b rfl ?_; intro w3 b3 B3; have hK3 := hK2.cons b3 B3; have cna : w3.cell? ⟨w1.heap.size, 0, none⟩ = some (.int .u16 a.n) := (hK3.at_ 1 rfl).cell 0; have cnb : w3.cell? ⟨w2.heap.size, 0, none⟩ = some (.int .u16 b.n) := (hK3.at_ 0 rfl).cell 0)
            | (refine ldD rfl (.tmp 4) rfl _ rfl a (hK3.at_ 1 rfl).lies ?_)
            | (refine ldD rfl (.tmp 5) rfl _ rfl b (hK3.at_ 0 rfl).lies ?_))
        refine (D1.out _).mono ?_
        rintro e w4 ⟨rfl, b4⟩
        go_wp2_with (first
            | (refine nwD rfl rfl 7 rfl rfl (.tmp 30) rfl rfl M (fun _ => rfl) (fun _ => rfl) ?_; intro w5 b5 B5; have hK5 := (hK3.below b4).cons b5 B5)
            | (refine ldD rfl (.tmp 5) rfl _ rfl b (hK5.at_ 1 rfl).lies ?_)
            | (refine ldD rfl (.tmp 4) rfl _ rfl a (hK5.at_ 2 rfl).lies ?_))
        refine (D2.out _).mono ?_
        rintro e w6 ⟨rfl, b6⟩
        go_wp2_with (first
            | (refine nwD rfl rfl 9 rfl rfl (.tmp 36) rfl rfl M (fun _ => rfl) (fun _ => rfl) ?_; intro w7 b7 B7; have hK7 := (hK5.below b6).cons b7 B7)
            | (refine ldS rfl (.tmp 3) rfl _ rfl s (hK7.at_ 4 rfl).lies ?_)
            | (refine ldD rfl (.tmp 4) rfl _ rfl a (hK7.at_ 3 rfl).lies ?_))
        refine (D3.out _).mono ?_
        rintro e w8 ⟨rfl, b8⟩
        go_wp2_with (first
            | (refine nwS rfl rfl 11 rfl rfl (.tmp 42) rfl rfl p (fun _ => rfl) (fun _ => rfl) ?_; intro w9 b9 B9; have hK9 := (hK7.below b8).cons b9 B9)
            | (refine ldS rfl (.tmp 11) rfl _ rfl p (hK9.at_ 0 rfl).lies ?_)
            | (refine ldD rfl (.tmp 5) rfl _ rfl b (hK9.at_ 3 rfl).lies ?_))
        refine (D4.out _).mono ?_
        rintro e w10 ⟨rfl, b10⟩
        go_wp2_with (first
            | (refine nwS rfl rfl 13 rfl rfl (.tmp 48) rfl rfl q (fun _ => rfl) (fun _ => rfl) ?_; intro w11 b11 B11; have hK11 := (hK9.below b10).cons b11 B11)
            | (refine ldS rfl (.tmp 3) rfl _ rfl s (hK11.at_ 6 rfl).lies ?_)
            | (refine ldD rfl (.tmp 5) rfl _ rfl b (hK11.at_ 4 rfl).lies ?_))
        refine (D5.out _).mono ?_
        rintro e w12 ⟨rfl, b12⟩
        go_wp2_with (first
            | (refine nwS rfl rfl 15 rfl rfl (.tmp 54) rfl rfl r (fun _ => rfl) (fun _ => rfl) ?_; intro w13 b13 B13; have hK13 := (hK11.below b12).cons b13 B13)
            | (refine ldS rfl (.tmp 15) rfl _ rfl r (hK13.at_ 0 rfl).lies ?_)
            | (refine ldD rfl (.tmp 4) rfl _ rfl a (hK13.at_ 6 rfl).lies ?_))
        refine (D6.out _).mono ?_
        rintro e w14 ⟨rfl, b14⟩
        have hqm := HM.out
        have hqq := HQ.out
        go_wp2_with (first
            | (refine nwS rfl rfl 17 rfl rfl (.tmp 60) rfl rfl q (fun _ => rfl) (fun _ => rfl) ?_; intro w15 b15 B15; have hK15 := (hK13.below b14).cons b15 B15)
            | (refine ldD rfl (.tmp 7) rfl _ rfl M (hK15.at_ 5 rfl).lies ?_)
            | (refine ldD rfl (.tmp 9) rfl _ rfl M (hK15.at_ 4 rfl).lies ?_)
            | (refine ldSIf (by kernel_rfl) (.tmp 13) rfl _ rfl q (hK15.at_ 2 rfl).lies ?_)
            | (refine ldSIf (by kernel_rfl) (.tmp 17) rfl _ rfl q (hK15.at_ 0 rfl).lies ?_))
        refine (CH.out _).mono ?_
        rintro e w16 ⟨rfl, b16⟩
        go_wp2_with fail
        go_ret
        exact ⟨rfl, (below_seq (below_seq (below_seq (below_seq (below_seq (below_seq (below_seq (below_seq (below_seq (below_seq (below_seq (below_seq (below_seq (below_seq (below_seq b1 b2) b3) b4) b5) b6) b7) b8) b9) b10) b11) b12) b13) b14) b15) b16)⟩
      · rw [h2, h3] at D3
        rw [h3] at D4
        rw [k2, k3] at D5
        rw [k3] at D6
        clear hs h1 h2 h3 k2 k3 hcm
        obtain ⟨M, hM⟩ : ∃ q, mrgV a b = q := ⟨_, rfl⟩
        obtain ⟨E, hE⟩ : ∃ q, mrgE a b = q := ⟨_, rfl⟩
        rw [hM, hE] at D1 D2
        have HM := Lib.hid (fun w => eqD M M w true (decide_eq_true rfl))
        have HQ : Hid True := trivial
        obtain ⟨p, hp⟩ : ∃ q, over s a = q := ⟨_, rfl⟩
        obtain ⟨r, hr⟩ : ∃ q, Sty.zero = q := ⟨_, rfl⟩
        obtain ⟨q, hq⟩ : ∃ q, resV p b = q := ⟨_, rfl⟩
        obtain ⟨qe, hqe⟩ : ∃ q, resE p b = q := ⟨_, rfl⟩
        obtain ⟨q2, hq2⟩ : ∃ q, resV r a = q := ⟨_, rfl⟩
        obtain ⟨qe2, hqe2⟩ : ∃ q, resE r a = q := ⟨_, rfl⟩
        rw [hp] at D3 D4
        rw [hr] at D5 D6
        rw [hq, hqe] at D4
        rw [hq2, hqe2] at D6
        clear hM hE hp hr hq hqe hq2 hqe2
        go_enter Try.func7, Try.ntmps7
        go_wp2_with (first
            | (refine bxSV rfl (.tmp 0) rfl s rfl ?_; intro w1 b1 B1; have hK1 := (Kn.nil w).cons b1 B1)
            | (refine bxDV rfl (.tmp 1) rfl a rfl ?_; intro w2 b2 B2; have hK2 := hK1.cons b2 B2)
            | (refine bxDV rfl (.tmp 2) rfl b rfl ?_; intro w3 b3 B3; have hK3 := hK2.cons b3 B3; have cna : w3.cell? ⟨w1.heap.size, 0, none⟩ = some (.int .u16 a.n) := (hK3.at_ 1 rfl).cell 0; have cnb : w3.cell? ⟨w2.heap.size, 0, none⟩ = some (.int .u16 b.n) := (hK3.at_ 0 rfl).cell 0)
            | (refine ldD rfl (.tmp 4) rfl _ rfl a (hK3.at_ 1 rfl).lies ?_)
            | (refine ldD rfl (.tmp 5) rfl _ rfl b (hK3.at_ 0 rfl).lies ?_))
        refine (D1.out _).mono ?_
        rintro e w4 ⟨rfl, b4⟩
        go_wp2_with (first
            | (refine nwD rfl rfl 7 rfl rfl (.tmp 30) rfl rfl M (fun _ => rfl) (fun _ => rfl) ?_; intro w5 b5 B5; have hK5 := (hK3.below b4).cons b5 B5)
            | (refine ldD rfl (.tmp 5) rfl _ rfl b (hK5.at_ 1 rfl).lies ?_)
            | (refine ldD rfl (.tmp 4) rfl _ rfl a (hK5.at_ 2 rfl).lies ?_))
        refine (D2.out _).mono ?_
        rintro e w6 ⟨rfl, b6⟩
        go_wp2_with (first
            | (refine nwD rfl rfl 9 rfl rfl (.tmp 36) rfl rfl M (fun _ => rfl) (fun _ => rfl) ?_; intro w7 b7 B7; have hK7 := (hK5.below b6).cons b7 B7)
            | (refine ldS rfl (.tmp 3) rfl _ rfl s (hK7.at_ 4 rfl).lies ?_)
            | (refine ldD rfl (.tmp 4) rfl _ rfl a (hK7.at_ 3 rfl).lies ?_))
        refine (D3.out _).mono ?_
        rintro e w8 ⟨rfl, b8⟩
        go_wp2_with (first
            | (refine nwS rfl rfl 11 rfl rfl (.tmp 42) rfl rfl p (fun _ => rfl) (fun _ => rfl) ?_; intro w9 b9 B9; have hK9 := (hK7.below b8).cons b9 B9)
            | (refine ldS rfl (.tmp 11) rfl _ rfl p (hK9.at_ 0 rfl).lies ?_)
            | (refine ldD rfl (.tmp 5) rfl _ rfl b (hK9.at_ 3 rfl).lies ?_))
        refine (D4.out _).mono ?_
        rintro e w10 ⟨rfl, b10⟩
        go_wp2_with (first
            | (refine nwS rfl rfl 13 rfl rfl (.tmp 48) rfl rfl q (fun _ => rfl) (fun _ => rfl) ?_; intro w11 b11 B11; have hK11 := (hK9.below b10).cons b11 B11)
            | (refine ldS rfl (.tmp 3) rfl _ rfl s (hK11.at_ 6 rfl).lies ?_)
            | (refine ldD rfl (.tmp 5) rfl _ rfl b (hK11.at_ 4 rfl).lies ?_))
        refine (D5.out _).mono ?_
        rintro e w12 ⟨rfl, b12⟩
        go_wp2_with (first
            | (refine nwS rfl rfl 15 rfl rfl (.tmp 54) rfl rfl r (fun _ => rfl) (fun _ => rfl) ?_; intro w13 b13 B13; have hK13 := (hK11.below b12).cons b13 B13)
            | (refine ldS rfl (.tmp 15) rfl _ rfl r (hK13.at_ 0 rfl).lies ?_)
            | (refine ldD rfl (.tmp 4) rfl _ rfl a (hK13.at_ 6 rfl).lies ?_))
        refine (D6.out _).mono ?_
        rintro e w14 ⟨rfl, b14⟩
        have hqm := HM.out
        have hqq := HQ.out
        go_wp2_with (first
            | (refine nwS rfl rfl 17 rfl rfl (.tmp 60) rfl rfl q2 (fun _ => rfl) (fun _ => rfl) ?_; intro w15 b15 B15; have hK15 := (hK13.below b14).cons b15 B15)
            | (refine ldD rfl (.tmp 7) rfl _ rfl M (hK15.at_ 5 rfl).lies ?_)
            | (refine ldD rfl (.tmp 9) rfl _ rfl M (hK15.at_ 4 rfl).lies ?_))
        refine (CH.out _).mono ?_
        rintro e w16 ⟨rfl, b16⟩
        go_wp2_with fail
        go_ret
        exact ⟨rfl, (below_seq (below_seq (below_seq (below_seq (below_seq (below_seq (below_seq (below_seq (below_seq (below_seq (below_seq (below_seq (below_seq (below_seq (below_seq b1 b2) b3) b4) b5) b6) b7) b8) b9) b10) b11) b12) b13) b14) b15) b16)⟩
    · rw [h2, h3] at D3
      rw [h3] at D4
      clear h2 h3 hcm
      obtain ⟨M, hM⟩ : ∃ q, mrgV a b = q := ⟨_, rfl⟩
      obtain ⟨E, hE⟩ : ∃ q, mrgE a b = q := ⟨_, rfl⟩
      rw [hM, hE] at D1 D2
      have HM := Lib.hid (fun w => eqD M M w true (decide_eq_true rfl))
      have HQ : Hid True := trivial
      obtain ⟨p, hp⟩ : ∃ q, Sty.zero = q := ⟨_, rfl⟩
      obtain ⟨r, hr⟩ : ∃ q, resV s b = q := ⟨_, rfl⟩
      obtain ⟨q, hq⟩ : ∃ q, resV p b = q := ⟨_, rfl⟩
      obtain ⟨qe, hqe⟩ : ∃ q, resE p b = q := ⟨_, rfl⟩
      obtain ⟨q2, hq2⟩ : ∃ q, resV r a = q := ⟨_, rfl⟩
      obtain ⟨qe2, hqe2⟩ : ∃ q, resE r a = q := ⟨_, rfl⟩
      rw [hp] at D3 D4
      rw [hr] at D5 D6
      obtain ⟨re, hre⟩ : ∃ q, resE s b = q := ⟨_, rfl⟩
      rw [hre] at D5
      rw [hq, hqe] at D4
      rw [hq2, hqe2] at D6
      clear hre hM hE hp hr hq hqe hq2 hqe2
      go_enter Try.func7, Try.ntmps7
      go_wp2_with (first
          | (refine bxSV rfl (.tmp 0) rfl s rfl ?_; intro w1 b1 B1; have hK1 := (Kn.nil w).cons b1 B1)
          | (refine bxDV rfl (.tmp 1) rfl a rfl ?_; intro w2 b2 B2; have hK2 := hK1.cons b2 B2)
          | (refine bxDV rfl (.tmp 2) rfl b rfl ?_; intro w3 b3 B3; have hK3 := hK2.cons b3 B3; have cna : w3.cell? ⟨w1.heap.size, 0, none⟩ = some (.int .u16 a.n) := (hK3.at_ 1 rfl).cell 0; have cnb : w3.cell? ⟨w2.heap.size, 0, none⟩ = some (.int .u16 b.n) := (hK3.at_ 0 rfl).cell 0)
          | (refine ldD rfl (.tmp 4) rfl _ rfl a (hK3.at_ 1 rfl).lies ?_)
          | (refine ldD rfl (.tmp 5) rfl _ rfl b (hK3.at_ 0 rfl).lies ?_))
      refine (D1.out _).mono ?_
      rintro e w4 ⟨rfl, b4⟩
      go_wp2_with (first
          | (refine nwD rfl rfl 7 rfl rfl (.tmp 30) rfl rfl M (fun _ => rfl) (fun _ => rfl) ?_; intro w5 b5 B5; have hK5 := (hK3.below b4).cons b5 B5)
          | (refine ldD rfl (.tmp 5) rfl _ rfl b (hK5.at_ 1 rfl).lies ?_)
          | (refine ldD rfl (.tmp 4) rfl _ rfl a (hK5.at_ 2 rfl).lies ?_))
      refine (D2.out _).mono ?_
      rintro e w6 ⟨rfl, b6⟩
      go_wp2_with (first
          | (refine nwD rfl rfl 9 rfl rfl (.tmp 36) rfl rfl M (fun _ => rfl) (fun _ => rfl) ?_; intro w7 b7 B7; have hK7 := (hK5.below b6).cons b7 B7)
          | (refine ldS rfl (.tmp 3) rfl _ rfl s (hK7.at_ 4 rfl).lies ?_)
          | (refine ldD rfl (.tmp 4) rfl _ rfl a (hK7.at_ 3 rfl).lies ?_))
      refine (D3.out _).mono ?_
      rintro e w8 ⟨rfl, b8⟩
      go_wp2_with (first
          | (refine nwS rfl rfl 11 rfl rfl (.tmp 42) rfl rfl p (fun _ => rfl) (fun _ => rfl) ?_; intro w9 b9 B9; have hK9 := (hK7.below b8).cons b9 B9)
          | (refine ldS rfl (.tmp 11) rfl _ rfl p (hK9.at_ 0 rfl).lies ?_)
          | (refine ldD rfl (.tmp 5) rfl _ rfl b (hK9.at_ 3 rfl).lies ?_))
      refine (D4.out _).mono ?_
      rintro e w10 ⟨rfl, b10⟩
      go_wp2_with (first
          | (refine nwS rfl rfl 13 rfl rfl (.tmp 48) rfl rfl q (fun _ => rfl) (fun _ => rfl) ?_; intro w11 b11 B11; have hK11 := (hK9.below b10).cons b11 B11)
          | (refine ldS rfl (.tmp 3) rfl _ rfl s (hK11.at_ 6 rfl).lies ?_)
          | (refine ldD rfl (.tmp 5) rfl _ rfl b (hK11.at_ 4 rfl).lies ?_))
      refine (D5.out _).mono ?_
      rintro e w12 ⟨rfl, b12⟩
      go_wp2_with (first
          | (refine nwS rfl rfl 15 rfl rfl (.tmp 54) rfl rfl r (fun _ => rfl) (fun _ => rfl) ?_; intro w13 b13 B13; have hK13 := (hK11.below b12).cons b13 B13)
          | (refine ldS rfl (.tmp 15) rfl _ rfl r (hK13.at_ 0 rfl).lies ?_)
          | (refine ldD rfl (.tmp 4) rfl _ rfl a (hK13.at_ 6 rfl).lies ?_))
      refine (D6.out _).mono ?_
      rintro e w14 ⟨rfl, b14⟩
      have hqm := HM.out
      have hqq := HQ.out
      go_wp2_with (first
          | (refine nwS rfl rfl 17 rfl rfl (.tmp 60) rfl rfl q2 (fun _ => rfl) (fun _ => rfl) ?_; intro w15 b15 B15; have hK15 := (hK13.below b14).cons b15 B15)
          | (refine ldD rfl (.tmp 7) rfl _ rfl M (hK15.at_ 5 rfl).lies ?_)
          | (refine ldD rfl (.tmp 9) rfl _ rfl M (hK15.at_ 4 rfl).lies ?_))
      refine (CH.out _).mono ?_
      rintro e w16 ⟨rfl, b16⟩
      go_wp2_with fail
      go_ret
      exact ⟨rfl, (below_seq (below_seq (below_seq (below_seq (below_seq (below_seq (below_seq (below_seq (below_seq (below_seq (below_seq (below_seq (below_seq (below_seq (below_seq b1 b2) b3) b4) b5) b6) b7) b8) b9) b10) b11) b12) b13) b14) b15) b16)⟩
  · have hand2 : (bits .and .u16 (a.n : Int) (b.n : Int) != 0) = true := by
      rw [hand]
      simp
      omega
    clear hand D1 D2 D3 D4 D5 D6
    go_enter Try.func7, Try.ntmps7
    go_wp2_with (first
        | (refine bxSV rfl (.tmp 0) rfl s rfl ?_; intro w1 b1 B1; have hK1 := (Kn.nil w).cons b1 B1)
        | (refine bxDV rfl (.tmp 1) rfl a rfl ?_; intro w2 b2 B2; have hK2 := hK1.cons b2 B2)
        | (refine bxDV rfl (.tmp 2) rfl b rfl ?_; intro w3 b3 B3; have hK3 := hK2.cons b3 B3; have cna : w3.cell? ⟨w1.heap.size, 0, none⟩ = some (.int .u16 a.n) := (hK3.at_ 1 rfl).cell 0; have cnb : w3.cell? ⟨w2.heap.size, 0, none⟩ = some (.int .u16 b.n) := (hK3.at_ 0 rfl).cell 0))
    refine (CH.out _).mono ?_
    rintro e w4 ⟨rfl, b4⟩
    go_wp2_with fail
    go_ret
    exact ⟨rfl, (below_seq (below_seq (below_seq b1 b2) b3) b4)⟩
end Go.Proofs.Ythdihhfbkfenmaa
