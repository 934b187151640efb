/- The walk of TabsStops: for every row and every two numbers the law returns true. Conditions: the slice reads as the row; numbers are int64. -/
import Derived.Test.YtpaaicbgehpdiaaTaRise
namespace Go.Proofs.Ytpaaicbgehpdiaa.Ta
open Go.ChangeShapes Go.WideShapes Go.ChangeAt Go.RowKit
open Ce
open Fo (fitV fitE)

set_option maxRecDepth 100000 in
set_option maxHeartbeats 4000000 in
theorem lawStops_any (l : List Cl) (v : Value) (x y : Int) (w : World) (hR : RwCl w v l) (hx : W64 x) (hy : W64 y) (ha : ∀ c ∈ l, W64 c.adv) :
    Calls Try.prog 4 #[v, .int .i64 x, .int .i64 y] w fun e w' => e = .returned (.bool true) ∧ Below w.heap.size w w' := by
  have HA := Lib.hid ha
  obtain ⟨A, cap, rfl⟩ := hR.form
  obtain ⟨n, hn⟩ : ∃ n, l.length = n := ⟨_, rfl⟩
  have HN := Lib.hid hn
  rw [hn] at hR ⊢
  have HR := Lib.hid hR
  obtain ⟨hx1, hx2⟩ := hx
  obtain ⟨hy1, hy2⟩ := hy
  clear ha hn hR
  go_enter Try.func4, Try.ntmps4
  by_cases hbig : 200 < n
  · have hz : (200 : Int) < n := by omega
    go_wp2_with fail
    refine (head_any _).mono ?_
    rintro e w3 ⟨rfl, b3⟩
    go_wp2_with fail
    go_ret
    exact ⟨rfl, b3⟩
  have hz : (n : Int) ≤ 200 := by omega
  have hz2 : ¬ (200 : Int) < n := by omega
  have H200 : Hid (n ≤ 200) := Lib.hid (by omega)
  clear hbig
  by_cases hg : 1099511627776 < x
  · go_wp2_with fail
    refine (head_any _).mono ?_
    rintro e w3 ⟨rfl, b3⟩
    go_wp2_with fail
    go_ret
    exact ⟨rfl, b3⟩
  have hg1518 : ¬ 1099511627776 < x := hg
  clear hg
  by_cases hg : x < -1099511627776
  · go_wp2_with fail
    refine (head_any _).mono ?_
    rintro e w3 ⟨rfl, b3⟩
    go_wp2_with fail
    go_ret
    exact ⟨rfl, b3⟩
  have hg1737 : ¬ x < -1099511627776 := hg
  clear hg
  by_cases hg : 1099511627776 < y
  · go_wp2_with fail
    refine (head_any _).mono ?_
    rintro e w3 ⟨rfl, b3⟩
    go_wp2_with fail
    go_ret
    exact ⟨rfl, b3⟩
  have hg1956 : ¬ 1099511627776 < y := hg
  clear hg
  by_cases hg : y < -1099511627776
  · go_wp2_with fail
    refine (head_any _).mono ?_
    rintro e w3 ⟨rfl, b3⟩
    go_wp2_with fail
    go_ret
    exact ⟨rfl, b3⟩
  have hg2175 : ¬ y < -1099511627776 := hg
  clear hg
  obtain ⟨ys, E, hyE⟩ : ∃ ys E, pens l [] x = (ys, E) := ⟨_, _, rfl⟩
  have hlen : l.length ≤ 1048576 := by have := HN.out; have := H200.out; omega
  have HLEN := Lib.hid hlen
  have C1 := Lib.hid (pens_as hyE _ w HR.out hlen ⟨hx1, hx2⟩ HA.out)
  by_cases hE : E = 0
  rotate_left
  · have HE := Lib.hid hE
    rw [if_neg hE] at C1
    have hEz : (E != 0) = true := by simpa using HE.out
    clear hyE hlen hE
    go_wp2_with fail
    refine C1.out.mono ?_
    rintro e w1 ⟨u, rfl, S1, b1⟩
    obtain ⟨A1, c1, rfl⟩ := S1.form
    clear S1
    go_wp2_with fail
    refine (head_any _).mono ?_
    rintro e w2 ⟨rfl, b2⟩
    go_wp2_with fail
    go_ret
    exact ⟨rfl, below_seq b1 b2⟩
  subst hE
  rw [if_pos rfl] at C1
  have hyl := (pens_len l [] x).2 (by rw [hyE])
  rw [hyE, HN.out] at hyl
  simp only at hyl
  have HYL := Lib.hid hyl
  have HYE := Lib.hid (pens_is hyE)
  clear hyE hlen hyl
  go_wp2_with fail
  refine C1.out.mono ?_
  rintro e w1 ⟨u1, rfl, S1, b1⟩
  have hf1 := S1.form
  rw [HYL.out] at hf1
  obtain ⟨A1, c1, rfl⟩ := hf1
  have HS1 := Lib.hid S1
  have HB1 := Lib.hid b1
  clear S1 b1 C1
  go_wp2_with fail
  go_loopg [9, 10] n (fun kx s9 s10 wr => Below w1.heap.size w1 wr ∧ ∃ (k : Nat) (sm : Bool), s9 = .bool sm ∧ s10 = .int .i64 k ∧ k ≤ n ∧ kx = n - k ∧ Hid (∀ i c, i < k → l[i]? = some c → -1099511627776 ≤ c.adv ∧ c.adv ≤ 1099511627776) ∧ Hid (sm = false → ∀ i c, i < k → l[i]? = some c → c.k ≠ 4))
  case atStart => exact ⟨Below.refl _ _, 0, false, rfl, rfl, by omega, rfl, Lib.hid (fun i c hi => by omega), Lib.hid (fun _ i c hi => by omega)⟩
  case round =>
    obtain ⟨bel, k, sm, rfl, rfl, hk, rfl, HK, HT⟩ := hrel
    by_cases hlt : k < n
    · have hlz : (k : Int) < n := by omega
      obtain ⟨k1, hk1⟩ : ∃ k1, k + 1 = k1 := ⟨_, rfl⟩
      have hk1z : (k : Int) + 1 = (k1 : Int) := by omega
      have hlz1 : (k1 : Int) < (n : Int) + 1 := by omega
      have HK1 := Lib.hid hk1
      have hlz2 : (k : Int) < (n : Int) + 1 := by omega
      have HLT := Lib.hid hlt
      obtain ⟨c, hc⟩ : ∃ c, l[k]? = some c := ⟨_, List.getElem?_eq_getElem (by rw [HN.out]; exact hlt)⟩
      obtain ⟨a, b, hya, hyb, hbd, hst⟩ := f0_at l x ys HYE.out.2.1 HYE.out.2.2 k c hc
      obtain ⟨ad, cap2, o, hv, hab, hadr, hL⟩ := (HR.out.below (below_seq HB1.out bel)).get (Below.refl _ _) hc
      rw [HN.out] at hv
      injection hv with hv1 hv2 hv3
      subst hv1 hv3
      obtain ⟨a1, cap1, hv, hca⟩ := (HS1.out.below bel).get hya
      rw [hk1] at hyb
      obtain ⟨a1', cap1', hv', hcb⟩ := (HS1.out.below bel).get hyb
      rw [HYL.out] at hv hv'
      injection hv with e1 e2 e3
      injection hv' with e1' e2' e3'
      subst e1 e3
      injection e1' with e1'
      subst e1' e3'
      have hdw := HA.out c (List.mem_of_getElem? hc)
      obtain ⟨ck, cn, cch, d, csf, cem⟩ := c
      obtain ⟨hd64a, hd64b⟩ : -9223372036854775808 ≤ d ∧ d ≤ 9223372036854775807 := hdw
      have c0 : wr.cell? ⟨ad.block, o, none⟩ = some (.int .u8 ck) := by have := hL 0 _ rfl; rwa [Addr.add_lit] at this
      have c3 : wr.cell? ⟨ad.block, o + 3, none⟩ = some (.int .i64 d) := by have := hL 3 _ rfl; rwa [Addr.add_lit] at this
      have HC := Lib.hid hc
      have HST := Lib.hid hst
      obtain ⟨hba1, hba2⟩ := hbd
      have hb4 := stepV_fit ⟨ck, cn, cch, d, csf, cem⟩ a
      rw [hst] at hb4
      obtain ⟨hbb1, hbb2⟩ := hb4
      simp only at hbb1 hbb2
      have HKN : Hid (∀ (P : Cl → Prop), (∀ i c, i < k → l[i]? = some c → P c) → P ⟨ck, cn, cch, d, csf, cem⟩ → ∀ i c, i < k + 1 → l[i]? = some c → P c) := Lib.hid fun P h1 h2 i c' hi hc' => by
        rcases Nat.lt_or_ge i k with h | h
        · exact h1 i c' h hc'
        · obtain rfl : i = k := by omega
          have := hc'.symm.trans HC.out
          injection this with this
          subst this
          exact h2
      obtain ⟨s, hs⟩ : ∃ s, b - a = s := ⟨_, rfl⟩
      have HS : Hid ((ck ≠ 4 → s = d) ∧ (ck = 4 → 0 ≤ d ∧ (d = 0 → s = 0) ∧ (0 < d → 1 ≤ s ∧ s ≤ d ∧ b.tmod d = 0))) := Lib.hid ⟨fun h => by
          have := step_char (c := ⟨ck, cn, cch, d, csf, cem⟩) h HST.out
          simp only at this
          omega, fun h => by
          obtain ⟨h1, h2, h3⟩ := step_tab (c := ⟨ck, cn, cch, d, csf, cem⟩) h HST.out
          simp only at h1 h2 h3
          refine ⟨h1, fun h => by have := h2 h; omega, fun h => ?_⟩
          have e := h3 h
          obtain ⟨t1, t2, t3⟩ := tab_facts (a := a) h
          rw [← e] at t1 t2 t3
          rw [hs] at t1 t2
          exact ⟨t1, t2, t3⟩⟩
      have hs64 : -9223372036854775808 ≤ s ∧ s ≤ 9223372036854775807 := by
        by_cases h : ck = 4
        · obtain ⟨h1, h2, h3⟩ := HS.out.2 h
          by_cases h0 : d = 0
          · have := h2 h0; omega
          · have := h3 (by omega); omega
        · have := HS.out.1 h; omega
      obtain ⟨hs1, hs2⟩ := hs64
      clear hv2 hc hL e2 e2' hya hyb hst hlt hk1
      go_wp2_with fail
      go_quiet (fail)
      by_cases hd1 : 1099511627776 < d
      · go_wp2_with fail
        refine (head_any _).mono ?_
        rintro e w3 ⟨rfl, b3⟩
        go_wp2_with fail
        go_ret
        exact ⟨rfl, below_seq HB1.out (below_seq (below_drewN bel _) b3)⟩
      by_cases hd2 : d < -1099511627776
      · go_wp2_with fail
        refine (head_any _).mono ?_
        rintro e w3 ⟨rfl, b3⟩
        go_wp2_with fail
        go_ret
        exact ⟨rfl, below_seq HB1.out (below_seq (below_drewN bel _) b3)⟩
      have HD : Hid (-1099511627776 ≤ d ∧ d ≤ 1099511627776) := Lib.hid (by omega)
      by_cases hk4 : ck = 4
      · obtain ⟨h1, h2, h3⟩ := HS.out.2 hk4
        by_cases h0 : d = 0
        · have hs0 : s = 0 := h2 h0
          subst hs0 h0 hk4
          clear h2 h3 hs
          go_wp2_with fail
          go_roundg (n - k1)
          case measure => have := HLT.out; have := HK1.out; omega
          case rel => exact ⟨below_drewN bel _, k1, true, rfl, by go_num, by have := HLT.out; have := HK1.out; omega, rfl, Lib.hid (by rw [← HK1.out]; exact HKN.out (fun c => -1099511627776 ≤ c.adv ∧ c.adv ≤ 1099511627776) HK.out HD.out), Lib.hid (fun h => by cases h)⟩
        · obtain ⟨t1, t2, t3⟩ := h3 (by omega)
          have h4 : 0 < d := by omega
          have h5 : ¬ s < 1 := by omega
          have h6 : ¬ d < s := by omega
          subst hk4
          clear h2 h3 h1 hs
          go_wp2_with fail
          go_roundg (n - k1)
          case measure => have := HLT.out; have := HK1.out; omega
          case rel => exact ⟨below_drewN bel _, k1, true, rfl, by go_num, by have := HLT.out; have := HK1.out; omega, rfl, Lib.hid (by rw [← HK1.out]; exact HKN.out (fun c => -1099511627776 ≤ c.adv ∧ c.adv ≤ 1099511627776) HK.out HD.out), Lib.hid (fun h => by cases h)⟩
      · have hsd : s = d := HS.out.1 hk4
        subst hsd
        have HK4 := Lib.hid hk4
        clear hs
        go_wp2_with fail
        go_roundg (n - k1)
        case measure => have := HLT.out; have := HK1.out; omega
        case rel => exact ⟨below_drewN bel _, k1, sm, rfl, by go_num, by have := HLT.out; have := HK1.out; omega, rfl, Lib.hid (by rw [← HK1.out]; exact HKN.out (fun c => -1099511627776 ≤ c.adv ∧ c.adv ≤ 1099511627776) HK.out HD.out), Lib.hid (fun h => by rw [← HK1.out]; exact HKN.out (fun c => c.k ≠ 4) (HT.out h) HK4.out)⟩
    · obtain rfl : k = n := by omega
      have toall : ∀ (P : Cl → Prop), (∀ i c, i < k → l[i]? = some c → P c) → ∀ c ∈ l, P c := fun P h c hc => by
        obtain ⟨i, hi⟩ := List.getElem?_of_mem hc
        exact h i c (by rw [← HN.out]; exact (List.getElem?_eq_some_iff.1 hi).1) hi
      obtain ⟨zs, hzs, hzl⟩ := pens_small (x := x + y) HYE.out.1 (toall _ HK.out) (by omega) (by rw [HN.out]; exact H200.out)
      rw [HN.out] at hzl
      have C2 := Lib.hid (pens_as hzs _ wr (HR.out.below (below_seq HB1.out bel)) HLEN.out ⟨by omega, by omega⟩ HA.out)
      rw [if_pos rfl] at C2
      have HZL := Lib.hid hzl
      have HMO : Hid (sm = false → ∀ (i : Nat) a b, ys[i]? = some a → zs[i]? = some b → b = a + y) := Lib.hid fun h => f0_more l x y ys zs (toall _ (HT.out h)) HYE.out.2.2 (pens_is hzs).2.2
      have HYB : Hid (∀ (i : Nat) a, ys[i]? = some a → Bd a) := Lib.hid fun i a ha => by
        have hil := (List.getElem?_eq_some_iff.1 ha).1
        rw [HYL.out] at hil
        obtain ⟨_, _, q, h1, h2, _⟩ := pens_cut (k := i) ((pens_of HYE.out.1 HYE.out.2.1).trans HYE.out.2.2) (by rw [HN.out]; omega)
        rw [ha] at h1
        injection h1 with h1
        rw [h1]
        exact h2
      have HZB : Hid (∀ (i : Nat) a, zs[i]? = some a → Bd a) := Lib.hid fun i a ha => by
        have hil := (List.getElem?_eq_some_iff.1 ha).1
        rw [hzl] at hil
        obtain ⟨_, _, q, h1, h2, _⟩ := pens_cut (k := i) hzs (by rw [HN.out]; omega)
        rw [ha] at h1
        injection h1 with h1
        rw [h1]
        exact h2
      clear toall hzs hzl HK HT HYE
      go_wp2_with fail
      refine C2.out.mono ?_
      rintro e w2 ⟨u2, rfl, S2, b2⟩
      have hf2 := S2.form
      rw [HZL.out] at hf2
      obtain ⟨A2, c2, rfl⟩ := hf2
      have HS1 := Lib.hid ((HS1.out.below bel).below b2)
      have HB2 := Lib.hid (below_seq (below_seq HB1.out bel) b2)
      have HS2 := Lib.hid S2
      clear S2 b2 C2 HB1 bel
      go_wp2_with fail
      cases sm with
      | true =>
        go_loopg [15] 0 (fun kx s15 wr => s15 = .int .i64 0 ∧ kx = 0 ∧ wr = w2)
        case atStart => exact ⟨by go_num, rfl, rfl⟩
        case round =>
          obtain ⟨rfl, rfl, rfl⟩ := hrel
          go_wp2_with fail
          refine (head_any _).mono ?_
          rintro e w3 ⟨rfl, b3⟩
          go_wp2_with fail
          go_ret
          exact ⟨rfl, below_seq HB2.out b3⟩
      | false =>
        go_loopg [15] (k + 1) (fun kx s15 wr => ∃ j : Nat, s15 = .int .i64 j ∧ j ≤ k + 1 ∧ kx = k + 1 - j ∧ Below w2.heap.size w2 wr)
        case atStart => exact ⟨0, rfl, by omega, rfl, Below.refl _ _⟩
        case round =>
          obtain ⟨j, rfl, hj, rfl, bel⟩ := hrel
          have hjz : (j : Int) ≤ (k : Int) + 1 := by omega
          by_cases hlt2 : j < k + 1
          · have hlz : (j : Int) < (k : Int) + 1 := by omega
            obtain ⟨a, ha⟩ : ∃ a, ys[j]? = some a := ⟨_, List.getElem?_eq_getElem (by rw [HYL.out]; exact hlt2)⟩
            obtain ⟨b, hb⟩ : ∃ a, zs[j]? = some a := ⟨_, List.getElem?_eq_getElem (by rw [HZL.out]; exact hlt2)⟩
            have hab := HMO.out rfl j a b ha hb
            have hba := HYB.out j a ha
            have hbb := HZB.out j b hb
            obtain ⟨a1, cap1, hv, hc1⟩ := (HS1.out.below bel).get ha
            rw [HYL.out] at hv
            injection hv with hv1 hv2 hv3
            subst hv1 hv3
            obtain ⟨a2, cap2, hv, hc2⟩ := (HS2.out.below bel).get hb
            rw [HZL.out] at hv
            injection hv with hv1 hv4 hv3
            subst hv1 hv3
            have hd : b - a = y := by omega
            have HLT := Lib.hid hlt2
            obtain ⟨q1, q2⟩ := hba
            obtain ⟨q3, q4⟩ := hbb
            clear hv2 hv4 ha hb hab hlt2
            go_wp2_with fail
            go_quiet (fail)
            go_wp2_with fail
            go_roundg (k + 1 - (j + 1))
            case measure => have := HLT.out; omega
            case rel => exact ⟨j + 1, by go_num, by have := HLT.out; omega, rfl, below_drewN bel _⟩
          · obtain rfl : j = k + 1 := by omega
            go_wp2_with fail
            refine (head_any _).mono ?_
            rintro e w3 ⟨rfl, b3⟩
            go_wp2_with fail
            go_ret
            exact ⟨rfl, below_seq HB2.out (below_seq bel b3)⟩
end Go.Proofs.Ytpaaicbgehpdiaa.Ta
