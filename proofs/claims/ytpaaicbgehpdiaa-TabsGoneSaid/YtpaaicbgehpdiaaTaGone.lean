/- The walk of TabsGone: for every row, roles and number the law returns true. Conditions: the slices read as the row and the roles; numbers are int64. -/
import Derived.Test.YtpaaicbgehpdiaaTaRise
import Derived.Test.YtpaaicbgehpdiaaRegC
namespace Go.Proofs.Ytpaaicbgehpdiaa.Ta
open Go.ChangeShapes Go.WideShapes Go.ChangeAt Go.RowKit
open Ce
open Fo (fitV fitE)

theorem gone_in {rs : List Int} {i : Nat} {r : Int} (h : rs[i]? = some r) : gone rs i = decide (r = 1) := by unfold gone; rw [h]
theorem gone_out {rs : List Int} {i : Nat} (h : rs.length ≤ i) : gone rs i = false := by unfold gone; rw [List.getElem?_eq_none h]
theorem take_succ_at {l : List Cl} {k : Nat} {c : Cl} (h : l[k]? = some c) : l.take (k + 1) = l.take k ++ [c] := by rw [List.take_add_one, h]; rfl
theorem lft_take {g : Nat → Bool} {l : List Cl} {k : Nat} {c : Cl} (h : l[k]? = some c) : lft g (l.take (k + 1)) 0 = if g k = true then lft g (l.take k) 0 else lft g (l.take k) 0 ++ [c] := by
  have hk := (List.getElem?_eq_some_iff.1 h).1
  rw [take_succ_at h, lft_snoc, Nat.zero_add, List.length_take, Nat.min_eq_left (by omega)]
theorem lft_small (g : Nat → Bool) (l : List Cl) (k : Nat) : (lft g (l.take k) 0).length ≤ k := by
  rw [lft_len]
  refine Nat.le_trans (cnt_le _ _ _) ?_
  rw [List.length_take]
  omega

set_option maxRecDepth 100000 in
set_option maxHeartbeats 4000000 in
theorem lawGone_any (l : List Cl) (rs : List Int) (v vr : Value) (x : Int) (w : World) (hR : RwCl w v l) (hG : RowI .u8 w vr rs) (hx : W64 x) (ha : ∀ c ∈ l, W64 c.adv) :
    Calls Try.prog 5 #[v, vr, .int .i64 x] w fun e w' => e = .returned (.bool true) ∧ Below w.heap.size w w' := by
  have HA := Lib.hid ha
  have HX := Lib.hid hx
  obtain ⟨A, cap, rfl⟩ := hR.form
  obtain ⟨A', cap', rfl⟩ := hG.form
  obtain ⟨n, hn⟩ : ∃ n, l.length = n := ⟨_, rfl⟩
  obtain ⟨m, hm⟩ : ∃ m, rs.length = m := ⟨_, rfl⟩
  have HN := Lib.hid hn
  have HM := Lib.hid hm
  rw [hn] at hR ⊢
  rw [hm] at hG ⊢
  have HR := Lib.hid hR
  have HG := Lib.hid hG
  clear ha hx hn hm hR hG
  go_enter Try.func5, Try.ntmps5
  by_cases hbig : 200 < n
  · have hz : (200 : Int) < n := by omega
    go_wp2_with fail
    refine (head_any _).mono ?_
    rintro e w3 ⟨rfl, b3⟩
    go_wp2_with fail
    go_ret
    exact ⟨rfl, b3⟩
  by_cases hbig2 : 300 < m
  · have hz2 : ¬ (200 : Int) < n := by omega
    have hz : (300 : Int) < m := by omega
    go_wp2_with fail
    refine (head_any _).mono ?_
    rintro e w3 ⟨rfl, b3⟩
    go_wp2_with fail
    go_ret
    exact ⟨rfl, b3⟩
  have hz : (n : Int) ≤ 200 := by omega
  have hz2 : ¬ (200 : Int) < n := by omega
  have hz3 : (m : Int) ≤ 300 := by omega
  have hz4 : ¬ (300 : Int) < m := by omega
  have H200 : Hid (n ≤ 200) := Lib.hid (by omega)
  clear hbig hbig2
  obtain ⟨g, hg⟩ : ∃ g, gone rs = g := ⟨_, rfl⟩
  have HGO := Lib.hid hg
  clear hg
  go_wp2_with fail
  go_loopg [7, 8] n (fun kx s7 s8 wr => Below w.heap.size w wr ∧ ∃ (k : Nat) (A7 : Option Addr) (n7 c7 : Nat), s7 = .slice A7 n7 c7 ∧ s8 = .int .i64 k ∧ k ≤ n ∧ kx = n - k ∧ Hid (OwCl w.heap.size wr (.slice A7 n7 c7) (lft g (l.take k) 0)))
  case atStart => exact ⟨Below.refl _ _, 0, none, 0, 0, rfl, rfl, by omega, rfl, Lib.hid (own_nil _ _ _ _)⟩
  case round =>
    obtain ⟨bel, k, A7, n7, c7, rfl, rfl, hk, rfl, HO⟩ := hrel
    by_cases hlt : k < n
    · have hlz : (k : Int) < n := by omega
      have HLT := Lib.hid hlt
      obtain ⟨c, hc⟩ : ∃ c, l[k]? = some c := ⟨_, List.getElem?_eq_getElem (by rw [HN.out]; exact hlt)⟩
      obtain ⟨ad, cap2, o, hv, hab, hadr, hL⟩ := (HR.out.below bel).get (Below.refl _ _) hc
      rw [HN.out] at hv
      injection hv with hv1 hv2 hv3
      subst hv1 hv3
      have HC := Lib.hid hc
      have HSM := Lib.hid (lft_small g l k)
      obtain ⟨lf, hlf⟩ : ∃ lf, lft g (l.take k) 0 = lf := ⟨_, rfl⟩
      have HLF : Hid (lft g (l.take (k + 1)) 0 = if g k = true then lf else lf ++ [c]) := Lib.hid (by rw [lft_take hc, hlf])
      rw [hlf] at HO HSM
      obtain ⟨gk, hgk⟩ : ∃ b, g k = b := ⟨_, rfl⟩
      rw [hgk] at HLF
      have HGK : Hid (gone rs k = gk) := Lib.hid (by rw [HGO.out, hgk])
      clear hv2 hc hlt hlf hgk
      have KEEP : Hid (gk = false → ∀ {ops : Array Oper} {Q : Exit → Act → World → Prop} {a : Act} {rest : List Oper} {o1 o2 : Oper}, o1.guard = none → o1.op = .buildSlice 22 1 #[(0, .tmp 45)] → o1.dst = some 46 → o2.guard = none → o2.op = .call { callee := .builtin .append, args := #[.tmp 41, .tmp 46], argTypes := #[22, 22] } → a.eval (.tmp 45) = .agg (clA c) → (∀ u, (a.put (some 46) u).eval (.tmp 41) = .slice A7 n7 c7) → (∀ u, (a.put (some 46) u).eval (.tmp 46) = u) →
          (∀ u A8 n8 c8 w', OwCl w.heap.size w' (.slice A8 n8 c8) (lf ++ [c]) → Below w.heap.size wr w' → wpList Try.prog ops Q rest ((a.put (some 46) u).put o2.dst (.slice A8 n8 c8)) w') → wpList Try.prog ops Q (o1 :: o2 :: rest) a wr) := Lib.hid fun _ ops Q a rest o1 o2 h1 h2 h3 h4 h5 h6 h7 h8 h =>
        apH elhCl h1 (.tmp 45) h2 46 h3 h4 (.tmp 41) h5 (.agg (clA c)) (clA c) h6 rfl (oneCl c) (bsCl c) (.slice A7 n7 c7) h7 h8 w.heap.size lf.length (flatCl lf) HO.out (by have := HSM.out; have := H200.out; have := HLT.out; omega) bel.size (fun u v' w' o1 b1 _ _ => by
          obtain ⟨g8, c8, rfl⟩ := ownsRow_succ o1
          refine h u _ _ _ w' ?_ b1
          show w'.ownsRow _ _ _ _ (lf ++ [c]).length _
          rw [flatCl_snoc, List.length_append]
          exact o1)
      by_cases hkm : k < m
      · have hkz : (k : Int) < m := by omega
        have hkz2 : ¬ (m : Int) ≤ k := by omega
        obtain ⟨r, hr⟩ : ∃ r, rs[k]? = some r := ⟨_, List.getElem?_eq_getElem (by rw [HM.out]; exact hkm)⟩
        obtain ⟨ar, capr, hv, hcr⟩ := (HG.out.below bel).get hr
        rw [HM.out] at hv
        injection hv with hv1 hv2 hv3
        subst hv1 hv3
        have HGR : Hid (gk = decide (r = 1)) := Lib.hid (by rw [← HGK.out, gone_in hr])
        clear hv2 hr hkm
        by_cases hr1 : r = 1
        · obtain rfl : gk = true := by rw [HGR.out, hr1]; rfl
          subst hr1
          clear hL KEEP
          go_wp2_with fail
          go_roundg (n - (k + 1))
          case measure => have := HLT.out; omega
          case rel => exact ⟨bel, k + 1, A7, n7, c7, rfl, by go_num, by have := HLT.out; omega, rfl, Lib.hid (by rw [HLF.out]; simpa using HO.out)⟩
        · obtain rfl : gk = false := by rw [HGR.out]; exact decide_eq_false hr1
          go_wp2_with (first
            | (refine ldCl (o := ⟨some 45, _, _, _, _, _⟩) rfl (.tmp 44) rfl _ rfl c hL ?_)
            | (refine KEEP.out rfl (o1 := ⟨some 46, _, _, _, _, _⟩) rfl rfl rfl rfl rfl rfl (fun _ => rfl) (fun _ => rfl) ?_; intro u8 A8 n8 c8 w8 O8 b8; refine Mk.out ?_))
          constructor
          have HO8 := Lib.hid O8
          clear O8 hL KEEP
          go_wp2_with fail
          go_roundg (n - (k + 1))
          case measure => have := HLT.out; omega
          case rel => exact ⟨bel.trans b8, k + 1, A8, n8, c8, rfl, by go_num, by have := HLT.out; omega, rfl, Lib.hid (by rw [HLF.out]; simpa using HO8.out)⟩
      · have hkz : ¬ (k : Int) < m := by omega
        have hkz2 : (m : Int) ≤ k := by omega
        obtain rfl : gk = false := by rw [← HGK.out]; exact gone_out (by rw [HM.out]; omega)
        clear hkm
        go_wp2_with (first
          | (refine ldCl (o := ⟨some 45, _, _, _, _, _⟩) rfl (.tmp 44) rfl _ rfl c hL ?_)
          | (refine KEEP.out rfl (o1 := ⟨some 46, _, _, _, _, _⟩) rfl rfl rfl rfl rfl rfl (fun _ => rfl) (fun _ => rfl) ?_; intro u8 A8 n8 c8 w8 O8 b8; refine Mk.out ?_))
        constructor
        have HO8 := Lib.hid O8
        clear O8 hL KEEP
        go_wp2_with fail
        go_roundg (n - (k + 1))
        case measure => have := HLT.out; omega
        case rel => exact ⟨bel.trans b8, k + 1, A8, n8, c8, rfl, by go_num, by have := HLT.out; omega, rfl, Lib.hid (by rw [HLF.out]; simpa using HO8.out)⟩
    · obtain rfl : k = n := by omega
      have hO := HO.out
      rw [← HN.out, List.take_length] at hO
      clear HO
      obtain ⟨lf, hlf⟩ : ∃ lf, lft g l 0 = lf := ⟨_, rfl⟩
      have hlfl : lf.length = cnt g 0 k := by rw [← hlf, lft_len, HN.out]
      have hlfk : lf.length ≤ k := by rw [hlfl]; exact cnt_le _ _ _
      rw [hlf] at hO
      have hRL := own_rwCl hO
      have hn7 : lf.length = n7 := by
        obtain ⟨_, _, e⟩ := hRL.form
        injection e with _ e _
        exact e.symm
      obtain ⟨ys, E, hyE⟩ : ∃ ys E, pens l rs x = (ys, E) := ⟨_, _, rfl⟩
      obtain ⟨zs, E2, hzE⟩ : ∃ ys E, pens lf [] x = (ys, E) := ⟨_, _, rfl⟩
      have hPL := pens_left hyE
      rw [HGO.out, hlf, hzE] at hPL
      have hlen : l.length ≤ 1048576 := by have := HN.out; have := H200.out; omega
      have C1 := pens_any l rs x _ _ wr (HR.out.below bel) (HG.out.below bel) hlen HX.out HA.out
      have hlfA : ∀ c ∈ lf, W64 c.adv := fun c hc => HA.out c (lft_mem g l 0 c (hlf ▸ hc))
      have C2 : Hid (∀ W, Below wr.heap.size wr W → _) := Lib.hid fun W b => pens_as hzE _ W (hRL.below b) (by have := H200.out; omega) HX.out hlfA
      rw [hyE] at C1
      have HC1 := Lib.hid C1
      have HB := Lib.hid bel
      by_cases hE : E = 0
      rotate_left
      · have HE := Lib.hid hE
        have HP := Lib.hid (hPL.2 hE)
        simp only [if_neg hE] at HC1
        have hEz : (E == 0) = false := by simpa using HE.out
        clear hPL C1 hE hlfA hlen hRL hO hyE hzE hlf hlfl hlfk bel hn7
        go_wp2_with fail
        refine HC1.out.mono ?_
        rintro e w1 ⟨⟨u1, rfl, _, _, h1⟩, b1⟩
        obtain rfl := h1 HE.out
        have HB1 := Lib.hid b1
        clear b1 HC1
        go_wp2_with fail
        refine (C2.out w1 HB1.out).mono ?_
        rintro e w2 ⟨u2, rfl, S2, b2⟩
        obtain ⟨A2, c2, rfl⟩ := S2.form
        have HB2 := Lib.hid (below_seq HB.out (below_seq HB1.out b2))
        clear S2 b2 C2 HB1
        by_cases hE2 : E2 = 0
        · have hE3 : E = 2 := Classical.byContradiction fun h => by
            obtain ⟨_, e2, h1, h2⟩ := HP.out h
            injection h1 with _ h1
            exact h2 (h1 ▸ hE2)
          subst hE3 hE2
          clear hEz
          go_wp2_with fail
          refine (head_any _).mono ?_
          rintro e w3 ⟨rfl, b3⟩
          go_wp2_with fail
          go_ret
          exact ⟨rfl, below_seq HB2.out b3⟩
        · have hE2z : (E2 == 0) = false := by simpa using hE2
          have HE2 := Lib.hid hE2
          clear hE2
          go_wp2_with fail
          refine (head_any _).mono ?_
          rintro e w3 ⟨rfl, b3⟩
          go_wp2_with fail
          go_ret
          exact ⟨rfl, below_seq HB2.out b3⟩
      subst hE
      obtain ⟨zs', hz', hyl, hzl, hat⟩ := hPL.1 rfl
      obtain ⟨rfl, rfl⟩ : zs = zs' ∧ E2 = 0 := by
        injection hz' with h1 h2
        exact ⟨h1, h2⟩
      rw [HN.out] at hyl hat
      simp only [if_pos] at HC1 C2
      have HYL := Lib.hid hyl
      have HZL : Hid (zs.length = n7 + 1) := Lib.hid (by rw [hzl, hn7])
      have HAT := Lib.hid hat
      have HN7 : Hid (n7 = cnt g 0 k) := Lib.hid (by rw [← hn7, hlfl])
      have HC2 := C2
      have hn7z : (n7 : Int) ≤ 200 := by have := H200.out; omega
      clear hPL C1 hlfA hlen hRL hO hyE hzE hlf hlfl hlfk bel hyl hzl hat hz' hn7 C2
      go_wp2_with fail
      refine HC1.out.mono ?_
      rintro e w1 ⟨⟨u1, rfl, S1, _, _⟩, b1⟩
      have hf1 := S1.form
      rw [HYL.out] at hf1
      obtain ⟨A1, c1, rfl⟩ := hf1
      have HB1 := Lib.hid b1
      have HS1 := Lib.hid S1
      clear b1 HC1 S1
      go_wp2_with fail
      refine (HC2.out w1 HB1.out).mono ?_
      rintro e w2 ⟨u2, rfl, S2, b2⟩
      have hf2 := S2.form
      rw [HZL.out] at hf2
      obtain ⟨A2, c2, rfl⟩ := hf2
      have HS1 := Lib.hid (HS1.out.below b2)
      have HS2 := Lib.hid S2
      have HB2 := Lib.hid (below_seq HB.out (below_seq HB1.out b2))
      clear S2 b2 HC2 HB1 HB
      have hnn : ((n7 : Int) + 1 != (n7 : Int) + 1) = false := by simp
      go_wp2_with fail
      go_loopg [13, 14] k (fun kx s13 s14 wr => ∃ i : Nat, s13 = .int .i64 ((cnt g 0 i : Nat) : Int) ∧ s14 = .int .i64 i ∧ i ≤ k ∧ kx = k - i ∧ Below w2.heap.size w2 wr)
      case atStart => exact ⟨0, rfl, rfl, by omega, rfl, Below.refl _ _⟩
      case round =>
        obtain ⟨i, rfl, rfl, hi, rfl, bel⟩ := hrel
        by_cases hlt2 : i < k
        · have hlz : (i : Int) < k := by omega
          have HLT := Lib.hid hlt2
          obtain ⟨i1, hi1⟩ : ∃ i1, i + 1 = i1 := ⟨_, rfl⟩
          have HI1 := Lib.hid hi1
          have hi1z : (i : Int) + 1 = (i1 : Int) := by omega
          have hi1l : (i1 : Int) < (k : Int) + 1 := by omega
          obtain ⟨q, hq⟩ : ∃ q, cnt g 0 i = q := ⟨_, rfl⟩
          obtain ⟨q1, hq1⟩ : ∃ q, cnt g 0 i1 = q := ⟨_, rfl⟩
          have HQ1 := Lib.hid hq1
          have hqs := cnt_snoc g i 0
          rw [Nat.zero_add, hi1, hq, hq1] at hqs
          have hq1n : q1 ≤ n7 := by
            have := cnt_mono g 0 i1 (k - i1)
            rw [show i1 + (k - i1) = k by omega, hq1, ← HN7.out] at this
            exact this
          have hqn : (q : Int) ≤ 200 := by
            have : q ≤ q1 := by omega
            omega
          have hq1z : (q1 : Int) < (n7 : Int) + 1 := by omega
          rw [hq]
          obtain ⟨a, ha⟩ : ∃ a, ys[i1]? = some a := ⟨_, List.getElem?_eq_getElem (by rw [HYL.out]; omega)⟩
          have hb : zs[q1]? = some a := by rw [← ha, HAT.out i1 (by omega), hq1]
          obtain ⟨a1, cap1, hv, hc1⟩ := (HS1.out.below bel).get ha
          rw [HYL.out] at hv
          injection hv with hv1 hv2 hv3
          subst hv1 hv3
          obtain ⟨a2, cap2, hv, hc2⟩ := (HS2.out.below bel).get hb
          rw [HZL.out] at hv
          injection hv with hv1 hv4 hv3
          subst hv1 hv3
          have hgk : gone rs i = g i := by rw [HGO.out]
          have hne : (a != a) = false := by simp
          have DONE : Hid (∀ m' : Nat, i1 ≤ k ∧ k - i1 < k - i) := Lib.hid fun _ => by omega
          clear hv2 hv4 ha hb hlt2 hi1 hq1
          by_cases him : i < m
          · have himz : (i : Int) < m := by omega
            have himz2 : ¬ (m : Int) ≤ i := by omega
            obtain ⟨r, hr⟩ : ∃ r, rs[i]? = some r := ⟨_, List.getElem?_eq_getElem (by rw [HM.out]; exact him)⟩
            obtain ⟨ar, capr, hv, hcr⟩ := (HG.out.below (below_seq HB2.out bel)).get hr
            rw [HM.out] at hv
            injection hv with hv1 hv2 hv3
            subst hv1 hv3
            have hgr := gone_in hr
            rw [hgk] at hgr
            clear hv2 hr hgk him
            by_cases hr1 : r = 1
            · obtain rfl : q1 = q := by rw [hqs, hgr, hr1]; rfl
              clear hqs hgr
              go_wp2_with fail
              go_quiet (fail)
              go_wp2_with fail
              go_roundg (k - i1)
              case measure => exact (DONE.out 0).2
              case rel => exact ⟨i1, by rw [HQ1.out], by go_num, (DONE.out 0).1, rfl, below_drewN bel _⟩
            · have e : q1 = q + 1 := by rw [hqs, hgr, decide_eq_false hr1]; rfl
              have hqz : (q : Int) + 1 = (q1 : Int) := by omega
              clear hqs hgr e
              go_wp2_with fail
              go_quiet (fail)
              go_wp2_with fail
              go_roundg (k - i1)
              case measure => exact (DONE.out 0).2
              case rel => exact ⟨i1, by rw [HQ1.out], by go_num, (DONE.out 0).1, rfl, below_drewN bel _⟩
          · have himz : ¬ (i : Int) < m := by omega
            have himz2 : (m : Int) ≤ i := by omega
            have hgr := gone_out (rs := rs) (i := i) (by rw [HM.out]; omega)
            rw [hgk] at hgr
            have e : q1 = q + 1 := by rw [hqs, hgr]; rfl
            have hqz : (q : Int) + 1 = (q1 : Int) := by omega
            clear hqs hgr e hgk him
            go_wp2_with fail
            go_quiet (fail)
            go_wp2_with fail
            go_roundg (k - i1)
            case measure => exact (DONE.out 0).2
            case rel => exact ⟨i1, by rw [HQ1.out], by go_num, (DONE.out 0).1, rfl, below_drewN bel _⟩
        · obtain rfl : i = k := by omega
          obtain ⟨a, ha⟩ : ∃ a, ys[0]? = some a := ⟨_, List.getElem?_eq_getElem (by rw [HYL.out]; omega)⟩
          have hb : zs[0]? = some a := by rw [← ha, HAT.out 0 (by omega)]; rfl
          obtain ⟨a1, cap1, hv, hc1⟩ := (HS1.out.below bel).get ha
          rw [HYL.out] at hv
          injection hv with hv1 hv2 hv3
          subst hv1 hv3
          obtain ⟨a2, cap2, hv, hc2⟩ := (HS2.out.below bel).get hb
          rw [HZL.out] at hv
          injection hv with hv1 hv4 hv3
          subst hv1 hv3
          rw [Addr.add_zero'] at hc1 hc2
          have HC1 := Lib.hid hc1
          have HC2 := Lib.hid hc2
          have HL1 := Lib.hid (World.block_lt_of_cell? _ _ hc1)
          have HL2 := Lib.hid (World.block_lt_of_cell? _ _ hc2)
          have hp1 : (0 : Int) < (n7 : Int) + 1 := by omega
          have hp2 : (0 : Int) < (i : Int) + 1 := by omega
          clear hv2 hv4 ha hb hc1 hc2
          go_wp2_with fail
          refine region_C (by kernel_rfl) (fun W => Below wr.heap.size wr W) (fun _ => True) (fun i => i == 8) (below_drewN (Below.refl _ _) 1) trivial (fun R hR => ?_)
          refine AllC.start (by kernel_rfl) (fun HCH => ?_)
          iterate 2
            refine AllC.rq (v := ?_) HCH ?_ ?_
            rotate_left
            · intro W hSw
              (try dsimp only at hSw)
              go_simp
              (try with_reducible rfl)
            rotate_left
            (try simp only [Act.put, List.setIfInBounds_toArray, List.set_cons_zero, List.set_cons_succ])
          refine AllC.rq (v := .int .i64 a) HCH (fun W hSw => ?_) ?_
          · (try dsimp only at hSw)
            have h := hSw.cell (p := a1) HL1.out
            rw [HC1.out] at h
            go_simp
          (try simp only [Act.put, List.setIfInBounds_toArray, List.set_cons_zero, List.set_cons_succ])
          iterate 2
            refine AllC.rq (v := ?_) HCH ?_ ?_
            rotate_left
            · intro W hSw
              (try dsimp only at hSw)
              go_simp
              (try with_reducible rfl)
            rotate_left
            (try simp only [Act.put, List.setIfInBounds_toArray, List.set_cons_zero, List.set_cons_succ])
          refine AllC.rq (v := .int .i64 a) HCH (fun W hSw => ?_) ?_
          · (try dsimp only at hSw)
            have h := hSw.cell (p := a2) HL2.out
            rw [HC2.out] at h
            go_simp
          (try simp only [Act.put, List.setIfInBounds_toArray, List.set_cons_zero, List.set_cons_succ])
          iterate 2
            refine AllC.rq (v := ?_) HCH ?_ ?_
            rotate_left
            · intro W hSw
              (try dsimp only at hSw)
              go_simp
              (try with_reducible rfl)
            rotate_left
            (try simp only [Act.put, List.setIfInBounds_toArray, List.set_cons_zero, List.set_cons_succ])
          refine AllC.cq 7 #[] (fun u => u = .bool true) (fun _ _ => True) HCH (fun W => ?_) (fun W hSw hF => ?_) ?_
          · go_simp
          · refine (head_any _).mono ?_
            rintro e w4 ⟨rfl, b4⟩
            exact ⟨_, rfl, rfl, below_seq hSw b4, trivial⟩
          rintro _ rfl
          (try simp only [Act.put, List.setIfInBounds_toArray, List.set_cons_zero, List.set_cons_succ])
          iterate 2
            refine AllC.rq (v := ?_) HCH ?_ ?_
            rotate_left
            · intro W hSw
              (try dsimp only at hSw)
              go_simp
              (try with_reducible rfl)
            rotate_left
            (try simp only [Act.put, List.setIfInBounds_toArray, List.set_cons_zero, List.set_cons_succ])
          refine AllC.done (by kernel_rfl) (hR.out _ _ ?_) _
          clear hR R HCH
          intro w_q hSq _
          go_wp2_with fail
          go_ret
          exact ⟨rfl, below_seq HB2.out (below_seq bel hSq)⟩
end Go.Proofs.Ytpaaicbgehpdiaa.Ta
