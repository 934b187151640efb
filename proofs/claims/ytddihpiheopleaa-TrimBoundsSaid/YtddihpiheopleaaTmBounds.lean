/- The walk of TrimBounds: for every row and every number the law returns true. Conditions: the slice reads as the row; numbers are int64. -/
import Derived.Test.YtddihpiheopleaaTmSome
namespace Go.Proofs.Ytddihpiheopleaa.Tm
open Go.ChangeShapes Go.WideShapes Go.ChangeAt Go.RowKit
open Ce
open Ta (W64)

set_option maxRecDepth 100000 in
set_option maxHeartbeats 2000000 in
theorem lawBounds_any (l : List Cl) (v : Value) (x : Int) (w : World) (hR : RwCl w v l) (hx : W64 x) (ha : ∀ c ∈ l, W64 c.adv) :
    Calls Try.prog 6 #[v, .int .i64 x] w fun e w' => e = .returned (.bool true) ∧ Below w.heap.size w w' := by
  have HA := Lib.hid ha
  have HX := Lib.hid hx
  obtain ⟨A, cap, rfl⟩ := hR.form
  obtain ⟨n, hn⟩ : ∃ n, l.length = n := ⟨_, rfl⟩
  have HN := Lib.hid hn
  rw [hn] at hR ⊢
  have HR := Lib.hid hR
  obtain ⟨hx1, hx2⟩ := hx
  clear ha hn hR
  go_enter Try.func6, Try.ntmps6
  by_cases hbig : 150 < n
  · have hz : (150 : Int) < n := by omega
    go_wp2_with fail
    refine (hdT_any _).mono ?_
    rintro e w3 ⟨rfl, b3⟩
    go_wp2_with fail
    go_ret
    exact ⟨rfl, b3⟩
  have hz : (n : Int) ≤ 150 := by omega
  have hz2 : ¬ (150 : Int) < n := by omega
  have H150 : Hid (n ≤ 150) := Lib.hid (by omega)
  clear hbig
  by_cases hg : 1099511627776 < x
  · go_wp2_with fail
    refine (hdT_any _).mono ?_
    rintro e w3 ⟨rfl, b3⟩
    go_wp2_with fail
    go_ret
    exact ⟨rfl, b3⟩
  have hg1480 : ¬ 1099511627776 < x := hg
  clear hg
  by_cases hg : x < -1099511627776
  · go_wp2_with fail
    refine (hdT_any _).mono ?_
    rintro e w3 ⟨rfl, b3⟩
    go_wp2_with fail
    go_ret
    exact ⟨rfl, b3⟩
  have hg1698 : ¬ x < -1099511627776 := hg
  clear hg
  have hx3 : -1099511627776 ≤ x ∧ x ≤ 1099511627776 := by omega
  have HX3 := Lib.hid hx3
  clear hx3
  go_wp2_with fail
  go_loopg [5] n (fun kx s5 wr => Below w.heap.size w wr ∧ ∃ (k : Nat), s5 = .int .i64 k ∧ k ≤ n ∧ kx = n - k ∧ Hid (∀ i c, i < k → l[i]? = some c → 0 ≤ c.adv ∧ c.adv ≤ 1099511627776))
  case atStart => exact ⟨Below.refl _ _, 0, rfl, by omega, rfl, Lib.hid fun i c hi => by omega⟩
  case round =>
    obtain ⟨bel, k, rfl, hk, rfl, HK⟩ := hrel
    by_cases hlt : k < n
    · have hlz : (k : Int) < n := by omega
      have HLT := Lib.hid hlt
      obtain ⟨c, hc⟩ : ∃ c, l[k]? = some c := ⟨_, List.getElem?_eq_getElem (by rw [HN.out]; exact hlt)⟩
      obtain ⟨ad, cap2, o, hv, hab, hadr, hL⟩ := (HR.out.below bel).get (Below.refl _ _) hc
      rw [HN.out] at hv
      injection hv with hv1 hv2 hv3
      subst hv1 hv3
      have c6 : wr.cell? ⟨ad.block, o + 3, none⟩ = some (.int .i64 c.adv) := by have := hL 3 _ rfl; rwa [Addr.add_lit] at this
      have HC := Lib.hid hc
      have next : Hid (0 ≤ c.adv → c.adv ≤ 1099511627776 → ∀ i c, i < k + 1 → l[i]? = some c → 0 ≤ c.adv ∧ c.adv ≤ 1099511627776) := Lib.hid fun h h' i c' hi hc' => by
        rcases Nat.lt_or_ge i k with h2 | h2
        · exact HK.out i c' h2 hc'
        · obtain rfl : i = k := by omega
          have := hc'.symm.trans HC.out
          injection this with this
          rw [this]; exact ⟨h, h'⟩
      clear hL hv2 hc hlt
      obtain ⟨ca, hca⟩ : ∃ q, c.adv = q := ⟨_, rfl⟩
      rw [hca] at c6 next
      clear hca HC
      by_cases h1 : ca < 0
      · go_wp2_with fail
        refine (hdT_any _).mono ?_
        rintro e w3 ⟨rfl, b3⟩
        go_wp2_with fail
        go_ret
        exact ⟨rfl, below_seq bel b3⟩
      by_cases h2 : 1099511627776 < ca
      · go_wp2_with fail
        refine (hdT_any _).mono ?_
        rintro e w3 ⟨rfl, b3⟩
        go_wp2_with fail
        go_ret
        exact ⟨rfl, below_seq bel b3⟩
      have HX := Lib.hid (next.out (by omega) (by omega))
      go_wp2_with fail
      go_roundg (n - (k + 1))
      case measure => have := HLT.out; omega
      case rel => exact ⟨bel, k + 1, by go_num, by have := HLT.out; omega, rfl, HX⟩
    · obtain rfl : k = n := by omega
      have hall : ∀ c ∈ l, 0 ≤ c.adv ∧ c.adv ≤ 1099511627776 := fun c hc => by
        obtain ⟨i, hi⟩ := List.getElem?_of_mem hc
        exact HK.out i c (by rw [← HN.out]; exact (List.getElem?_eq_some_iff.1 hi).1) hi
      have hlen : l.length ≤ 1048576 := by rw [HN.out]; have := H150.out; omega
      obtain ⟨a, b, c, fa, fb, fc, l1, l2, l3, l4⟩ := bounds hall HX3.out (by rw [HN.out]; exact H150.out)
      have CF := Lib.hid (fun W b => fits_is fa _ W (HR.out.below (w' := W) b) hlen HX.out HA.out)
      have CG := Lib.hid (fun W b => goes_is fb _ W (HR.out.below (w' := W) b) hlen HX.out HA.out)
      have CB := Lib.hid (fun W b => blank_any l _ W (HR.out.below (w' := W) b) hlen)
      have CE := Lib.hid (fun W b => edged_any l _ W (HR.out.below (w' := W) b) hlen)
      have fc1 : (if (Ta.pens l [] x).2 = 0 then (Ta.pens l [] x).1.getLastD 0 else 0) = c := congrArg Prod.fst fc
      have fc2 : (Ta.pens l [] x).2 = 0 := congrArg Prod.snd fc
      have CP := Lib.hid (fun W b => Ta.end_is fc1 fc2 _ _ W (HR.out.below (w' := W) b) RowI.nil_ hlen HX.out HA.out)
      obtain ⟨zb, hzb⟩ : ∃ z, blankV l = z := ⟨_, rfl⟩
      obtain ⟨ze, hze⟩ : ∃ z, edgedV l = z := ⟨_, rfl⟩
      rw [hzb] at CB l4
      rw [hze] at CE l4
      have L4 := Lib.hid l4
      clear fa fb fc fc1 fc2 l4 hzb hze hall hlen
      go_wp2_with fail
      refine (CF.out _ bel).mono ?_
      rintro e w1 ⟨rfl, b1⟩
      have b1 := below_seq bel b1
      go_wp2_with fail
      refine (CG.out _ b1).mono ?_
      rintro e w2 ⟨rfl, b2⟩
      have b2 := below_seq b1 b2
      clear b1
      go_wp2_with fail
      refine (CP.out _ b2).mono ?_
      rintro e w3 ⟨rfl, b3⟩
      have b3 := below_seq b2 b3
      clear b2
      go_wp2_with fail
      refine (CB.out _ b3).mono ?_
      rintro e w4 ⟨rfl, b4⟩
      have b4 := below_seq b3 b4
      clear b3
      cases zb with
      | false =>
        go_wp2_with fail
        refine (hdT_any _).mono ?_
        rintro e w5 ⟨rfl, b5⟩
        go_wp2_with fail
        go_ret
        exact ⟨rfl, below_seq b4 b5⟩
      | true =>
        go_wp2_with fail
        refine (CE.out _ b4).mono ?_
        rintro e w5 ⟨rfl, b5⟩
        have b5 := below_seq b4 b5
        clear b4
        cases ze with
        | true =>
          go_wp2_with fail
          refine (hdT_any _).mono ?_
          rintro e w6 ⟨rfl, b6⟩
          go_wp2_with fail
          go_ret
          exact ⟨rfl, below_seq b5 b6⟩
        | false =>
          obtain rfl := L4.out (by simp) (by simp)
          go_wp2_with fail
          refine (hdT_any _).mono ?_
          rintro e w6 ⟨rfl, b6⟩
          go_wp2_with fail
          go_ret
          exact ⟨rfl, below_seq b5 b6⟩
end Go.Proofs.Ytddihpiheopleaa.Tm
