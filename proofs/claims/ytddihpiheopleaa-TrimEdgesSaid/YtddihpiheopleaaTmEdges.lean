/- The walk of TrimEdges: for every three rows the law returns true. Conditions: the slices read as the rows; numbers are int64. -/
import Derived.Test.YtddihpiheopleaaTmSome
import Derived.Test.YtddihpiheopleaaTmEdgM
import Derived.Test.YtddihpiheopleaaRegQ
namespace Go.Proofs.Ytddihpiheopleaa.Tm
open Go.ChangeShapes Go.WideShapes Go.ChangeAt Go.RowKit
open Ce
open Ta (W64)

set_option maxRecDepth 100000 in
set_option maxHeartbeats 2000000 in
theorem lawEdges_any (l la lb : List Cl) (v va vb : Value) (w : World) (hR : RwCl w v l) (hRa : RwCl w va la) (hRb : RwCl w vb lb) (ha : ∀ c ∈ l, W64 c.adv) (haa : ∀ c ∈ la, W64 c.adv) (hab : ∀ c ∈ lb, W64 c.adv) :
    Calls Try.prog 5 #[v, va, vb] w fun e w' => e = .returned (.bool true) ∧ Below w.heap.size w w' := by
  have hadv : ∀ c ∈ la ++ l ++ lb, W64 c.adv := fun c hc => by
    rcases List.mem_append.1 hc with hc | hc
    · rcases List.mem_append.1 hc with hc | hc
      · exact haa c hc
      · exact ha c hc
    · exact hab c hc
  have HADV := Lib.hid hadv
  have HA := Lib.hid ha
  obtain ⟨A, cap, rfl⟩ := hR.form
  obtain ⟨Aa, capa, rfl⟩ := hRa.form
  obtain ⟨Ab, capb, rfl⟩ := hRb.form
  obtain ⟨n, hn⟩ : ∃ n, l.length = n := ⟨_, rfl⟩
  obtain ⟨na, hna⟩ : ∃ n, la.length = n := ⟨_, rfl⟩
  obtain ⟨nb, hnb⟩ : ∃ n, lb.length = n := ⟨_, rfl⟩
  have HN := Lib.hid hn
  have HNA := Lib.hid hna
  have HNB := Lib.hid hnb
  rw [hn] at hR ⊢
  rw [hna] at hRa ⊢
  rw [hnb] at hRb ⊢
  have HR := Lib.hid hR
  have HRA := Lib.hid hRa
  have HRB := Lib.hid hRb
  clear ha haa hab hadv hn hna hnb hR hRa hRb
  go_enter Try.func5, Try.ntmps5
  by_cases hg : 150 < n
  · have hz : (150 : Int) < n := by omega
    go_wp2_with fail
    refine (hdT_any _).mono ?_
    rintro e w3 ⟨rfl, b3⟩
    go_wp2_with fail
    go_ret
    exact ⟨rfl, b3⟩
  have hzn : ¬ (150 : Int) < n := by omega
  have Hn : Hid (n ≤ 150) := Lib.hid (by omega)
  clear hg
  by_cases hg : 50 < na
  · have hz : (50 : Int) < na := by omega
    go_wp2_with fail
    refine (hdT_any _).mono ?_
    rintro e w3 ⟨rfl, b3⟩
    go_wp2_with fail
    go_ret
    exact ⟨rfl, b3⟩
  have hzna : ¬ (50 : Int) < na := by omega
  have Hna : Hid (na ≤ 50) := Lib.hid (by omega)
  clear hg
  by_cases hg : 50 < nb
  · have hz : (50 : Int) < nb := by omega
    go_wp2_with fail
    refine (hdT_any _).mono ?_
    rintro e w3 ⟨rfl, b3⟩
    go_wp2_with fail
    go_ret
    exact ⟨rfl, b3⟩
  have hznb : ¬ (50 : Int) < nb := by omega
  have Hnb : Hid (nb ≤ 50) := Lib.hid (by omega)
  clear hg
  obtain ⟨ma, hma⟩ : ∃ m, some_ la = m := ⟨_, rfl⟩
  obtain ⟨mb, hmb⟩ : ∃ m, some_ lb = m := ⟨_, rfl⟩
  have CA := Lib.hid (some_any la _ w HRA.out (by rw [HNA.out]; have := Hna.out; omega))
  have CB := Lib.hid (fun W b => some_any lb _ W (HRB.out.below (w' := W) b) (by rw [HNB.out]; have := Hnb.out; omega))
  rw [hma] at CA
  rw [hmb] at CB
  have HMA := Lib.hid hma
  have HMB := Lib.hid hmb
  have hmal : ma ≤ 50 := by rw [← hma]; refine Nat.le_trans (some_le la) ?_; rw [HNA.out]; exact Hna.out
  have hmbl : mb ≤ 50 := by rw [← hmb]; refine Nat.le_trans (some_le lb) ?_; rw [HNB.out]; exact Hnb.out
  clear hma hmb
  go_wp2_with fail
  refine CA.out.mono ?_
  rintro e w1 ⟨rfl, b1⟩
  go_wp2_with fail
  refine (CB.out _ b1).mono ?_
  rintro e w2 ⟨rfl, b2⟩
  have b2 := below_seq b1 b2
  clear b1 CA CB
  by_cases hpos : 0 < ma + mb
  · have hz : (0 : Int) < (ma : Int) + (mb : Int) := by omega
    go_wp2_with fail
    refine (hdT_any _).mono ?_
    rintro e w3 ⟨rfl, b3⟩
    go_wp2_with fail
    go_ret
    exact ⟨rfl, below_seq b2 b3⟩
  have hz0 : ¬ (0 : Int) < (ma : Int) + (mb : Int) := by omega
  have EA : Hid (allE la) := Lib.hid (allE_of (by rw [HMA.out]; omega))
  have EB : Hid (allE lb) := Lib.hid (allE_of (by rw [HMB.out]; omega))
  have HB2 := Lib.hid b2
  have HS2 : Hid (w.heap.size ≤ w2.heap.size) := Lib.hid b2.size
  clear hpos HMA HMB b2
  go_wp2_with (with_reducible refine selO ⟨some 45, _, _, _, _, _⟩ ?_; refine Mk.out ?_)
  constructor
  have HB3 := Lib.hid (below_seq HB2.out (below_alloc w2 (.cells #[] 35)))
  have O0 : OwCl w.heap.size (w2.alloc (.cells #[] 35)) (.slice (some ⟨w2.heap.size, 0, none⟩) 0 0) [] := OwCl.lit0 (Blk.new w2 35 #[]) HS2.out
  refine apCls rfl (.tmp 43) (.tmp 44) rfl _ _ rfl rfl w.heap.size [] la O0 (HRA.out.below HB3.out) HB3.out.size (by rw [HNA.out]; have := Hna.out; simp; omega) (fun v3 w3 O3 b3 => ?_)
  rw [List.nil_append] at O3
  obtain ⟨A3, c3, hv3⟩ := (own_rwCl O3).form
  have HO3 := Lib.hid O3
  have HB4 := Lib.hid (HB3.out.trans b3)
  subst hv3
  clear O0 O3 b3
  go_wp2_with (with_reducible refine selO ⟨some 47, _, _, _, _, _⟩ ?_; refine Mk.out ?_)
  constructor
  refine apCls rfl (.tmp 45) (.tmp 46) rfl _ _ rfl rfl w.heap.size la l HO3.out (HR.out.below HB4.out) HB4.out.size (by rw [HNA.out, HN.out]; have := Hna.out; have := Hn.out; omega) (fun v5 w5 O5 b5 => ?_)
  obtain ⟨A5, c5, hv5⟩ := (own_rwCl O5).form
  obtain ⟨n5, hn5⟩ : ∃ q, (la ++ l).length = q := ⟨_, rfl⟩
  rw [hn5] at hv5
  clear hn5
  have HO5 := Lib.hid O5
  have HB5 := Lib.hid (HB4.out.trans b5)
  subst hv5
  clear O5 b5 HO3
  go_wp2_with (with_reducible refine selO ⟨some 49, _, _, _, _, _⟩ ?_; refine Mk.out ?_)
  constructor
  refine apCls rfl (.tmp 47) (.tmp 48) rfl _ _ rfl rfl w.heap.size (la ++ l) lb HO5.out (HRB.out.below HB5.out) HB5.out.size (by rw [List.length_append, HNA.out, HNB.out, HN.out]; have := Hna.out; have := Hnb.out; have := Hn.out; omega) (fun v7 w7 O7 b7 => ?_)
  have hR7 := own_rwCl O7
  have HB7 := Lib.hid (HB5.out.trans b7)
  clear O7 b7 HO5 HB5 HB4 HB3 HB2
  obtain ⟨all, hall⟩ : ∃ q, la ++ l ++ lb = q := ⟨_, rfl⟩
  have HALL := Lib.hid hall
  rw [hall] at hR7 HADV
  obtain ⟨A7, c7, hv7⟩ := hR7.form
  obtain ⟨m, hm⟩ : ∃ q, all.length = q := ⟨_, rfl⟩
  have HM := Lib.hid hm
  rw [hm] at hv7
  subst hv7
  have hmn : (m : Int) = na + n + nb := by rw [← hm, ← hall, List.length_append, List.length_append, HN.out, HNA.out, HNB.out]; simp
  have hm250 : m ≤ 250 := by have := Hn.out; have := Hna.out; have := Hnb.out; omega
  have HR7 := Lib.hid hR7
  obtain ⟨g, hg⟩ : ∃ g, inG na n = g := ⟨_, rfl⟩
  have HG := Lib.hid hg
  have HMN := Lib.hid hmn
  have H250 := Lib.hid hm250
  clear hall hm hR7 hg hmn hm250
  go_wp2_with fail
  go_loopg [8, 9] m (fun kx s8 s9 wr => Below w7.heap.size w7 wr ∧ ∃ (k : Nat) (S : Int), s8 = .int .i64 S ∧ s9 = .int .i64 k ∧ k ≤ m ∧ kx = m - k ∧ Hid (S = sumK g (all.take k) 0) ∧ Hid (∀ i c, i < k → all[i]? = some c → (-1099511627776 ≤ c.adv ∧ c.adv ≤ 1099511627776) ∧ c.k ≠ 4))
  case atStart => exact ⟨Below.refl _ _, 0, 0, rfl, by go_num, by omega, rfl, Lib.hid rfl, Lib.hid fun i c hi => by omega⟩
  case round =>
    obtain ⟨bel, k, S, rfl, rfl, hk, rfl, HS, HK⟩ := hrel
    by_cases hlt : k < m
    · have hlz : (k : Int) < m := by omega
      have hm250z : (m : Int) ≤ 250 := by have := H250.out; omega
      have HLT := Lib.hid hlt
      obtain ⟨c, hc⟩ : ∃ c, all[k]? = some c := ⟨_, List.getElem?_eq_getElem (by rw [HM.out]; exact hlt)⟩
      obtain ⟨ad, cap2, o, hv, hab, hadr, hL⟩ := (HR7.out.below bel).get (Below.refl _ _) hc
      rw [HM.out] at hv
      injection hv with hv1 hv2 hv3
      subst hv1 hv3
      have c5 : wr.cell? ⟨ad.block, o, none⟩ = some (.int .u8 c.k) := by have := hL 0 _ rfl; rwa [Addr.add_lit] at this
      have c6 : wr.cell? ⟨ad.block, o + 3, none⟩ = some (.int .i64 c.adv) := by have := hL 3 _ rfl; rwa [Addr.add_lit] at this
      have HC := Lib.hid hc
      have next : Hid (-1099511627776 ≤ c.adv → c.adv ≤ 1099511627776 → c.k ≠ 4 → ∀ i c, i < k + 1 → all[i]? = some c → (-1099511627776 ≤ c.adv ∧ c.adv ≤ 1099511627776) ∧ c.k ≠ 4) := Lib.hid fun h h' h'' i c' hi hc' => by
        rcases Nat.lt_or_ge i k with h2 | h2
        · exact HK.out i c' h2 hc'
        · obtain rfl : i = k := by omega
          have := hc'.symm.trans HC.out
          injection this with this
          rw [this]; exact ⟨⟨h, h'⟩, h''⟩
      have hsum : Hid (sumK g (all.take (k + 1)) 0 = S + (if g k = true then 0 else c.adv)) := Lib.hid (by
        rw [take_succ_at HC.out, sumK_app, ← HS.out, Nat.zero_add, List.length_take, Nat.min_eq_left (by rw [HM.out]; have := HLT.out; omega)]
        show S + ((if g k = true then 0 else c.adv) + 0) = _
        rw [Int.add_zero])
      have hSb : -274877906944000 ≤ S ∧ S ≤ 274877906944000 := by
        have := sumK_bd (M := 1099511627776) (by omega) (g := g) (all.take k) 0 (fun d hd => by
          obtain ⟨i, hi⟩ := List.getElem?_of_mem hd
          have hil := (List.getElem?_eq_some_iff.1 hi).1
          rw [List.length_take] at hil
          rw [List.getElem?_take, if_pos (by omega)] at hi
          exact (HK.out i d (by omega) hi).1)
        rw [← HS.out, List.length_take] at this
        have := H250.out
        have := HLT.out
        omega
      have hgk : Hid (g k = (decide (na ≤ k) && decide (k < na + n))) := Lib.hid (by rw [← HG.out]; rfl)
      clear hL hv2 hc hlt
      obtain ⟨ca, hca⟩ : ∃ q, c.adv = q := ⟨_, rfl⟩
      obtain ⟨ck, hck⟩ : ∃ q, c.k = q := ⟨_, rfl⟩
      rw [hca] at c6 next hsum
      rw [hck] at c5 next
      clear hca hck HC
      by_cases h1 : 1099511627776 < ca
      · go_wp2_with fail
        refine (hdT_any _).mono ?_
        rintro e w3 ⟨rfl, b3⟩
        go_wp2_with fail
        go_ret
        exact ⟨rfl, below_seq HB7.out (bel.trans (b3.mono bel.size))⟩
      by_cases h2 : ca < -1099511627776
      · go_wp2_with fail
        refine (hdT_any _).mono ?_
        rintro e w3 ⟨rfl, b3⟩
        go_wp2_with fail
        go_ret
        exact ⟨rfl, below_seq HB7.out (bel.trans (b3.mono bel.size))⟩
      by_cases h3 : ck = 4
      · go_wp2_with fail
        refine (hdT_any _).mono ?_
        rintro e w3 ⟨rfl, b3⟩
        go_wp2_with fail
        go_ret
        exact ⟨rfl, below_seq HB7.out (bel.trans (b3.mono bel.size))⟩
      have HX := Lib.hid (next.out (by omega) (by omega) h3)
      have h3b : (ck == 4) = false := by simpa using h3
      by_cases h4 : k < na
      · have h4z : (k : Int) < na := by omega
        have e0 : Hid (S + ca = sumK g (all.take (k + 1)) 0) := Lib.hid (by rw [hsum.out, hgk.out, if_neg (by rw [Bool.and_eq_true, decide_eq_true_eq, decide_eq_true_eq]; omega)])
        clear h3
        go_wp2_with fail
        go_roundg (m - (k + 1))
        case measure => have := HLT.out; omega
        case rel => exact ⟨bel, k + 1, S + ca, rfl, by go_num, by have := HLT.out; omega, rfl, e0, HX⟩
      · have h4z : ¬ (k : Int) < na := by omega
        by_cases h5 : na + n ≤ k
        · have h5z : (na : Int) + (n : Int) ≤ k := by omega
          have e0 : Hid (S + ca = sumK g (all.take (k + 1)) 0) := Lib.hid (by rw [hsum.out, hgk.out, if_neg (by rw [Bool.and_eq_true, decide_eq_true_eq, decide_eq_true_eq]; omega)])
          clear h3
          go_wp2_with fail
          go_roundg (m - (k + 1))
          case measure => have := HLT.out; omega
          case rel => exact ⟨bel, k + 1, S + ca, rfl, by go_num, by have := HLT.out; omega, rfl, e0, HX⟩
        · have h5z : ¬ (na : Int) + (n : Int) ≤ k := by omega
          have e0 : Hid (S = sumK g (all.take (k + 1)) 0) := Lib.hid (by rw [hsum.out, hgk.out, if_pos (by rw [Bool.and_eq_true, decide_eq_true_eq, decide_eq_true_eq]; omega), Int.add_zero])
          clear h3
          go_wp2_with fail
          go_roundg (m - (k + 1))
          case measure => have := HLT.out; omega
          case rel => exact ⟨bel, k + 1, S, rfl, by go_num, by have := HLT.out; omega, rfl, e0, HX⟩
    · obtain rfl : k = m := by omega
      have hS := HS.out
      rw [← HM.out, List.take_length, ← HALL.out, ← HG.out, ← HN.out, ← HNA.out] at hS
      have hin : ∀ c ∈ la ++ l ++ lb, (-1099511627776 ≤ c.adv ∧ c.adv ≤ 1099511627776) ∧ c.k ≠ 4 := fun c hc => by
        rw [HALL.out] at hc
        obtain ⟨i, hi⟩ := List.getElem?_of_mem hc
        exact HK.out i c (by rw [← HM.out]; exact (List.getElem?_eq_some_iff.1 hi).1) hi
      obtain ⟨x, y, u, v, f1, f2, f3, f4, s1, s2⟩ := edges EA.out EB.out (by rw [HNA.out]; exact Hna.out) (by rw [HN.out]; exact Hn.out) (by rw [HNB.out]; exact Hnb.out) (fun c hc => (hin c hc).1) (fun c hc => (hin c hc).2)
      have hinl : ∀ c ∈ l, (-1099511627776 ≤ c.adv ∧ c.adv ≤ 1099511627776) ∧ c.k ≠ 4 := fun c hc => hin c (by simp [hc])
      have hl250 : l.length ≤ 250 := by rw [HN.out]; have := Hn.out; omega
      have hal250 : (la ++ l ++ lb).length ≤ 250 := by rw [HALL.out, HM.out]; exact H250.out
      have bx := fits_bd hl250 (fun c hc => (hinl c hc).1) (fun c hc => (hinl c hc).2) _ f1
      have bu := fits_bd hl250 (fun c hc => (hinl c hc).1) (fun c hc => (hinl c hc).2) _ f3
      have by_ := fits_bd hal250 (fun c hc => (hin c hc).1) (fun c hc => (hin c hc).2) _ f2
      have bv := fits_bd hal250 (fun c hc => (hin c hc).1) (fun c hc => (hin c hc).2) _ f4
      have hro : rolesV all = List.replicate na 0 ++ (rolesV l ++ List.replicate nb 0) := by rw [← HALL.out, roles_between EA.out EB.out, HNA.out, HNB.out]
      rw [HALL.out] at f2 f4
      rw [← hS] at s1 s2
      have hlen : l.length ≤ 1048576 := by omega
      have hlenA : all.length ≤ 1048576 := by rw [HM.out]; have := H250.out; omega
      have B9 := below_seq HB7.out bel
      have HB9 := Lib.hid B9
      have C1 := Lib.hid (fun W b => roles_row l _ W (HR.out.below (w' := W) b) hlen)
      have C2 := Lib.hid (fun W b => roles_row all _ W (HR7.out.below (w' := W) b) hlenA)
      have z0 : W64 0 := by unfold W64; omega
      have F1 := Lib.hid (fun W b => fits_is f1 _ W (HR.out.below (w' := W) b) hlen z0 HA.out)
      have F2 := Lib.hid (fun W b => fits_is f2 _ W (HR7.out.below (w' := W) b) hlenA z0 HADV.out)
      have F3 := Lib.hid (fun W b => goes_is f3 _ W (HR.out.below (w' := W) b) hlen z0 HA.out)
      have F4 := Lib.hid (fun W b => goes_is f4 _ W (HR7.out.below (w' := W) b) hlenA z0 HADV.out)
      have HRO := Lib.hid hro
      have HBL := Lib.hid bel
      have HBY := Lib.hid by_
      have HBX := Lib.hid bx
      have HBU := Lib.hid bu
      have HBV := Lib.hid bv
      have HS1 := Lib.hid s1
      have HS2 := Lib.hid s2
      rw [HN.out] at C1
      rw [HM.out] at C2
      clear f1 f2 f3 f4 s1 s2 hS hin hinl hl250 hal250 bx bu by_ bv hro hlen hlenA z0 B9 HS HK bel
      go_wp2_with fail
      refine (C1.out _ HB9.out).mono ?_
      rintro e w11 ⟨g1, rfl, S1, b11⟩
      have HS11 := Lib.hid S1
      have HB11 := Lib.hid b11
      clear S1 b11
      go_wp2_with fail
      refine (C2.out _ (below_seq HBL.out HB11.out)).mono ?_
      rintro e w12 ⟨g2, rfl, S2, b12⟩
      have HS12 := Lib.hid S2
      have HS11 := Lib.hid (HS11.out.below b12)
      have HBA : Hid (Below w.heap.size w w12) := Lib.hid (below_seq (below_seq HB9.out HB11.out) b12)
      have HBB : Hid (Below w7.heap.size w7 w12) := Lib.hid (below_seq (below_seq HBL.out HB11.out) b12)
      clear S2 b12 C1 C2 HB11 HB9 HBL
      go_wp2_with fail
      go_loopg [12] n (fun kx s12 wr => Below w12.heap.size w12 wr ∧ ∃ (j : Nat), s12 = .int .i64 j ∧ j ≤ n ∧ kx = n - j)
      case atStart => exact ⟨Below.refl _ _, 0, by go_num, by omega, rfl⟩
      case round =>
        obtain ⟨bel, j, rfl, hj, rfl⟩ := hrel
        by_cases hjn : j < n
        · have hjz : (j : Int) < n := by omega
          have hn250z : (n : Int) ≤ 150 := by have := Hn.out; omega
          have HJN := Lib.hid hjn
          obtain ⟨r, hr⟩ : ∃ r, (rolesV l)[j]? = some r := ⟨_, List.getElem?_eq_getElem (by rw [rolesV_len, HN.out]; exact hjn)⟩
          obtain ⟨q, hq⟩ : ∃ q, na + j = q := ⟨_, rfl⟩
          have hr2 : (rolesV all)[q]? = some r := by
            rw [HRO.out, ← hq, List.getElem?_append_right (by rw [List.length_replicate]; omega), List.length_replicate, Nat.add_sub_cancel_left, List.getElem?_append_left (by rw [rolesV_len, HN.out]; exact hjn)]
            exact hr
          have hqz : (na : Int) + (j : Int) = (q : Int) := by omega
          have hqk : (q : Int) < k := by have := HMN.out; omega
          have hq250 : (q : Int) ≤ 250 := by have := H250.out; omega
          have hwq : IntKind.i64.wrap (q : Int) = (q : Int) := by rw [IntKind.wrap_i64]; omega
          obtain ⟨ad1, cp1, hv, cc1⟩ := (HS11.out.below bel).get hr
          rw [rolesV_len, HN.out] at hv
          injection hv with hv1 hv2 hv3
          injection hv1 with hv1
          subst hv1 hv3
          obtain ⟨ad2, cp2, hv, cc2⟩ := (HS12.out.below bel).get hr2
          rw [rolesV_len, HM.out] at hv
          injection hv with hv1 hv4 hv3
          injection hv1 with hv1
          subst hv1 hv3
          clear hr hr2 hq hv2 hv4 hjn
          have cc1 : wr.cell? ⟨g1, j, none⟩ = some (.int .u8 r) := by have := cc1; rwa [Addr.add_lit, Nat.zero_add] at this
          have cc2 : wr.cell? ⟨g2, q, none⟩ = some (.int .u8 r) := by have := cc2; rwa [Addr.add_lit, Nat.zero_add] at this
          have CC : Hid (∀ W, Below wr.heap.size wr W → W.cell? ⟨g1, j, none⟩ = some (.int .u8 r) ∧ W.cell? ⟨g2, q, none⟩ = some (.int .u8 r)) := Lib.hid fun W b => ⟨(b.cell (World.block_lt_of_cell? _ _ cc1)).trans cc1, (b.cell (World.block_lt_of_cell? _ _ cc2)).trans cc2⟩
          have hne : (r != r) = false := by simp
          go_wp2_with fail
          refine region_any (by kernel_rfl) (fun W => Below wr.heap.size wr W) (below_drewN (Below.refl _ _) 1) (fun R hR => ?_)
          refine AllS.start ?_
          iterate 12
            refine AllS.rq (v := ?_) ?_ ?_
            rotate_left
            · intro W hSw
              (try dsimp only at hSw)
              obtain ⟨cc1, cc2⟩ := CC.out W hSw
              go_simp
              (try with_reducible rfl)
            rotate_left
            (try simp only [Act.put, List.setIfInBounds_toArray, List.set_cons_zero, List.set_cons_succ])
          refine AllS.done (by kernel_rfl) (hR.out _ ?_) _
          clear hR R
          intro w13 b13
          go_wp2_with fail
          go_roundg (n - (j + 1))
          case measure => have := HJN.out; omega
          case rel => exact ⟨bel.trans (b13.mono bel.size), j + 1, by go_num, by have := HJN.out; omega, rfl⟩
        · obtain rfl : j = n := by omega
          have HBC : Hid (Below w.heap.size w wr) := Lib.hid (below_seq HBA.out bel)
          have HBD : Hid (Below w7.heap.size w7 wr) := Lib.hid (below_seq HBB.out bel)
          clear bel HBA HBB
          go_wp2_with fail
          refine (F1.out _ HBC.out).mono ?_
          rintro e w21 ⟨rfl, b1⟩
          have HBC := Lib.hid (below_seq HBC.out b1)
          have HBD := Lib.hid (below_seq HBD.out b1)
          clear b1
          go_wp2_with fail
          refine (F2.out _ HBD.out).mono ?_
          rintro e w22 ⟨rfl, b1⟩
          have HBC := Lib.hid (below_seq HBC.out b1)
          have HBD := Lib.hid (below_seq HBD.out b1)
          clear b1
          go_wp2_with fail
          refine (F3.out _ HBC.out).mono ?_
          rintro e w23 ⟨rfl, b1⟩
          have HBC := Lib.hid (below_seq HBC.out b1)
          have HBD := Lib.hid (below_seq HBD.out b1)
          clear b1
          go_wp2_with fail
          refine (F4.out _ HBD.out).mono ?_
          rintro e w24 ⟨rfl, b1⟩
          have HBC := Lib.hid (below_seq HBC.out b1)
          clear b1
          have s1 := HS1.out
          have s2 := HS2.out
          obtain ⟨bx1, bx2⟩ := HBX.out
          obtain ⟨by1, by2⟩ := HBY.out
          obtain ⟨bu1, bu2⟩ := HBU.out
          obtain ⟨bv1, bv2⟩ := HBV.out
          have e1 : wrap64 (y - x) = S := by unfold wrap64; omega
          have e2 : wrap64 (v - u) = S := by unfold wrap64; omega
          clear s1 s2
          go_wp2_with fail
          refine (hdT_any _).mono ?_
          rintro e w25 ⟨rfl, b5⟩
          go_wp2_with fail
          go_ret
          exact ⟨rfl, below_seq HBC.out b5⟩
end Go.Proofs.Ytddihpiheopleaa.Tm
