/- The walk of TrimAgain: for every row the law returns true. Conditions: the slice reads as the row. -/
import Derived.Test.YtddihpiheopleaaTmSome
import Derived.Test.YtddihpiheopleaaTmAgnM
namespace Go.Proofs.Ytddihpiheopleaa.Tm
open Go.ChangeShapes Go.WideShapes Go.ChangeAt Go.RowKit
open Ce
open Ta (W64)

set_option maxRecDepth 100000 in
set_option maxHeartbeats 2000000 in
theorem lawAgain_any (l : List Cl) (v : Value) (w : World) (hR : RwCl w v l) :
    Calls Try.prog 4 #[v] w fun e w' => e = .returned (.bool true) ∧ Below w.heap.size w w' := by
  obtain ⟨A, cap, rfl⟩ := hR.form
  obtain ⟨n, hn⟩ : ∃ n, l.length = n := ⟨_, rfl⟩
  have HN := Lib.hid hn
  rw [hn] at hR ⊢
  have HR := Lib.hid hR
  clear hn hR
  go_enter Try.func4, Try.ntmps4
  by_cases hbig : 150 < n
  · have hz : (150 : Int) < n := by omega
    go_wp2_with fail
    refine (hdT_any _).mono ?_
    rintro e w3 ⟨rfl, b3⟩
    go_wp2_with fail
    go_ret
    exact ⟨rfl, b3⟩
  have hz : (n : Int) ≤ 150 := by omega
  have hz2 : ¬ (150 : Int) < n := by omega
  have H150 : Hid (n ≤ 150) := Lib.hid (by omega)
  clear hbig
  have C1 := Lib.hid (roles_row l _ w HR.out (by rw [HN.out]; have := H150.out; omega))
  rw [HN.out] at C1
  go_wp2_with fail
  refine C1.out.mono ?_
  rintro e w1 ⟨g1, rfl, S1, b1⟩
  have HS1 := Lib.hid S1
  have HB1 := Lib.hid b1
  have HR1 := Lib.hid (HR.out.below b1)
  clear S1 b1 C1
  go_wp2_with fail
  go_loopg [4, 5, 6] n (fun kx s4 s5 s6 wr => Below w1.heap.size w1 wr ∧ ∃ (k : Nat) (A7 : Option Addr) (n7 c7 : Nat) (A8 : Option Addr) (n8 c8 : Nat), s4 = .slice A7 n7 c7 ∧ s5 = .slice A8 n8 c8 ∧ s6 = .int .i64 k ∧ k ≤ n ∧ kx = n - k ∧ Hid (OwCl w1.heap.size wr (.slice A7 n7 c7) (lc ((zl l).take k))) ∧ Hid (OwB w1.heap.size wr (.slice A8 n8 c8) (lr ((zl l).take k))) ∧ Hid (Apart (.slice A8 n8 c8) (.slice A7 n7 c7)))
  case atStart => exact ⟨Below.refl _ _, 0, none, 0, 0, none, 0, 0, rfl, rfl, rfl, by omega, rfl, Lib.hid (OwCl.nil_ _ _), Lib.hid (OwB.nil_ _ _), Lib.hid (Apart.nil _)⟩
  case round =>
    obtain ⟨bel, k, A7, n7, c7, A8, n8, c8, rfl, rfl, rfl, hk, rfl, HO, HQ, HAP⟩ := hrel
    by_cases hlt : k < n
    · have hlz : (k : Int) < n := by omega
      have HLT := Lib.hid hlt
      obtain ⟨c, hc⟩ : ∃ c, l[k]? = some c := ⟨_, List.getElem?_eq_getElem (by rw [HN.out]; exact hlt)⟩
      have hr := rolesV_at hc
      obtain ⟨r, hrr⟩ : ∃ r, roleV (l.take k) (l.drop (k + 1)) c = r := ⟨_, rfl⟩
      have hrc := roleV_cases (l.take k) (l.drop (k + 1)) c
      rw [hrr] at hr hrc
      have HZ := Lib.hid (zl_at hc hr)
      obtain ⟨ad, cap2, o, hv, hab, hadr, hL⟩ := HR1.out.get (Below.refl _ _) hc
      rw [HN.out] at hv
      injection hv with hv1 hv2 hv3
      subst hv1 hv3
      obtain ⟨ad1, cp1, hv, cc1⟩ := HS1.out.get hr
      rw [rolesV_len, HN.out] at hv
      injection hv with hv1 hv2 hv3
      injection hv1 with hv1
      subst hv1 hv3
      have cc1 : w1.cell? ⟨g1, k, none⟩ = some (.int .u8 r) := by have := cc1; rwa [Addr.add_lit, Nat.zero_add] at this
      have c5 : w1.cell? ⟨ad.block, o, none⟩ = some (.int .u8 c.k) := by have := hL 0 _ rfl; rwa [Addr.add_lit] at this
      have CC : Hid (∀ W, Below w1.heap.size w1 W → W.cell? ⟨g1, k, none⟩ = some (.int .u8 r) ∧ W.cell? ⟨ad.block, o, none⟩ = some (.int .u8 c.k) ∧ Lies W ⟨ad.block, o, none⟩ (clA c)) := Lib.hid fun W b => ⟨(b.cell (World.block_lt_of_cell? _ _ cc1)).trans cc1, (b.cell (World.block_lt_of_cell? _ _ c5)).trans c5, hL.below b⟩
      have HSM1 : Hid ((lc ((zl l).take k)).length < 4194304) := Lib.hid (by have := (lc_len ((zl l).take k)).1; rw [List.length_take] at this; have := H150.out; omega)
      have HSM2 : Hid ((lr ((zl l).take k)).length < 4194304) := Lib.hid (by have := (lc_len ((zl l).take k)).2; rw [List.length_take] at this; have := H150.out; omega)
      have HSZ : Hid (w1.heap.size ≤ wr.heap.size) := Lib.hid bel.size
      obtain ⟨lf, hlf⟩ : ∃ q, lc ((zl l).take k) = q := ⟨_, rfl⟩
      obtain ⟨lq, hlq⟩ : ∃ q, lr ((zl l).take k) = q := ⟨_, rfl⟩
      have e1 : Hid (r = 1 → lc ((zl l).take (k + 1)) = lf ∧ lr ((zl l).take (k + 1)) = lq) := Lib.hid fun h => by subst h; rw [HZ.out, ← hlf, ← hlq]; exact lc_gone
      have e2 : Hid (r ≠ 1 → lc ((zl l).take (k + 1)) = lf ++ [c] ∧ lr ((zl l).take (k + 1)) = lq ++ [r]) := Lib.hid fun h => by rw [HZ.out, ← hlf, ← hlq]; exact lc_left h
      rw [hlf] at HO HSM1
      rw [hlq] at HQ HSM2
      have HRC := Lib.hid hrc
      obtain ⟨c0, c1, c2⟩ := CC.out wr bel
      clear hr hrr hrc hc hv2 cc1 c5 hL hlf hlq hlt
      by_cases h1 : r = 1
      · have hk1 : c.k = 1 := by
          rcases HRC.out with h | h | h
          · exact h.2
          · rw [h1] at h; exact absurd h.1 (by decide)
          · rw [h1] at h; exact absurd h (by decide)
        have E := e1.out h1
        have E1 := Lib.hid E.1
        have E2 := Lib.hid E.2
        subst h1
        rw [hk1] at c1
        clear E hk1 c2
        go_wp2_with fail
        go_roundg (n - (k + 1))
        case measure => have := HLT.out; omega
        case rel => exact ⟨bel, k + 1, A7, n7, c7, A8, n8, c8, rfl, rfl, by go_num, by have := HLT.out; omega, rfl, Lib.hid (by rw [E1.out]; exact HO.out), Lib.hid (by rw [E2.out]; exact HQ.out), HAP⟩
      · have E := e2.out h1
        have E1 := Lib.hid E.1
        have E2 := Lib.hid E.2
        have hrk : r = 2 ∧ c.k = 2 ∨ r = 0 := by
          rcases HRC.out with h | h | h
          · exact absurd h.1 h1
          · exact .inl h
          · exact .inr h
        have HRK := Lib.hid hrk
        have h1b : (r != 1) = true := by simpa using h1
        clear E h1 hrk c1
        go_wp2_with (first
          | (refine ldCl (o := ⟨some 34, _, _, _, _, _⟩) rfl (.tmp 33) rfl _ rfl c c2 ?_)
          | (with_reducible refine selO ⟨some 35, _, _, _, _, _⟩ ?_; refine Mk.out ?_))
        constructor
        refine apCl rfl (.tmp 34) rfl 35 rfl rfl (.tmp 30) rfl c rfl _ (fun _ => rfl) (fun _ => rfl) w1.heap.size lf HO.out HSM1.out HSZ.out ?_
        intro u9 A9 n9 c9 w9 O9 b9 m9 k9
        have HO9 := Lib.hid O9
        have HQ9 : Hid (OwB w1.heap.size w9 (.slice A8 n8 c8) lq) := Lib.hid (Apart.keep HAP.out HQ.out m9)
        have HAP9 : Hid (Apart (.slice A8 n8 c8) (.slice A9 n9 c9)) := Lib.hid (Apart.step HAP.out HQ.out k9)
        have bel9 := bel.trans b9
        have HSZ9 : Hid (w1.heap.size ≤ w9.heap.size) := Lib.hid bel9.size
        obtain ⟨c0, c1, c2⟩ := CC.out w9 bel9
        clear O9 m9 k9 b9 c1 c2
        go_wp2_with (with_reducible refine selO ⟨some 42, _, _, _, _, _⟩ ?_; refine Mk.out ?_)
        constructor
        refine apB rfl (.tmp 41) rfl 42 rfl rfl (.tmp 37) rfl r rfl _ (fun _ => rfl) (fun _ => rfl) w1.heap.size lq HQ9.out HSM2.out HSZ9.out ?_
        intro u10 A10 n10 c10 w10 O10 b10 m10 k10
        have HO10 : Hid (OwCl w1.heap.size w10 (.slice A9 n9 c9) (lf ++ [c])) := Lib.hid (Apart.keep HAP9.out.symm HO9.out m10)
        have HQ10 := Lib.hid O10
        have HAP10 : Hid (Apart (.slice A10 n10 c10) (.slice A9 n9 c9)) := Lib.hid (Apart.step HAP9.out.symm HO9.out k10).symm
        have bel10 := bel9.trans b10
        obtain ⟨c0, c1, c2⟩ := CC.out w10 bel10
        clear O10 m10 k10 b10 c2 h1b
        rcases HRK.out with ⟨hr2, hk2⟩ | hr0
        · subst hr2
          rw [hk2] at c1
          clear hk2
          go_wp2_with fail
          go_roundg (n - (k + 1))
          case measure => have := HLT.out; omega
          case rel => exact ⟨bel10, k + 1, A9, n9, c9, A10, n10, c10, rfl, rfl, by go_num, by have := HLT.out; omega, rfl, Lib.hid (by rw [E1.out]; exact HO10.out), Lib.hid (by rw [E2.out]; exact HQ10.out), HAP10⟩
        · subst hr0
          go_wp2_with fail
          go_roundg (n - (k + 1))
          case measure => have := HLT.out; omega
          case rel => exact ⟨bel10, k + 1, A9, n9, c9, A10, n10, c10, rfl, rfl, by go_num, by have := HLT.out; omega, rfl, Lib.hid (by rw [E1.out]; exact HO10.out), Lib.hid (by rw [E2.out]; exact HQ10.out), HAP10⟩
    · obtain rfl : k = n := by omega
      have hz4 : (zl l).take k = zl l := List.take_of_length_le (by rw [zl_len, HN.out]; exact Nat.le_refl _)
      rw [hz4] at HO HQ
      have hag := again l
      obtain ⟨lf, hlf⟩ : ∃ q, lc (zl l) = q := ⟨_, rfl⟩
      obtain ⟨lq, hlq⟩ : ∃ q, lr (zl l) = q := ⟨_, rfl⟩
      have hsp : Hid (∀ (i : Nat) (c : Cl), lf[i]? = some c → c.k = 1 → 0 < some_ (lf.take i) ∧ 0 < some_ (lf.drop (i + 1))) := Lib.hid fun i c h hk => by rw [← hlf] at h ⊢; exact space_left h hk
      have hln : lf.length ≤ k := by rw [← hlf]; refine Nat.le_trans (lc_len _).1 ?_; rw [zl_len, HN.out]; exact Nat.le_refl _
      rw [hlf, hlq] at hag
      rw [hlf] at HO
      rw [hlq] at HQ
      have hR7 := own_rwCl HO.out
      have hC7 : CapV (.slice A7 n7 c7) := CapV.own HO.out
      obtain ⟨A', c', hv⟩ := hR7.form
      injection hv with hv1 hv2 hv3
      subst hv2 hv1 hv3
      obtain ⟨m, hm⟩ : ∃ q, lf.length = q := ⟨_, rfl⟩
      have HM := Lib.hid hm
      rw [hm] at hR7 hC7 hln ⊢
      have hmc := (hC7 _ _ _ rfl).1
      have hmx := (hC7 _ _ _ rfl).2
      have hQ8 := HQ.out.row
      have HR7 := Lib.hid hR7
      have HQ8 := Lib.hid hQ8
      have HMC := Lib.hid hmc
      have HMX := Lib.hid hmx
      have hln : m ≤ 150 := by have := H150.out; omega
      have C1 := Lib.hid (roles_row lf _ wr HR7.out (by rw [HM.out]; omega))
      rw [HM.out] at C1
      have CS := Lib.hid (fun u W (a1 : RowI .u8 W u (rolesV lf)) (b : Below wr.heap.size wr W) => sameB_is hag u _ W a1 (HQ8.out.below b) (by rw [rolesV_len, HM.out]; omega))
      have HBW := Lib.hid (below_seq HB1.out bel)
      have HLN := Lib.hid hln
      clear hag hlf hlq hR7 hC7 hm hmc hmx hQ8 HO HQ HAP hz4 hln bel
      go_wp2_with fail
      refine C1.out.mono ?_
      rintro e w21 ⟨g2, rfl, S2, b21⟩
      have C2 := Lib.hid (CS.out _ w21 S2 b21)
      have HB21 := Lib.hid b21
      clear S2 C1 CS b21
      obtain ⟨A8', c8', hv8⟩ := HQ8.out.form
      go_wp2_with fail
      refine C2.out.mono ?_
      rintro e w22 ⟨rfl, b22⟩
      have HB22 := Lib.hid (below_seq HB21.out b22)
      clear b22 C2 HB21
      go_wp2_with fail
      go_loopg [7] m (fun kx s7 w30 => Below w22.heap.size w22 w30 ∧ ∃ (j : Nat), s7 = .int .i64 j ∧ j ≤ m ∧ kx = m - j)
      case atStart => exact ⟨Below.refl _ _, 0, by go_num, by omega, rfl⟩
      case round =>
        obtain ⟨bel, j, rfl, hj, rfl⟩ := hrel
        have belW := below_seq HB22.out bel
        by_cases hjn : j < m
        · have hjz : (j : Int) < m := by omega
          have hm150 : (m : Int) ≤ 150 := by have := HLN.out; omega
          have HJN := Lib.hid hjn
          obtain ⟨c, hc⟩ : ∃ c, lf[j]? = some c := ⟨_, List.getElem?_eq_getElem (by rw [HM.out]; exact hjn)⟩
          obtain ⟨ad, cap2, o, hv, hab, hadr, hL⟩ := (HR7.out.below belW).get (Below.refl _ _) hc
          rw [HM.out] at hv
          injection hv with hv1 hv2 hv3
          subst hv1 hv3
          have c1 : wr.cell? ⟨ad.block, o, none⟩ = some (.int .u8 c.k) := by have := hL 0 _ rfl; rwa [Addr.add_lit] at this
          have hsj := hsp.out j c hc
          have HSJ := Lib.hid hsj
          obtain ⟨ck, hck⟩ : ∃ q, c.k = q := ⟨_, rfl⟩
          rw [hck] at c1 HSJ
          clear hsj hck hc hL hv2 hjn
          by_cases h1 : ck = 1
          · subst h1
            obtain ⟨q1, q2⟩ := HSJ.out rfl
            obtain ⟨s1, hs1⟩ : ∃ q, some_ (lf.take j) = q := ⟨_, rfl⟩
            obtain ⟨s2, hs2⟩ : ∃ q, some_ (lf.drop (j + 1)) = q := ⟨_, rfl⟩
            obtain ⟨j1, hj1⟩ : ∃ q, j + 1 = q := ⟨_, rfl⟩
            have hj1z : (j : Int) + 1 = (j1 : Int) := by omega
            have hj1m : j1 ≤ m := by have := HJN.out; omega
            have hmc := HMC.out
            have CA := Lib.hid (fun W b => some_any (lf.take j) _ W ((HR7.out.below (w' := W) b).hi (m := j) (by rw [HM.out]; have := HJN.out; omega)) (by rw [List.length_take]; omega))
            have CB := Lib.hid (fun W b => some_any (lf.drop j1) _ W ((HR7.out.below (w' := W) b).lo (m := j1) hj1m hmc) (by rw [List.length_drop, HM.out]; omega))
            rw [hs1] at CA q1
            rw [hj1] at hs2
            rw [hs2] at CB
            rw [hj1, hs2] at q2
            have hsl2 : ∀ W, (Instr.slice 22 (.slice (some ad) m c7) none (some (.int .i64 (j : Int))) none).run Try.prog W = .ok (.slice (some ad) j c7) W := fun W => by
              have h1 : (j : Int) ≤ c7 := by omega
              have h2 : (0 : Int) ≤ (j : Int) := by omega
              go_simp
            have hsl3 : ∀ W, (Instr.slice 22 (.slice (some ad) m c7) (some (.int .i64 (j1 : Int))) none none).run Try.prog W = .ok (loV 6 (some ad) m c7 j1) W := fun W => by
              have h1 : (j1 : Int) ≤ m := by omega
              have h2 : (0 : Int) ≤ (j1 : Int) := by omega
              unfold loV
              go_simp
            have z1 : ((s1 : Int) == 0) = false := by simp; omega
            have z2 : ((s2 : Int) == 0) = false := by simp; omega
            have HJ1 := Lib.hid hj1
            clear hs1 hs2 hmc q1 q2 hj1 hj1m
            go_wp2_with fail
            refine (CA.out _ belW).mono ?_
            rintro e w31 ⟨rfl, b31⟩
            have bW31 := below_seq belW b31
            have bel31 := bel.trans (b31.mono bel.size)
            clear bel belW c1
            go_wp2_with fail
            refine (CB.out _ bW31).mono ?_
            rintro e w32 ⟨rfl, b32⟩
            have bel32 := bel31.trans (b32.mono bel31.size)
            clear bel31 bW31
            go_wp2_with fail
            go_roundg (m - (j + 1))
            case measure => have := HJN.out; omega
            case rel => exact ⟨bel32, j + 1, by go_num, by have := HJN.out; omega, rfl⟩
          · have h1b : (ck == 1) = false := by simpa using h1
            clear h1
            go_wp2_with fail
            go_roundg (m - (j + 1))
            case measure => have := HJN.out; omega
            case rel => exact ⟨bel, j + 1, by go_num, by have := HJN.out; omega, rfl⟩
        · obtain rfl : j = m := by omega
          have B9 := below_seq HBW.out belW
          clear belW bel
          go_wp2_with fail
          refine (hdT_any _).mono ?_
          rintro e w31 ⟨rfl, b31⟩
          go_wp2_with fail
          go_ret
          exact ⟨rfl, below_seq B9 b31⟩
end Go.Proofs.Ytddihpiheopleaa.Tm
