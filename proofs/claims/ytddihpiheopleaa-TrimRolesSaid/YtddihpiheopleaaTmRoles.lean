/- Contracts of the document's answers for trim: edge, just, Role, Roles, Blank, Goes, Fits; the walk of TrimRoles. Conditions: the slice reads as the row, at most 1048576 cells, no longer than its memory; numbers are int64. -/
import Derived.Test.YtddihpiheopleaaTmSome
import Derived.Test.YtddihpiheopleaaTaRef
namespace Go.Proofs.Ytddihpiheopleaa.Tm
open Go.ChangeShapes Go.WideShapes Go.ChangeAt Go.RowKit
open Ce

set_option maxHeartbeats 1000000 in
theorem redge_any (c : Cl) (w : World) : Calls Try.prog 29 #[.agg (clA c)] w fun e w' => e = .returned (.bool (isE c)) ∧ Below w.heap.size w w' := by
  obtain ⟨k, n, ch, d, sf, em⟩ := c
  go_enter Try.func29, Try.ntmps29
  go_wp2_with (refine bxClV rfl (.tmp 0) rfl ⟨k, n, ch, d, sf, em⟩ rfl ?_; intro w1 b1 B1; refine Mk.out ?_)
  constructor
  have c0 : w1.cell? ⟨w.heap.size, 0, none⟩ = some (.int .u8 k) := B1.cell 0
  clear B1
  by_cases h7 : k = 7
  · go_wp2_with fail
    go_ret
    exact ⟨retb (by simp [isE, h7]), b1⟩
  · by_cases h8 : k = 8
    · go_wp2_with fail
      go_ret
      exact ⟨retb (by simp [isE, h8]), b1⟩
    · by_cases h5 : k = 5
      · go_wp2_with fail
        go_ret
        exact ⟨retb (by simp [isE, h5]), b1⟩
      · go_wp2_with fail
        go_ret
        exact ⟨retb (by simp [isE, h5, h7, h8]), b1⟩

set_option maxRecDepth 100000 in
set_option maxHeartbeats 1000000 in
theorem just_any (a b : Int) (l : List Cl) (v : Value) (w : World) (hR : RwCl w v l) (hlen : l.length ≤ 1048576) :
    Calls Try.prog 33 #[v, .int .u8 a, .int .u8 b] w fun e w' => e = .returned (.bool (jst a b l)) ∧ Below w.heap.size w w' := by
  obtain ⟨A, cap, rfl⟩ := hR.form
  obtain ⟨n, hn⟩ : ∃ n, l.length = n := ⟨_, rfl⟩
  have HN := Lib.hid hn
  rw [hn] at hlen hR ⊢
  have HR := Lib.hid hR
  obtain ⟨z, hz⟩ : ∃ z, jst a b l = z := ⟨_, rfl⟩
  have HZ := Lib.hid hz
  rw [hz]
  clear hR hn hz
  go_enter Try.func33, Try.ntmps33
  go_wp2_with fail
  go_loopg [7] n (fun kx s7 wr => Below w.heap.size w wr ∧ ∃ (k : Nat), s7 = .int .i64 k ∧ k ≤ n ∧ kx = n - k ∧ Hid (∀ i c, i < k → l[i]? = some c → ok a b c = true))
  case atStart => exact ⟨Below.refl _ _, 0, by go_num, by omega, rfl, Lib.hid fun i c hi => by omega⟩
  case round =>
    obtain ⟨bel, k, rfl, hk, rfl, HO⟩ := hrel
    by_cases hlt : k < n
    · have hlz : (k : Int) < n := by omega
      have HLT := Lib.hid hlt
      obtain ⟨c, hc⟩ : ∃ c, l[k]? = some c := ⟨_, List.getElem?_eq_getElem (by rw [HN.out]; exact hlt)⟩
      obtain ⟨ad, cap2, o, hv, hab, hadr, hL⟩ := (HR.out.below bel).get (Below.refl _ _) hc
      rw [HN.out] at hv
      injection hv with hv1 hv2 hv3
      subst hv1 hv3
      have HC := Lib.hid hc
      have next : Hid (ok a b c = true → ∀ i c, i < k + 1 → l[i]? = some c → ok a b c = true) := Lib.hid fun h i c' hi hc' => by
        rcases Nat.lt_or_ge i k with h2 | h2
        · exact HO.out i c' h2 hc'
        · obtain rfl : i = k := by omega
          have := hc'.symm.trans HC.out
          injection this with this
          rw [this]; exact h
      have HE : Hid (ok a b c = false → z = false) := Lib.hid fun h => by
        rw [← HZ.out]
        refine Bool.eq_false_iff.2 fun h2 => ?_
        have := List.all_eq_true.1 h2 c (List.mem_of_getElem? HC.out)
        rw [h] at this
        cases this
      have CE := Lib.hid (fun W => redge_any c W)
      obtain ⟨eg, heg⟩ : ∃ q, isE c = q := ⟨_, rfl⟩
      obtain ⟨ck, hck⟩ : ∃ q, c.k = q := ⟨_, rfl⟩
      have hok : Hid (ok a b c = (eg || (decide (ck = a) || decide (ck = b)))) := Lib.hid (by unfold ok; rw [heg, hck])
      have c5 : Hid (∀ W, Below wr.heap.size wr W → W.cell? ⟨ad.block, o, none⟩ = some (.int .u8 ck)) := Lib.hid fun W bb => by
        have : wr.cell? ⟨ad.block, o, none⟩ = some (.int .u8 c.k) := by have := hL 0 _ rfl; rwa [Addr.add_lit] at this
        rw [hck] at this
        exact (bb.cell (World.block_lt_of_cell? _ _ this)).trans this
      rw [heg] at CE
      clear hv2 hc hlt heg hck
      cases eg with
      | true =>
        have HX := Lib.hid (next.out (by rw [hok.out]; rfl))
        go_wp2_with (refine ldCl rfl (.tmp 16) rfl _ rfl c hL ?_)
        refine (CE.out _).mono ?_
        rintro e3 w3 ⟨rfl, b3⟩
        go_wp2_with fail
        go_roundg (n - (k + 1))
        case measure => have := HLT.out; omega
        case rel => exact ⟨bel.trans (b3.mono bel.size), k + 1, by go_num, by have := HLT.out; omega, rfl, HX⟩
      | false =>
        by_cases h1 : ck = a
        · have HX := Lib.hid (next.out (by rw [hok.out]; simp [h1]))
          subst h1
          go_wp2_with (refine ldCl rfl (.tmp 16) rfl _ rfl c hL ?_)
          refine (CE.out _).mono ?_
          rintro e3 w3 ⟨rfl, b3⟩
          have c6 := c5.out w3 b3
          go_wp2_with fail
          go_roundg (n - (k + 1))
          case measure => have := HLT.out; omega
          case rel => exact ⟨bel.trans (b3.mono bel.size), k + 1, by go_num, by have := HLT.out; omega, rfl, HX⟩
        · have b1 : (ck != a) = true := by simpa using h1
          by_cases h2 : ck = b
          · have HX := Lib.hid (next.out (by rw [hok.out]; simp [h2]))
            subst h2
            clear h1
            go_wp2_with (refine ldCl rfl (.tmp 16) rfl _ rfl c hL ?_)
            refine (CE.out _).mono ?_
            rintro e3 w3 ⟨rfl, b3⟩
            have c6 := c5.out w3 b3
            go_wp2_with fail
            go_roundg (n - (k + 1))
            case measure => have := HLT.out; omega
            case rel => exact ⟨bel.trans (b3.mono bel.size), k + 1, by go_num, by have := HLT.out; omega, rfl, HX⟩
          · have b2 : (ck != b) = true := by simpa using h2
            have HX := Lib.hid (HE.out (by rw [hok.out]; simp [h1, h2]))
            clear h1 h2
            go_wp2_with (refine ldCl rfl (.tmp 16) rfl _ rfl c hL ?_)
            refine (CE.out _).mono ?_
            rintro e3 w3 ⟨rfl, b3⟩
            have c6 := c5.out w3 b3
            go_wp2_with fail
            go_ret
            exact ⟨by rw [HX.out]; rfl, bel.trans (b3.mono bel.size)⟩
    · obtain rfl : k = n := by omega
      go_wp2_with fail
      go_ret
      refine ⟨retb ?_, bel⟩
      rw [← HZ.out]
      refine (List.all_eq_true.2 fun c hc => ?_).symm
      obtain ⟨i, hi⟩ := List.getElem?_of_mem hc
      have hil := (List.getElem?_eq_some_iff.1 hi).1
      exact HO.out i c (by rw [← HN.out]; exact hil) hi
end Go.Proofs.Ytddihpiheopleaa.Tm
namespace Go.Proofs.Ytddihpiheopleaa.Tm
open Go.ChangeShapes Go.WideShapes Go.ChangeAt Go.RowKit
open Ce

set_option maxRecDepth 100000 in
set_option maxHeartbeats 1000000 in
theorem rrole_any (l : List Cl) (A : Option Addr) (cap n i : Nat) (c : Cl) (w : World) (hR : RwCl w (.slice A n cap) l) (hn : l.length = n) (hcap : n ≤ cap) (hlen : n ≤ 1048576) (hc : l[i]? = some c) :
    Calls Try.prog 27 #[.slice A n cap, .int .i64 (i : Int)] w fun e w' => e = .returned (.int .u8 (roleV (l.take i) (l.drop (i + 1)) c)) ∧ Below w.heap.size w w' := by
  have HN := Lib.hid hn
  have hin : i < n := by rw [← hn]; exact (List.getElem?_eq_some_iff.1 hc).1
  obtain ⟨ad, cap2, o, hv, hab, hadr, hL⟩ := hR.get (Below.refl _ _) hc
  rw [hn] at hv
  injection hv with hv1 hv2 hv3
  subst hv1 hv3
  have HR := Lib.hid hR
  have hiz : (i : Int) < n := by omega
  obtain ⟨i1, hi1⟩ : ∃ q, i + 1 = q := ⟨_, rfl⟩
  have hi1z : (i : Int) + 1 = (i1 : Int) := by omega
  have hi1m : i1 ≤ n := by omega
  have CA := Lib.hid (fun W b => just_any 1 1 (l.take i) _ W ((HR.out.below (w' := W) b).hi (m := i) (by rw [hn]; omega)) (by rw [List.length_take]; omega))
  have CB := Lib.hid (fun W b => just_any 1 1 (l.drop i1) _ W ((HR.out.below (w' := W) b).lo (m := i1) hi1m hcap) (by rw [List.length_drop, hn]; omega))
  have CD := Lib.hid (fun W b => just_any 1 2 (l.drop i1) _ W ((HR.out.below (w' := W) b).lo (m := i1) hi1m hcap) (by rw [List.length_drop, hn]; omega))
  have hsl2 : ∀ W, (Instr.slice 22 (.slice (some ad) n cap) none (some (.int .i64 (i : Int))) none).run Try.prog W = .ok (.slice (some ad) i cap) W := fun W => by
    have h1 : (i : Int) ≤ cap := by omega
    have h2 : (0 : Int) ≤ (i : Int) := by omega
    go_simp
  have hsl3 : ∀ W, (Instr.slice 22 (.slice (some ad) n cap) (some (.int .i64 (i1 : Int))) none none).run Try.prog W = .ok (loV 6 (some ad) n cap i1) W := fun W => by
    have h1 : (i1 : Int) ≤ n := by omega
    have h2 : (0 : Int) ≤ (i1 : Int) := by omega
    unfold loV
    go_simp
  have c0 : w.cell? ⟨ad.block, o, none⟩ = some (.int .u8 c.k) := by have := hL 0 _ rfl; rwa [Addr.add_lit] at this
  have CC : Hid (∀ W, Below w.heap.size w W → W.cell? ⟨ad.block, o, none⟩ = some (.int .u8 c.k)) := Lib.hid fun W b => (b.cell (World.block_lt_of_cell? _ _ c0)).trans c0
  have HV : Hid (roleV (l.take i) (l.drop (i + 1)) c = if c.k = 1 ∧ (jst 1 1 (l.take i) = true ∨ jst 1 1 (l.drop i1) = true) then 1 else if c.k = 2 ∧ jst 1 2 (l.drop i1) = true then 2 else 0) := Lib.hid (by rw [hi1]; rfl)
  rw [HV.out]
  obtain ⟨j1, hj1⟩ : ∃ q, jst 1 1 (l.take i) = q := ⟨_, rfl⟩
  obtain ⟨j2, hj2⟩ : ∃ q, jst 1 1 (l.drop i1) = q := ⟨_, rfl⟩
  obtain ⟨j3, hj3⟩ : ∃ q, jst 1 2 (l.drop i1) = q := ⟨_, rfl⟩
  rw [hj1] at CA ⊢
  rw [hj2] at CB ⊢
  rw [hj3] at CD ⊢
  obtain ⟨ck, hck⟩ : ∃ q, c.k = q := ⟨_, rfl⟩
  rw [hck] at c0 CC ⊢
  clear hj1 hj2 hj3 hck HV hi1 hi1m hcap hin hv2 hR hc hL hn HN HR
  by_cases h1 : ck = 1
  · subst h1
    have CA2 := Lib.hid (CA.out w (Below.refl _ _))
    cases j1 with
    | true =>
      rw [if_pos ⟨rfl, .inl rfl⟩]
      go_enter Try.func27, Try.ntmps27
      go_wp2_with fail
      refine CA2.out.mono ?_
      rintro e w1 ⟨rfl, b1⟩
      go_wp2_with fail
      go_ret
      exact ⟨rfl, b1⟩
    | false =>
      cases j2 with
      | true =>
        rw [if_pos ⟨rfl, .inr rfl⟩]
        go_enter Try.func27, Try.ntmps27
        go_wp2_with fail
        refine CA2.out.mono ?_
        rintro e w1 ⟨rfl, b1⟩
        go_wp2_with fail
        refine (CB.out _ b1).mono ?_
        rintro e w2 ⟨rfl, b2⟩
        have b2 := below_seq b1 b2
        have c2 := CC.out w2 b2
        clear b1 c0
        go_wp2_with fail
        go_ret
        exact ⟨rfl, b2⟩
      | false =>
        rw [if_neg (by simp), if_neg (by simp)]
        go_enter Try.func27, Try.ntmps27
        go_wp2_with fail
        refine CA2.out.mono ?_
        rintro e w1 ⟨rfl, b1⟩
        go_wp2_with fail
        refine (CB.out _ b1).mono ?_
        rintro e w2 ⟨rfl, b2⟩
        have b2 := below_seq b1 b2
        have c2 := CC.out w2 b2
        clear b1 c0
        go_wp2_with fail
        go_ret
        exact ⟨rfl, b2⟩
  · have b1 : (ck == 1) = false := by simpa using h1
    rw [if_neg (fun h => h1 h.1)]
    clear h1
    by_cases h2 : ck = 2
    · subst h2
      have CD2 := Lib.hid (CD.out w (Below.refl _ _))
      cases j3 with
      | true =>
        rw [if_pos ⟨rfl, rfl⟩]
        go_enter Try.func27, Try.ntmps27
        go_wp2_with fail
        refine CD2.out.mono ?_
        rintro e w1 ⟨rfl, b1⟩
        go_wp2_with fail
        go_ret
        exact ⟨rfl, b1⟩
      | false =>
        rw [if_neg (by simp)]
        go_enter Try.func27, Try.ntmps27
        go_wp2_with fail
        refine CD2.out.mono ?_
        rintro e w1 ⟨rfl, b1⟩
        go_wp2_with fail
        go_ret
        exact ⟨rfl, b1⟩
    · have b2 : (ck == 2) = false := by simpa using h2
      rw [if_neg (fun h => h2 h.1)]
      clear h2
      go_enter Try.func27, Try.ntmps27
      go_wp2_with fail
      go_ret
      exact ⟨rfl, Below.refl _ _⟩

set_option maxRecDepth 100000 in
set_option maxHeartbeats 1000000 in
theorem rroles_any (l : List Cl) (A : Option Addr) (cap n : Nat) (w : World) (hR : RwCl w (.slice A n cap) l) (hn : l.length = n) (hcap : n ≤ cap) (hlen : n ≤ 1048576) :
    Calls Try.prog 14 #[.slice A n cap] w fun e w' => ∃ u, e = .returned u ∧ OwB w.heap.size w' u (rolesV l) ∧ Below w.heap.size w w' := by
  have HN := Lib.hid hn
  have HR := Lib.hid hR
  have HCAP := Lib.hid hcap
  clear hn hR hcap
  go_enter Try.func14, Try.ntmps14
  go_wp2_with fail
  go_loopg [3, 4] n (fun kx s3 s4 wr => Below w.heap.size w wr ∧ ∃ (k : Nat) (A8 : Option Addr) (n8 c8 : Nat), s3 = .slice A8 n8 c8 ∧ s4 = .int .i64 k ∧ k ≤ n ∧ kx = n - k ∧ Hid (OwB w.heap.size wr (.slice A8 n8 c8) ((rolesV l).take k)))
  case atStart => exact ⟨Below.refl _ _, 0, none, 0, 0, rfl, rfl, by omega, rfl, Lib.hid (OwB.nil_ _ _)⟩
  case round =>
    obtain ⟨bel, k, A8, n8, c8, rfl, rfl, hk, rfl, HO⟩ := hrel
    by_cases hlt : k < n
    · have hlz : (k : Int) < n := by omega
      have HLT := Lib.hid hlt
      obtain ⟨c, hc⟩ : ∃ c, l[k]? = some c := ⟨_, List.getElem?_eq_getElem (by rw [HN.out]; exact hlt)⟩
      have C := Lib.hid (rrole_any l A cap n k c wr (HR.out.below bel) HN.out HCAP.out hlen hc)
      obtain ⟨r, hr⟩ : ∃ r, roleV (l.take k) (l.drop (k + 1)) c = r := ⟨_, rfl⟩
      have hra := rolesV_at hc
      rw [hr] at C hra
      have E1 : Hid ((rolesV l).take (k + 1) = (rolesV l).take k ++ [r]) := Lib.hid (by rw [List.take_add_one, hra]; rfl)
      have HSM : Hid (((rolesV l).take k).length < 4194304) := Lib.hid (by rw [List.length_take, rolesV_len]; omega)
      clear hr hra hc hlt
      go_wp2_with fail
      refine C.out.mono ?_
      rintro e w3 ⟨rfl, b3⟩
      have bel3 := bel.trans (b3.mono bel.size)
      have HO3 := Lib.hid (HO.out.below b3)
      clear C b3
      go_wp2_with (with_reducible refine selO ⟨some 15, _, _, _, _, _⟩ ?_; refine Mk.out ?_)
      constructor
      refine apB rfl (.tmp 14) rfl 15 rfl rfl (.tmp 11) rfl r rfl _ (fun _ => rfl) (fun _ => rfl) w.heap.size _ HO3.out HSM.out bel3.size ?_
      intro u10 A10 n10 c10 w10 O10 b10 _ _
      have HO10 := Lib.hid O10
      clear O10 HO3 HSM
      go_wp2_with fail
      go_roundg (n - (k + 1))
      case measure => have := HLT.out; omega
      case rel => exact ⟨bel3.trans b10, k + 1, A10, n10, c10, rfl, by go_num, by have := HLT.out; omega, rfl, Lib.hid (by rw [E1.out]; exact HO10.out)⟩
    · obtain rfl : k = n := by omega
      go_wp2_with fail
      go_ret
      refine ⟨_, rfl, ?_, bel⟩
      have := HO.out
      rwa [List.take_of_length_le (by rw [rolesV_len, HN.out]; exact Nat.le_refl _)] at this

set_option maxRecDepth 100000 in
set_option maxHeartbeats 1000000 in
theorem rblank_any (l : List Cl) (A : Option Addr) (cap n : Nat) (w : World) (hR : RwCl w (.slice A n cap) l) (hn : l.length = n) (hcap : n ≤ cap) (hlen : n ≤ 1048576) :
    Calls Try.prog 16 #[.slice A n cap] w fun e w' => e = .returned (.bool (blankV l)) ∧ Below w.heap.size w w' := by
  have HN := Lib.hid hn
  have HR := Lib.hid hR
  have HCAP := Lib.hid hcap
  obtain ⟨z, hz⟩ : ∃ z, blankV l = z := ⟨_, rfl⟩
  have HZ := Lib.hid hz
  rw [hz]
  clear hn hR hcap hz
  go_enter Try.func16, Try.ntmps16
  go_wp2_with fail
  go_loopg [3] n (fun kx s3 wr => Below w.heap.size w wr ∧ ∃ (k : Nat), s3 = .int .i64 k ∧ k ≤ n ∧ kx = n - k ∧ Hid (∀ i, i < k → (decide (rol3 l i = 1) || (decide (kAt l i = 7) || (decide (kAt l i = 8) || decide (kAt l i = 5)))) = true))
  case atStart => exact ⟨Below.refl _ _, 0, by go_num, by omega, rfl, Lib.hid fun i hi => by omega⟩
  case round =>
    obtain ⟨bel, k, rfl, hk, rfl, HK⟩ := hrel
    by_cases hlt : k < n
    · have hlz : (k : Int) < n := by omega
      have HLT := Lib.hid hlt
      obtain ⟨c, hc⟩ : ∃ c, l[k]? = some c := ⟨_, List.getElem?_eq_getElem (by rw [HN.out]; exact hlt)⟩
      obtain ⟨ad, cap2, o, hv, hab, hadr, hL⟩ := (HR.out.below bel).get (Below.refl _ _) hc
      rw [HN.out] at hv
      injection hv with hv1 hv2 hv3
      subst hv1 hv3
      have CR := Lib.hid (fun W (b : Below w.heap.size w W) => rrole_any l _ cap n k c W (HR.out.below b) HN.out HCAP.out hlen hc)
      have CE := Lib.hid (fun W => redge_any c W)
      have hkc := kAt_of hc
      have HEG : Hid ((decide (kAt l k = 7) || (decide (kAt l k = 8) || decide (kAt l k = 5))) = isE c) := Lib.hid (by rw [hkc]; rfl)
      obtain ⟨eg, heg⟩ : ∃ b, isE c = b := ⟨_, rfl⟩
      rw [heg] at CE HEG
      obtain ⟨r, hr⟩ : ∃ r, roleV (l.take k) (l.drop (k + 1)) c = r := ⟨_, rfl⟩
      rw [hr] at CR
      have HRR : Hid (rol3 l k = r) := Lib.hid (by rw [rol3_is hc]; exact hr)
      clear hr heg hkc hv2 hc hlt
      cases eg with
      | true =>
        go_wp2_with (refine ldCl rfl (.tmp 12) rfl _ rfl c hL ?_)
        refine (CE.out _).mono ?_
        rintro e3 w3 ⟨rfl, b3⟩
        go_wp2_with fail
        go_roundg (n - (k + 1))
        case measure => have := HLT.out; omega
        case rel => exact ⟨bel.trans (b3.mono bel.size), k + 1, by go_num, by have := HLT.out; omega, rfl, Lib.hid fun i hi => by
          rcases Nat.lt_or_ge i k with h | h
          · exact HK.out i h
          · obtain rfl : i = k := by omega
            rw [HEG.out, Bool.or_true]⟩
      | false =>
        go_wp2_with (refine ldCl rfl (.tmp 12) rfl _ rfl c hL ?_)
        refine (CE.out _).mono ?_
        rintro e3 w3 ⟨rfl, b3⟩
        have bel3 := bel.trans (b3.mono bel.size)
        go_wp2_with fail
        refine (CR.out _ bel3).mono ?_
        rintro e4 w4 ⟨rfl, b4⟩
        have bel4 := bel3.trans (b4.mono bel3.size)
        clear bel3 b3 b4
        by_cases h1 : r = 1
        · have HX : Hid (∀ i, i < k + 1 → (decide (rol3 l i = 1) || (decide (kAt l i = 7) || (decide (kAt l i = 8) || decide (kAt l i = 5)))) = true) := Lib.hid fun i hi => by
            rcases Nat.lt_or_ge i k with h | h
            · exact HK.out i h
            · obtain rfl : i = k := by omega
              rw [HRR.out, h1]; rfl
          subst h1
          go_wp2_with fail
          go_roundg (n - (k + 1))
          case measure => have := HLT.out; omega
          case rel => exact ⟨bel4, k + 1, by go_num, by have := HLT.out; omega, rfl, HX⟩
        · have h1b : (r != 1) = true := by simpa using h1
          have H1 := Lib.hid h1
          clear h1
          go_wp2_with fail
          go_ret
          refine ⟨retb ?_, bel4⟩
          rw [← HZ.out]
          unfold blankV
          refine (Bool.eq_false_iff.2 fun h => ?_).symm
          have := List.all_eq_true.1 h k (List.mem_range.2 (by rw [HN.out]; exact HLT.out))
          rw [HEG.out, HRR.out, decide_eq_false H1.out] at this
          cases this
    · obtain rfl : k = n := by omega
      go_wp2_with fail
      go_ret
      refine ⟨retb ?_, bel⟩
      rw [← HZ.out]
      unfold blankV
      refine (List.all_eq_true.2 fun i hi => ?_).symm
      exact HK.out i (by rw [← HN.out]; exact List.mem_range.1 hi)
end Go.Proofs.Ytddihpiheopleaa.Tm
namespace Go.Proofs.Ytddihpiheopleaa.Tm
open Go.ChangeShapes Go.WideShapes Go.ChangeAt Go.RowKit
open Ce
open Ta (W64 pens)

theorem row_cells {w : World} {g cap n : Nat} {cur : Array Value} {t : TypeId} {l : List Int} (B : Blk w g t cur) (hn : l.length = n) (h : ∀ (i : Nat) (r : Int), l[i]? = some r → cur[i]? = some (Value.int .u8 r)) : RowI .u8 w (.slice (some ⟨g, 0, none⟩) n cap) l := by
  subst hn
  refine .inr ⟨⟨g, 0, none⟩, cap, by rw [List.length_map], .inr ⟨B.lt, id⟩, fun j u hj => ?_⟩
  have e : (⟨g, 0, none⟩ : Addr).add j = ⟨g, j, none⟩ := by simp [Addr.add]; exact fun h => h.symm
  rw [e, B.cell j]
  rw [List.getElem?_map] at hj
  obtain ⟨r, hr, rfl⟩ := Option.map_eq_some_iff.1 hj
  exact h j r hr
theorem rolesF2_at {l : List Cl} {i : Nat} {r : Int} (h : (rolesF2 l)[i]? = some r) : i < l.length ∧ r = fitR (rol3 l i) := by
  unfold rolesF2 at h
  rw [List.getElem?_map] at h
  obtain ⟨r0, h0, rfl⟩ := Option.map_eq_some_iff.1 h
  have hi : i < l.length := by have := (List.getElem?_eq_some_iff.1 h0).1; rwa [rolesV_len] at this
  rw [rolesV_rol hi] at h0
  injection h0 with h0
  exact ⟨hi, by rw [h0]⟩

set_option maxRecDepth 100000 in
set_option maxHeartbeats 1000000 in
theorem rgoes_any (l : List Cl) (A : Option Addr) (cap n : Nat) (x : Int) (w : World) (hR : RwCl w (.slice A n cap) l) (hn : l.length = n) (hcap : n ≤ cap) (hlen : n ≤ 1048576) (hx : W64 x) (ha : ∀ c ∈ l, W64 c.adv) :
    Calls Try.prog 11 #[.slice A n cap, .int .i64 x] w fun e w' => e = .returned (.tuple #[.int .i64 (goesV l x).1, .int .i64 (goesV l x).2]) ∧ Below w.heap.size w w' := by
  have C := Lib.hid (rroles_any l A cap n w hR hn hcap hlen)
  have D := Lib.hid (fun vr W (b : Below w.heap.size w W) hr => Ta.rend_any l (rolesV l) x _ vr W (hR.below b) hr (by rw [hn]; exact hlen) hx ha)
  obtain ⟨z, e, hz⟩ : ∃ z e, goesV l x = (z, e) := ⟨_, _, rfl⟩
  have HZ := Lib.hid hz
  rw [hz]
  clear hR hlen hx ha hz hn hcap
  go_enter Try.func11, Try.ntmps11
  go_wp2_with fail
  refine C.out.mono ?_
  rintro e1 w1 ⟨u, rfl, O, b1⟩
  have hr := O.row
  obtain ⟨A3, c3, hv⟩ := hr.form
  obtain ⟨n3, hn3⟩ : ∃ q, (rolesV l).length = q := ⟨_, rfl⟩
  rw [hn3] at hv
  have D1 := Lib.hid (D.out _ w1 b1 hr)
  subst hv
  clear C D hr O hn3
  go_wp2_with fail
  refine D1.out.mono ?_
  rintro e2 w2 ⟨rfl, b2⟩
  have h1 : (goesV l x).1 = z := by rw [HZ.out]
  have h2 : (goesV l x).2 = e := by rw [HZ.out]
  unfold goesV endV at h1 h2
  dsimp only at h1 h2
  rw [h1, h2]
  clear h1 h2
  go_wp2_with fail
  go_ret2
  exact ⟨rfl, below_seq b1 b2⟩

set_option maxRecDepth 100000 in
set_option maxHeartbeats 1000000 in
theorem rfitsT_any (l : List Cl) (A : Option Addr) (cap n : Nat) (x : Int) (w : World) (hR : RwCl w (.slice A n cap) l) (hn : l.length = n) (hcap : n ≤ cap) (hlen : n ≤ 1048576) (hx : W64 x) (ha : ∀ c ∈ l, W64 c.adv) :
    Calls Try.prog 9 #[.slice A n cap, .int .i64 x] w fun e w' => e = .returned (.tuple #[.int .i64 (fitsV l x).1, .int .i64 (fitsV l x).2]) ∧ Below w.heap.size w w' := by
  have C := Lib.hid (rroles_any l A cap n w hR hn hcap hlen)
  have D := Lib.hid (fun vr W (b : Below w.heap.size w W) hr => Ta.rend_any l (rolesF2 l) x _ vr W (hR.below b) hr (by rw [hn]; exact hlen) hx ha)
  obtain ⟨z, e, hz⟩ : ∃ z e, fitsV l x = (z, e) := ⟨_, _, rfl⟩
  have HZ := Lib.hid hz
  have HN := Lib.hid hn
  rw [hz]
  clear hR hx ha hz hn hcap
  have fin : Hid ((if (pens l (rolesF2 l) x).2 = 0 then (pens l (rolesF2 l) x).1.getLastD 0 else 0) = z ∧ (pens l (rolesF2 l) x).2 = e) := Lib.hid (by
    have h1 : (fitsV l x).1 = z := by rw [HZ.out]
    have h2 : (fitsV l x).2 = e := by rw [HZ.out]
    exact ⟨h1, h2⟩)
  go_enter Try.func9, Try.ntmps9
  go_wp2_with fail
  refine C.out.mono ?_
  rintro e1 w1 ⟨u, rfl, O, b1⟩
  have hO := O
  unfold OwB at hO
  rw [rolesV_len, HN.out] at hO
  rcases hO.2 with ⟨rfl, h0⟩ | ⟨g, c3, cur, rfl, hb, hg, h1, h2, h3, h4⟩
  · subst h0
    have hr : RowI .u8 w1 (.slice none 0 0) (rolesF2 l) := by
      have : rolesF2 l = [] := List.eq_nil_of_length_eq_zero (by unfold rolesF2; rw [List.length_map, rolesV_len, HN.out])
      rw [this]
      exact RowI.nil_
    have D1 := Lib.hid (D.out _ w1 b1 hr)
    rw [fin.out.1, fin.out.2] at D1
    clear C D hr O hO
    go_wp2_with fail
    refine wp_loop_rounds 1 ?_
    rw [rounds_succ]
    go_wp2_with fail
    refine D1.out.mono ?_
    rintro e2 w2 ⟨rfl, b2⟩
    go_wp2_with fail
    go_ret2
    exact ⟨rfl, below_seq b1 b2⟩
  · have B : Blk w1 g 5 cur := hg
    have hcur : ∀ i, i < n → cur[i]? = some (.int .u8 (rol3 l i)) := fun i hi => by
      have e1 : ((rolesV l).map (Value.int .u8))[i]? = some (.int .u8 (rol3 l i)) := by rw [List.getElem?_map, rolesV_rol (by rw [HN.out]; exact hi)]; rfl
      rw [← h4, List.getElem?_take, if_pos (by omega)] at e1
      simpa using e1
    have HB := Lib.hid B
    have HC := Lib.hid hcur
    have HB1 := Lib.hid b1
    have HG : Hid (w.heap.size ≤ g) := Lib.hid hb
    clear C O hO hg h2 h3 h4 B hcur b1 hb
    go_wp2_with fail
    go_loopg [7] n (fun kx s7 wr => Below w.heap.size w wr ∧ ∃ (k : Nat), s7 = .int .i64 k ∧ k ≤ n ∧ kx = n - k ∧ Hid (∃ cur', Blk wr g 5 cur' ∧ ∀ i, i < n → cur'[i]? = some (.int .u8 (mixF (rol3 l) k i))))
    case atStart => exact ⟨HB1.out, 0, by go_num, by omega, rfl, Lib.hid ⟨cur, HB.out, fun i hi => by rw [HC.out i hi]; unfold mixF; rw [if_neg (by omega)]⟩⟩
    case round =>
      obtain ⟨bel, k, rfl, hk, rfl, HK⟩ := hrel
      by_cases hlt : k < n
      · have hz : (k : Int) < n := by omega
        have HLT := Lib.hid hlt
        obtain ⟨cur', B', hc'⟩ := HK.out
        have hcell := (B'.cell k).trans (hc' k hlt)
        rw [show mixF (rol3 l) k k = rol3 l k from if_neg (by omega)] at hcell
        have hfr := B'.frozen k
        obtain ⟨r, hr⟩ : ∃ r, rol3 l k = r := ⟨_, rfl⟩
        rw [hr] at hcell
        have hsz : k < cur'.size := by
          rcases Nat.lt_or_ge k cur'.size with h | h
          · exact h
          · have := hc' k hlt
            rw [Array.getElem?_eq_none_iff.2 h] at this
            cases this
        by_cases h2 : r = 2
        · have HX : Hid (∃ c2, Blk (wr.setCell ⟨g, k, none⟩ (.int .u8 1)) g 5 c2 ∧ ∀ i, i < n → c2[i]? = some (.int .u8 (mixF (rol3 l) (k + 1) i))) := Lib.hid ⟨_, B'.set_ k _, fun i hi => by
            rw [Array.getElem?_setIfInBounds]
            by_cases e : k = i
            · subst e
              rw [if_pos rfl, if_pos hsz]
              unfold mixF
              rw [if_pos (by omega), hr, h2]
              rfl
            · rw [if_neg e, hc' i hi]
              unfold mixF
              by_cases hik : i < k
              · rw [if_pos hik, if_pos (by omega)]
              · rw [if_neg hik, if_neg (by omega)]⟩
          subst h2
          clear hr hc' B' HK hsz hlt
          go_wp2_with fail
          go_roundg (n - (k + 1))
          case measure => have := HLT.out; omega
          case rel => exact ⟨bel.setCell HG.out _, k + 1, by go_num, by have := HLT.out; omega, rfl, HX⟩
        · have HX : Hid (∃ c2, Blk wr g 5 c2 ∧ ∀ i, i < n → c2[i]? = some (.int .u8 (mixF (rol3 l) (k + 1) i))) := Lib.hid ⟨_, B', fun i hi => by
            rw [hc' i hi]
            unfold mixF
            by_cases e : i = k
            · subst e
              rw [if_neg (by omega), if_pos (by omega), hr]
              exact congrArg _ (congrArg _ (if_neg h2).symm)
            · by_cases hik : i < k
              · rw [if_pos hik, if_pos (by omega)]
              · rw [if_neg hik, if_neg (by omega)]⟩
          have h2b : (r == 2) = false := by simpa using h2
          clear hr hc' B' HK hsz hlt h2
          go_wp2_with fail
          go_roundg (n - (k + 1))
          case measure => have := HLT.out; omega
          case rel => exact ⟨bel, k + 1, by go_num, by have := HLT.out; omega, rfl, HX⟩
      · obtain rfl : k = n := by omega
        obtain ⟨cur', B', hc'⟩ := HK.out
        have hr : RowI .u8 wr (.slice (some ⟨g, 0, none⟩) k c3) (rolesF2 l) := row_cells B' (by unfold rolesF2; rw [List.length_map, rolesV_len, HN.out]) (fun i r hi => by
          obtain ⟨hil, rfl⟩ := rolesF2_at hi
          rw [HN.out] at hil
          rw [hc' i hil]
          unfold mixF
          rw [if_pos hil])
        have D1 := Lib.hid (D.out _ wr bel hr)
        rw [fin.out.1, fin.out.2] at D1
        clear hr D HK hc' B'
        go_wp2_with fail
        refine D1.out.mono ?_
        rintro e2 w2 ⟨rfl, b2⟩
        go_wp2_with fail
        go_ret2
        exact ⟨rfl, bel.trans (b2.mono bel.size)⟩

set_option maxRecDepth 100000 in
set_option maxHeartbeats 2000000 in
theorem lawRoles_any (l : List Cl) (v : Value) (x : Int) (w : World) (hR : RwCl w v l) (hC : CapV v) (hx : W64 x) (ha : ∀ c ∈ l, W64 c.adv) :
    Calls Try.prog 3 #[v, .int .i64 x] w fun e w' => e = .returned (.bool true) ∧ Below w.heap.size w w' := by
  have HA := Lib.hid ha
  have HX := Lib.hid hx
  obtain ⟨A, cap, rfl⟩ := hR.form
  have hcap := (hC _ _ _ rfl).1
  obtain ⟨n, hn⟩ : ∃ n, l.length = n := ⟨_, rfl⟩
  have HN := Lib.hid hn
  rw [hn] at hR hcap ⊢
  have HR := Lib.hid hR
  have HCAP := Lib.hid hcap
  clear ha hx hn hR hC hcap
  go_enter Try.func3, Try.ntmps3
  by_cases hbig : 150 < n
  · have hz : (150 : Int) < n := by omega
    go_wp2_with fail
    refine (hdT_any _).mono ?_
    rintro e w3 ⟨rfl, b3⟩
    go_wp2_with fail
    go_ret
    exact ⟨rfl, b3⟩
  have hz2 : ¬ (150 : Int) < n := by omega
  have hlen : n ≤ 1048576 := by omega
  have hlen' : l.length ≤ 1048576 := by rw [HN.out]; exact hlen
  obtain ⟨f1, f2, hf⟩ : ∃ a b, fitsV l x = (a, b) := ⟨_, _, rfl⟩
  obtain ⟨g1, g2, hg⟩ : ∃ a b, goesV l x = (a, b) := ⟨_, _, rfl⟩
  have C1 := Lib.hid (fun W b => fits_is hf _ W (HR.out.below (w' := W) b) hlen' HX.out HA.out)
  have C2 := Lib.hid (fun W b => rfitsT_any l A cap n x W (HR.out.below (w' := W) b) HN.out HCAP.out hlen HX.out HA.out)
  have C3 := Lib.hid (fun W b => goes_is hg _ W (HR.out.below (w' := W) b) hlen' HX.out HA.out)
  have C4 := Lib.hid (fun W b => rgoes_any l A cap n x W (HR.out.below (w' := W) b) HN.out HCAP.out hlen HX.out HA.out)
  have C5 := Lib.hid (fun W b => roles_row l _ W (HR.out.below (w' := W) b) hlen')
  have C6 := Lib.hid (fun W b => rroles_any l A cap n W (HR.out.below (w' := W) b) HN.out HCAP.out hlen)
  have C7 := Lib.hid (fun W b => blank_any l _ W (HR.out.below (w' := W) b) hlen')
  have C8 := Lib.hid (fun W b => rblank_any l A cap n W (HR.out.below (w' := W) b) HN.out HCAP.out hlen)
  have CS := Lib.hid (fun u1 u2 W (a1 : RowI .u8 W u1 (rolesV l)) (a2 : RowI .u8 W u2 (rolesV l)) => sameB_is rfl u1 u2 W a1 a2 (by rw [rolesV_len]; omega))
  rw [hf] at C2
  rw [hg] at C4
  rw [HN.out] at C5
  obtain ⟨z, hz⟩ : ∃ z, blankV l = z := ⟨_, rfl⟩
  rw [hz] at C7 C8
  have hnn : ((rolesV l).length) = n := by rw [rolesV_len, HN.out]
  have HNN := Lib.hid hnn
  clear hbig hlen hlen' hf hg hz hnn
  go_wp2_with fail
  refine (C1.out _ (Below.refl _ _)).mono ?_
  rintro e w1 ⟨rfl, b1⟩
  go_wp2_with fail
  refine (C2.out _ b1).mono ?_
  rintro e w2 ⟨rfl, b2⟩
  have b2 := below_seq b1 b2
  clear b1
  go_wp2_with fail
  refine (C3.out _ b2).mono ?_
  rintro e w3 ⟨rfl, b3⟩
  have b3 := below_seq b2 b3
  clear b2
  go_wp2_with fail
  refine (C4.out _ b3).mono ?_
  rintro e w4 ⟨rfl, b4⟩
  have b4 := below_seq b3 b4
  clear b3 C1 C2 C3 C4
  go_wp2_with fail
  refine (C5.out _ b4).mono ?_
  rintro e w5 ⟨gb, rfl, S5, b5⟩
  have HS5 := Lib.hid S5
  have b5' := b5
  have b5 := below_seq b4 b5
  clear b4 S5
  go_wp2_with fail
  refine (C6.out _ b5).mono ?_
  rintro e w6 ⟨u, rfl, O6, b6⟩
  have hr6 := O6.row
  obtain ⟨A6, c6, hv⟩ := hr6.form
  rw [HNN.out] at hv
  have CS1 := Lib.hid (CS.out _ u w6 (HS5.out.below b6) hr6)
  subst hv
  have b6 := below_seq b5 b6
  clear b5 b5' hr6 O6 C5 C6 CS HS5
  go_wp2_with fail
  refine CS1.out.mono ?_
  rintro e w7 ⟨rfl, b7⟩
  have b7 := below_seq b6 b7
  clear b6 CS1
  go_wp2_with fail
  refine (C7.out _ b7).mono ?_
  rintro e w8 ⟨rfl, b8⟩
  have b8 := below_seq b7 b8
  clear b7
  go_wp2_with fail
  refine (C8.out _ b8).mono ?_
  rintro e w9 ⟨rfl, b9⟩
  have b9 := below_seq b8 b9
  clear b8 C7 C8
  have hzz : (z == z) = true := by cases z <;> rfl
  go_wp2_with fail
  refine (hdT_any _).mono ?_
  rintro e w10 ⟨rfl, b10⟩
  go_wp2_with fail
  go_ret
  exact ⟨rfl, below_seq b9 b10⟩
end Go.Proofs.Ytddihpiheopleaa.Tm
