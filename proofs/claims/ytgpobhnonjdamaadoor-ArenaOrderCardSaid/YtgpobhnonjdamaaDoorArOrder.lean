/- The walk of ArenaOrder. Conditions: the nodes lie where the slice says, their numbers fit their kinds; the tables lie as the program's text lays them. -/
import Derived.Test.YtgpobhnonjdamaaDoorArGood
namespace Go.Proofs.YtgpobhnonjdamaaDoor
open Go.ChangeShapes Go.WideShapes Go.ChangeAt Go.RowKit

set_option maxRecDepth 100000 in
set_option maxHeartbeats 16000000 in
theorem aorder_any (l : List Nod) (v : Value) (z y : Int) (w : World) (hR : Ns w v l) (hW : WfL l) (hlen : l.length ≤ 9223372036854775807) (hTab : Tab w) :
    Calls Tryd.prog 5 #[v, .int .i64 z, .int .i64 y] w fun e w' => e = .returned (.bool true) ∧ Below w.heap.size w w' := by
  have hTp := hTab.pos
  have CH : Hid (∀ W, Below w.heap.size w W → Calls Tryd.prog 9 #[] W fun e w' => e = .returned (.bool true) ∧ Below W.heap.size W w') := Lib.hid fun W b => head_any W (hTab.below hTp b)
  have CG := Lib.hid (great_any l v w hR hlen)
  have CN := Lib.hid (anew_any l v w hR hW hTab)
  have HTB := Lib.hid hTab
  have HR := Lib.hid hR
  have HW := Lib.hid hW
  obtain ⟨A, cap, rfl⟩ := hR.form
  obtain ⟨n, hl⟩ : ∃ n, l.length = n := ⟨_, rfl⟩
  have HL := Lib.hid hl
  rw [hl] at hlen CG CN HR ⊢
  clear hR hW hTab hl
  go_enter Tryd.func5, Tryd.ntmps5
  go_wp2_with fail
  refine CG.out.mono ?_
  rintro e w0 ⟨b, rfl, _, rfl⟩
  have b0 := Below.refl w.heap.size w
  cases b
  rotate_left
  · clear CG CN HTB
    go_wp2_with fail
    refine (CH.out _ b0).mono ?_
    rintro e wh ⟨rfl, bh⟩
    go_wp2_with fail
    go_ret
    exact ⟨rfl, below_seq b0 bh⟩
  by_cases h0 : 60 < n
  · have h0z : (60 : Int) < n := by omega
    clear CG CN HTB
    go_wp2_with fail
    refine (CH.out _ b0).mono ?_
    rintro e wh ⟨rfl, bh⟩
    go_wp2_with fail
    go_ret
    exact ⟨rfl, below_seq b0 bh⟩
  have h0z : (n : Int) ≤ 60 := by omega
  by_cases h1 : z < 0
  · clear CG CN HTB
    go_wp2_with fail
    refine (CH.out _ b0).mono ?_
    rintro e wh ⟨rfl, bh⟩
    go_wp2_with fail
    go_ret
    exact ⟨rfl, below_seq b0 bh⟩
  by_cases h2 : y < 0
  · clear CG CN HTB
    go_wp2_with fail
    refine (CH.out _ b0).mono ?_
    rintro e wh ⟨rfl, bh⟩
    go_wp2_with fail
    go_ret
    exact ⟨rfl, below_seq b0 bh⟩
  by_cases h3 : (n : Int) ≤ z
  · clear CG CN HTB
    go_wp2_with fail
    refine (CH.out _ b0).mono ?_
    rintro e wh ⟨rfl, bh⟩
    go_wp2_with fail
    go_ret
    exact ⟨rfl, below_seq b0 bh⟩
  by_cases h4 : (n : Int) ≤ y
  · clear CG CN HTB
    go_wp2_with fail
    refine (CH.out _ b0).mono ?_
    rintro e wh ⟨rfl, bh⟩
    go_wp2_with fail
    go_ret
    exact ⟨rfl, below_seq b0 bh⟩
  obtain ⟨k, rfl⟩ : ∃ k : Nat, z = k := ⟨z.toNat, by omega⟩
  obtain ⟨q, rfl⟩ : ∃ q : Nat, y = q := ⟨y.toNat, by omega⟩
  have hkn : k < n := by omega
  have hqn : q < n := by omega
  go_wp2_with fail
  refine CN.out.mono ?_
  rintro e w1 (⟨hg, p, rfl, hTr, b1⟩ | ⟨hne, rfl, b1⟩)
  rotate_left
  · obtain ⟨q, hq⟩ : ∃ q, chkT l = q := ⟨_, rfl⟩
    rw [hq] at hne ⊢
    clear hq
    go_wp2_with fail
    refine (CH.out _ b1).mono ?_
    rintro e wh ⟨rfl, bh⟩
    go_wp2_with fail
    go_ret
    exact ⟨rfl, below_seq b1 bh⟩
  have hG := (good_iff l).1 hg
  have hT := hG.tre
  have hk8 := hG.k8 HW.out
  obtain ⟨g, rfl⟩ : ∃ g, p = .pointer (some ⟨g, 0, none⟩) := by obtain ⟨g, _, _, _, _, h, _⟩ := hTr; exact ⟨g, h⟩
  have T1 := HTB.out.below hTp b1
  have hR1 := HR.out.below b1
  have hpos := hG.pos
  rw [HL.out] at hpos
  have hkl : k < l.length := by rw [HL.out]; exact hkn
  have hql : q < l.length := by rw [HL.out]; exact hqn
  have hl60 : l.length ≤ 60 := by rw [HL.out]; omega
  have D1 := Lib.hid fun W (b : Below w1.heap.size w1 W) => acommon_any _ l k q W (hTr.below b) hT hkl hql
  have D2 := Lib.hid fun W (b : Below w1.heap.size w1 W) => acommon_any _ l q k W (hTr.below b) hT hql hkl
  have AB : Hid (∀ W (a b : Nat) (B : Bool), Below w1.heap.size w1 W → b < l.length → (B = true ↔ Abv (psOf l) a b) → Calls Tryd.prog 29 #[.slice A n cap, .int .i64 (a : Int), .int .i64 (b : Int)] W fun e w' => e = .returned (.bool B) ∧ Below W.heap.size W w') := Lib.hid fun W a b B hb hbl hB => (rabove_any l _ a b B W (hR1.below hb) hT (by omega) hbl hB).mono fun e w' ⟨he, hw⟩ => ⟨he, hw ▸ Below.refl _ _⟩
  have KD : Hid (∀ W (a : Nat), Below w1.heap.size w1 W → a < l.length → Calls Tryd.prog 14 #[.pointer (some ⟨g, 0, none⟩), .int .i64 (a : Int)] W fun e w' => ∃ u, e = .returned (.tuple #[u, .int .i64 0]) ∧ Row (fun _ => False) w' u ((kidsL (psOf l) a).map iv) ∧ Below W.heap.size W w') := Lib.hid fun W a b ha => akids_any _ l a W (hTr.below b) hT ha (by omega)
  have EN : Hid (∀ W (a e : Nat), Below w1.heap.size w1 W → a < l.length → EndOf (psOf l) a e → Calls Tryd.prog 13 #[.pointer (some ⟨g, 0, none⟩), .int .i64 (a : Int)] W fun e' w' => e' = .returned (.tuple #[.int .i64 (e : Int), .int .i64 0]) ∧ Below W.heap.size W w') := Lib.hid fun W a e b ha hE => (aend_any _ l a e W (hTr.below b) ha hE).mono fun e w' ⟨he, hw⟩ => ⟨he, hw ▸ Below.refl _ _⟩
  have HTT2 := Lib.hid hT
  have HKL := Lib.hid hkl
  have HQL := Lib.hid hql
  have HLE : Hid (l.length ≤ 60) := Lib.hid hl60
  clear CG CN HTB hTr T1 hR1 hk8 hG hg HW hkl hql hl60 hT h1 h2 h3 h4 hpos
  go_wp2_with fail
  refine (D1.out _ (Below.refl _ _)).mono ?_
  rintro e w2 ⟨c, rfl, hc, b2⟩
  have HC := Lib.hid hc
  clear hc
  go_wp2_with fail
  refine (D2.out _ b2).mono ?_
  rintro e w3 ⟨c', rfl, hc, b3⟩
  obtain rfl := HC.out.symm.uniq HTT2.out hc
  have b13 := below_seq b2 b3
  clear hc D1 D2 b2 b3
  have hcl : c < l.length := Nat.lt_of_le_of_lt (HC.out.left.le HTT2.out) HKL.out
  have HCL := Lib.hid hcl
  clear hcl
  go_wp2_with fail
  refine (AB.out _ c k true b13 HKL.out ⟨fun _ => HC.out.left, fun _ => rfl⟩).mono ?_
  rintro e w4 ⟨rfl, b4⟩
  have b14 := below_seq b13 b4
  go_wp2_with fail
  refine (AB.out _ c q true b14 HQL.out ⟨fun _ => HC.out.right, fun _ => rfl⟩).mono ?_
  rintro e w5 ⟨rfl, b5⟩
  have b15 := below_seq b14 b5
  clear b13 b14 b4 b5
  go_wp2_with fail
  refine (KD.out _ c b15 HCL.out).mono ?_
  rintro e w6 ⟨u, rfl, hu, b6⟩
  have b16 := below_seq b15 b6
  obtain ⟨ce, hE⟩ := EndOf.exists_ (ps := psOf l) c (by rw [psOf_len]; exact HCL.out)
  have HE := Lib.hid hE
  have hch := kids_chain HTT2.out hE
  have HPR : Hid (∀ k' ∈ kidsL (psOf l) c, k' < l.length ∧ pr (psOf l) k' = (c : Int)) := Lib.hid fun k' hk => by
    have := mem_kids hk
    rw [psOf_len] at this
    exact this
  have hkl2 : (kidsL (psOf l) c).length ≤ 60 := Nat.le_trans (kidsL_len _ _) (by rw [psOf_len]; exact HLE.out)
  have hc60 : c ≤ 60 := by have := HCL.out; have := HLE.out; omega
  obtain ⟨ks, hks⟩ : ∃ ks, kidsL (psOf l) c = ks := ⟨_, rfl⟩
  rw [hks] at hu hch HPR hkl2
  have HU := Lib.hid hu
  obtain ⟨B, cap2, rfl⟩ := hu.form
  rw [List.length_map] at HU ⊢
  obtain ⟨m, hm⟩ : ∃ m, ks.length = m := ⟨_, rfl⟩
  have HM := Lib.hid hm
  rw [hm] at hkl2 HU ⊢
  have HCH := Lib.hid hch
  clear hu hch hks hm hE KD b15 b6
  go_wp2_with fail
  go_loopg [15, 16] m (fun kx s15 s16 wr => ∃ (i at_ : Nat), s16 = .int .i64 i ∧ s15 = .int .i64 at_ ∧ i ≤ m ∧ at_ ≤ 61 ∧ kx = m - i ∧ Below w6.heap.size w6 wr ∧ Hid (Chn (psOf l) ce at_ (ks.drop i)))
  case atStart => exact ⟨0, c + 1, rfl, by go_num, by omega, by omega, rfl, Below.refl _ _, HCH⟩
  case round =>
    obtain ⟨i, at_, rfl, rfl, hi, ha61, rfl, bel, HCN⟩ := hrel
    clear HCH
    by_cases hlt : i < m
    · have hiz : (i : Int) < m := by omega
      have hil : i < ks.length := by rw [HM.out]; exact hlt
      obtain ⟨k', hk'⟩ : ∃ k', ks[i]? = some k' := ⟨_, List.getElem?_eq_getElem hil⟩
      have hd : ks.drop i = k' :: ks.drop (i + 1) := by
        rw [List.drop_eq_getElem_cons hil]
        congr 1
        have := List.getElem?_eq_getElem hil
        rw [hk'] at this
        exact (Option.some.inj this).symm
      have hcn := HCN.out
      rw [hd] at hcn
      obtain ⟨rfl, f, hEk, hrest⟩ : k' = at_ ∧ ∃ f, EndOf (psOf l) at_ f ∧ Chn (psOf l) ce f (ks.drop (i + 1)) := by
        cases hcn with
        | cons h1 h2 => exact ⟨rfl, _, h1, h2⟩
      obtain ⟨ad, cap3, hv, hab, _, hcell⟩ := HU.out.at_ (by rw [List.length_map]; omega)
      rw [List.length_map, HM.out] at hv
      injection hv with hv1 hv2 hv3
      subst hv1 hv3
      have hc0 : w6.cell? (ad.add i) = some (iv k') := hcell i _ (by rw [List.getElem?_map, hk']; rfl)
      have hcw : ∀ W', Below wr.heap.size wr W' → W'.cell? (ad.add i) = some (.int .i64 (k' : Int)) := fun W' h => ((below_seq bel h).cell (by rw [block_of_add]; exact hab)).trans hc0
      have HCW := Lib.hid hcw
      have hcr := hcw wr (Below.refl _ _)
      obtain ⟨hk1, hk2⟩ := HPR.out k' (List.mem_of_getElem? hk')
      have HK1 := Lib.hid hk1
      have hlt2 := (HTT2.out.lt k' (by rw [hk2]; omega)).1
      rw [hk2, Int.toNat_natCast] at hlt2
      have HNO : Hid (Abv (psOf l) k' k → Abv (psOf l) k' q → False) := Lib.hid fun h1 h2 => by
        have := (HC.out.near k' h1 h2).le HTT2.out
        omega
      have hf61 : f ≤ 61 := by
        have := hEk.le
        rw [psOf_len] at this
        have := HLE.out
        omega
      have HEK := Lib.hid hEk
      have HRS := Lib.hid hrest
      have b1r := below_seq b16 bel
      clear hv2 hcell hc0 hcw hd hk' hil hEk hrest hk1 hk2 HCN
      by_cases hB1 : Abv (psOf l) k' k
      · have hB2 : ¬ Abv (psOf l) k' q := fun h => HNO.out hB1 h
        have HB1 := Lib.hid hB1
        have HB2 := Lib.hid hB2
        clear hB1 hB2
        go_wp2_with fail
        refine (AB.out _ k' k true b1r HKL.out ⟨fun _ => HB1.out, fun _ => rfl⟩).mono ?_
        rintro e w7 ⟨rfl, b7⟩
        have hc7 := HCW.out w7 b7
        go_wp2_with fail
        refine (AB.out _ k' q false (below_seq b1r b7) HQL.out ⟨fun h => (by cases h), fun h => absurd h HB2.out⟩).mono ?_
        rintro e w8 ⟨rfl, b8⟩
        have b78 := below_seq b7 b8
        have hc8 := HCW.out w8 b78
        clear hc7 hcr
        go_wp2_with fail
        refine (EN.out _ k' f (below_seq b1r b78) HK1.out HEK.out).mono ?_
        rintro e w9 ⟨rfl, b9⟩
        go_wp2_with fail
        go_roundg (m - (i + 1))
        case measure => omega
        case rel => exact ⟨i + 1, f, by go_num, rfl, by omega, hf61, rfl, below_seq bel (below_seq b78 b9), HRS⟩
      · have HB1 := Lib.hid hB1
        clear hB1
        go_wp2_with fail
        refine (AB.out _ k' k false b1r HKL.out ⟨fun h => (by cases h), fun h => absurd h HB1.out⟩).mono ?_
        rintro e w8 ⟨rfl, b78⟩
        have hc8 := HCW.out w8 b78
        clear hcr
        go_wp2_with fail
        refine (EN.out _ k' f (below_seq b1r b78) HK1.out HEK.out).mono ?_
        rintro e w9 ⟨rfl, b9⟩
        go_wp2_with fail
        go_roundg (m - (i + 1))
        case measure => omega
        case rel => exact ⟨i + 1, f, by go_num, rfl, by omega, hf61, rfl, below_seq bel (below_seq b78 b9), HRS⟩
    · obtain rfl : i = m := by omega
      have he : at_ = ce := by
        have hcn := HCN.out
        rw [List.drop_of_length_le (by rw [HM.out]; exact Nat.le_refl _)] at hcn
        cases hcn
        rfl
      subst he
      have b1r := below_seq b16 bel
      have b0r := below_seq b1 b1r
      clear HCN
      go_wp2_with fail
      refine (EN.out _ c at_ b1r HCL.out HE.out).mono ?_
      rintro e w9 ⟨rfl, b9⟩
      have b09 := below_seq b0r b9
      go_wp2_with fail
      refine (CH.out _ b09).mono ?_
      rintro e wh ⟨rfl, bh⟩
      go_wp2_with fail
      go_ret
      exact ⟨rfl, below_seq b09 bh⟩
end Go.Proofs.YtgpobhnonjdamaaDoor
