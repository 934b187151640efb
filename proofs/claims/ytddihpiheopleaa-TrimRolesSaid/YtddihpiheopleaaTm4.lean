/- Contracts of trim.Goes, Fits and Blank. Conditions: the slice reads as the row, at most 1048576 cells; numbers are int64. -/
import Derived.Test.YtddihpiheopleaaTm3
import Derived.Test.YtddihpiheopleaaTmLawM
import Derived.Test.YtddihpiheopleaaTaHead
namespace Go.Proofs.Ytddihpiheopleaa.Tm
open Go.ChangeShapes Go.WideShapes Go.ChangeAt Go.RowKit Go.Shelf
open Ce
open Ta (W64 pens)

theorem row_blk {k : IntKind} {w : World} {g n : Nat} {t : TypeId} {cs : Array Value} {l : List Int} (B : Blk w g t cs) (hc : l.map (Value.int k) = cs.toList) (hn : l.length = n) : RowI k w (.slice (some ⟨g, 0, none⟩) n n) l := by
  subst hn
  refine .inr ⟨⟨g, 0, none⟩, l.length, by rw [List.length_map], .inr ⟨B.lt, id⟩, fun j u hj => ?_⟩
  have e : (⟨g, 0, none⟩ : Addr).add j = ⟨g, j, none⟩ := by simp [Addr.add]; exact fun h => h.symm
  rw [e, B.cell j]
  rw [hc] at hj
  simpa using hj
set_option maxRecDepth 100000 in
set_option maxHeartbeats 1000000 in
theorem goes_any (l : List Cl) (v : Value) (x : Int) (w : World) (hR : RwCl w v l) (hlen : l.length ≤ 1048576) (hx : W64 x) (ha : ∀ c ∈ l, W64 c.adv) :
    Calls Try.prog 10 #[v, .int .i64 x] w fun e w' => e = .returned (.tuple #[.int .i64 (goesV l x).1, .int .i64 (goesV l x).2]) ∧ Below w.heap.size w w' := by
  have C := Lib.hid (roles_any l v w hR hlen)
  have HR := Lib.hid hR
  have D := Lib.hid (fun vr W (b : Below w.heap.size w W) hr => Ta.end_any l (rolesV l) x v vr W (hR.below b) hr hlen hx ha)
  have HL := Lib.hid hlen
  obtain ⟨A, cap, rfl⟩ := hR.form
  obtain ⟨z, e, hz⟩ : ∃ z e, goesV l x = (z, e) := ⟨_, _, rfl⟩
  have HZ := Lib.hid hz
  rw [hz]
  obtain ⟨n, hn⟩ : ∃ n, l.length = n := ⟨_, rfl⟩
  have HN := Lib.hid hn
  rw [hn] at C ⊢
  clear hR hlen hx ha hz hn HR
  go_enter Try.func10, Try.ntmps10
  go_wp2_with fail
  refine C.out.mono ?_
  rintro e1 w1 ⟨g, rfl, hg, B, b1⟩
  have hr := row_blk B (rolesV_map' l HN.out) ((rolesV_len l).trans HN.out)
  have D1 := Lib.hid (D.out _ w1 b1 hr)
  rw [HN.out] at D1
  clear C D hr B
  go_wp2_with fail
  refine D1.out.mono ?_
  rintro e2 w2 ⟨rfl, b2⟩
  have h1 : (goesV l x).1 = z := by rw [HZ.out]
  have h2 : (goesV l x).2 = e := by rw [HZ.out]
  unfold goesV endV at h1 h2
  dsimp only at h1 h2
  rw [h1, h2]
  clear h1 h2
  go_wp2_with fail
  go_ret2
  exact ⟨rfl, below_seq b1 b2⟩

def mixF (F : Nat → Int) (k i : Nat) : Int := if i < k then fitR (F i) else F i
theorem mixF_set {n k : Nat} {F : Nat → Int} (h : F k = 2) : rolA n (mixF F (k + 1)) = (rolA n (mixF F k)).setIfInBounds k (.int .u8 1) := by
  rw [rolA_set]
  refine rolA_congr fun i _ => ?_
  unfold mixF
  by_cases e : i = k
  · subst e
    rw [if_pos (by omega), if_pos rfl, h]
    rfl
  · rw [if_neg e]
    by_cases hi : i < k
    · rw [if_pos hi, if_pos (by omega)]
    · rw [if_neg hi, if_neg (by omega)]
theorem mixF_keep {n k : Nat} {F : Nat → Int} (h : F k ≠ 2) : rolA n (mixF F (k + 1)) = rolA n (mixF F k) := rolA_congr fun i _ => by
  unfold mixF
  by_cases e : i = k
  · subst e
    rw [if_pos (by omega), if_neg (by omega)]
    exact if_neg h
  · by_cases hi : i < k
    · rw [if_pos hi, if_pos (by omega)]
    · rw [if_neg hi, if_neg (by omega)]
theorem rolesF2_map (l : List Cl) (n : Nat) (hn : l.length = n) : (rolesF2 l).map (Value.int .u8) = (rolA n (mixF (rol3 l) n)).toList := by
  subst hn
  have e : rolesV l = (List.range l.length).map (rol3 l) := by
    apply List.ext_getElem?
    intro i
    rw [List.getElem?_map]
    by_cases hi : i < l.length
    · obtain ⟨c, hc⟩ : ∃ c, l[i]? = some c := ⟨_, List.getElem?_eq_getElem hi⟩
      rw [rolesV_at hc, List.getElem?_range hi, ← rol3_is hc]
      rfl
    · rw [List.getElem?_eq_none (by rw [rolesV_len]; omega), List.getElem?_eq_none (by simp; omega)]
      rfl
  have e2 : rolA l.length (mixF (rol3 l) l.length) = rolA l.length (fun i => fitR (rol3 l i)) := rolA_congr fun i hi => if_pos hi
  rw [e2]
  unfold rolesF2 rolA rowV
  rw [e]
  simp

set_option maxRecDepth 100000 in
set_option maxHeartbeats 1000000 in
theorem fits_any (l : List Cl) (v : Value) (x : Int) (w : World) (hR : RwCl w v l) (hlen : l.length ≤ 1048576) (hx : W64 x) (ha : ∀ c ∈ l, W64 c.adv) :
    Calls Try.prog 8 #[v, .int .i64 x] w fun e w' => e = .returned (.tuple #[.int .i64 (fitsV l x).1, .int .i64 (fitsV l x).2]) ∧ Below w.heap.size w w' := by
  have C := Lib.hid (roles_any l v w hR hlen)
  have D := Lib.hid (fun vr W (b : Below w.heap.size w W) hr => Ta.end_any l (rolesF2 l) x v vr W (hR.below b) hr hlen hx ha)
  obtain ⟨A, cap, rfl⟩ := hR.form
  obtain ⟨z, e, hz⟩ : ∃ z e, fitsV l x = (z, e) := ⟨_, _, rfl⟩
  have HZ := Lib.hid hz
  rw [hz]
  obtain ⟨n, hn⟩ : ∃ n, l.length = n := ⟨_, rfl⟩
  have HN := Lib.hid hn
  rw [hn] at C hlen ⊢
  clear hR hx ha hz hn
  go_enter Try.func8, Try.ntmps8
  go_wp2_with fail
  refine C.out.mono ?_
  rintro e1 w1 ⟨g, rfl, hg, B, b1⟩
  have HB := Lib.hid B
  clear C B
  go_wp2_with fail
  go_loopg [13] n (fun kx s13 wr => ∃ k : Nat, s13 = .int .i64 k ∧ k ≤ n ∧ kx = n - k ∧ Below w.heap.size w wr ∧ Hid (Blk wr g 5 (rolA n (mixF (rol3 l) k))))
  case atStart => exact ⟨0, rfl, by omega, rfl, b1, Lib.hid (by rw [show rolA n (mixF (rol3 l) 0) = rolA n (rol3 l) from rolA_congr fun i _ => if_neg (by omega)]; exact HB.out)⟩
  case round =>
    obtain ⟨k, rfl, hk, rfl, bel, HK⟩ := hrel
    by_cases hlt : k < n
    · have hz : (k : Int) < n := by omega
      have hcell := (HK.out.cell k).trans (rowV_get (f := fun i => Value.int .u8 (mixF (rol3 l) k i)) hlt)
      rw [show mixF (rol3 l) k k = rol3 l k from if_neg (by omega)] at hcell
      have hfr := HK.out.frozen k
      obtain ⟨r, hr⟩ : ∃ r, rol3 l k = r := ⟨_, rfl⟩
      rw [hr] at hcell
      have HRR := Lib.hid hr
      clear hr
      by_cases h2 : r = 2
      · subst h2
        go_wp2_with fail
        go_roundg (n - (k + 1))
        case measure => omega
        case rel => exact ⟨k + 1, by go_num, by omega, rfl, bel.setCell (by exact hg) _, Lib.hid (by rw [mixF_set HRR.out]; exact HK.out.set_ k _)⟩
      · go_wp2_with fail
        go_roundg (n - (k + 1))
        case measure => omega
        case rel => exact ⟨k + 1, by go_num, by omega, rfl, bel, Lib.hid (by rw [mixF_keep (by rw [HRR.out]; exact h2)]; exact HK.out)⟩
    · obtain rfl : k = n := by omega
      have hr := row_blk HK.out (rolesF2_map l k HN.out) (by unfold rolesF2; rw [List.length_map, rolesV_len, HN.out])
      have D1 := Lib.hid (D.out _ wr bel hr)
      rw [HN.out] at D1
      clear hr D HK
      go_wp2_with fail
      refine D1.out.mono ?_
      rintro e2 w2 ⟨rfl, b2⟩
      have h1 : (fitsV l x).1 = z := by rw [HZ.out]
      have h2 : (fitsV l x).2 = e := by rw [HZ.out]
      unfold fitsV endV at h1 h2
      dsimp only at h1 h2
      rw [h1, h2]
      clear h1 h2
      go_wp2_with fail
      go_ret2
      exact ⟨rfl, bel.trans (b2.mono bel.size)⟩

set_option maxRecDepth 100000 in
set_option maxHeartbeats 1000000 in
theorem blank_any (l : List Cl) (v : Value) (w : World) (hR : RwCl w v l) (hlen : l.length ≤ 1048576) :
    Calls Try.prog 15 #[v] w fun e w' => e = .returned (.bool (blankV l)) ∧ Below w.heap.size w w' := by
  have C := Lib.hid (roles_any l v w hR hlen)
  have HR := Lib.hid hR
  obtain ⟨A, cap, rfl⟩ := hR.form
  obtain ⟨z, hz⟩ : ∃ z, blankV l = z := ⟨_, rfl⟩
  have HZ := Lib.hid hz
  rw [hz]
  obtain ⟨n, hn⟩ : ∃ n, l.length = n := ⟨_, rfl⟩
  have HN := Lib.hid hn
  rw [hn] at C HR hlen ⊢
  clear hR hz hn
  go_enter Try.func15, Try.ntmps15
  go_wp2_with fail
  refine C.out.mono ?_
  rintro e1 w1 ⟨g, rfl, hg, B, b1⟩
  have HB := Lib.hid B
  have HB1 := Lib.hid b1
  clear C B
  go_wp2_with fail
  go_loopg [8] n (fun kx s8 wr => ∃ k : Nat, s8 = .int .i64 k ∧ k ≤ n ∧ kx = n - k ∧ Below w1.heap.size w1 wr ∧ Hid (∀ i, i < k → (decide (rol3 l i = 1) || (decide (kAt l i = 7) || (decide (kAt l i = 8) || decide (kAt l i = 5)))) = true))
  case atStart => exact ⟨0, rfl, by omega, rfl, Below.refl _ _, Lib.hid (fun i hi => by omega)⟩
  case round =>
    obtain ⟨k, rfl, hk, rfl, bel, HK⟩ := hrel
    by_cases hlt : k < n
    · have hz : (k : Int) < n := by omega
      have hBk := HB.out.keep (S := fun _ => False) (Mod.of_below bel) id
      have hcell := (hBk.cell k).trans (rowV_get (f := fun i => Value.int .u8 (rol3 l i)) hlt)
      obtain ⟨c, hc⟩ : ∃ c, l[k]? = some c := ⟨_, List.getElem?_eq_getElem (by rw [HN.out]; exact hlt)⟩
      obtain ⟨ad, cap2, o, hv, hab, hadr, hL⟩ := (HR.out.below (below_seq HB1.out bel)).get (Below.refl _ _) hc
      rw [HN.out] at hv
      injection hv with hv1 hv2 hv3
      subst hv1 hv3
      have c5 : wr.cell? ⟨ad.block, o, none⟩ = some (.int .u8 c.k) := by have := hL 0 _ rfl; rwa [Addr.add_lit] at this
      have hkc := kAt_of hc
      obtain ⟨ck, hck⟩ : ∃ q, c.k = q := ⟨_, rfl⟩
      rw [hck] at hkc c5
      have HKC := Lib.hid hkc
      have CE := Lib.hid (fun W => edge_any ck W)
      obtain ⟨eg, heg⟩ : ∃ b, (decide (ck = 7) || (decide (ck = 8) || decide (ck = 5))) = b := ⟨_, rfl⟩
      rw [heg] at CE
      have HEG := Lib.hid heg
      obtain ⟨r, hr⟩ : ∃ r, rol3 l k = r := ⟨_, rfl⟩
      rw [hr] at hcell
      have HRR := Lib.hid hr
      have HLT := Lib.hid hlt
      clear hr heg hkc hck hL hv2 hc hBk hlt
      by_cases h1 : r = 1
      · subst h1
        go_wp2_with fail
        go_roundg (n - (k + 1))
        case measure => have := HLT.out; omega
        case rel => exact ⟨k + 1, by go_num, by have := HLT.out; omega, rfl, bel, Lib.hid fun i hi => by
          rcases Nat.lt_or_ge i k with h | h
          · exact HK.out i h
          · obtain rfl : i = k := by omega
            rw [HRR.out]; rfl⟩
      · have h1b : (r != 1) = true := by simpa using h1
        have H1 := Lib.hid h1
        clear h1
        cases eg with
        | true =>
          go_wp2_with fail
          refine (CE.out _).mono ?_
          rintro e3 w3 ⟨rfl, rfl⟩
          go_wp2_with fail
          go_roundg (n - (k + 1))
          case measure => have := HLT.out; omega
          case rel => exact ⟨k + 1, by go_num, by have := HLT.out; omega, rfl, bel, Lib.hid fun i hi => by
            rcases Nat.lt_or_ge i k with h | h
            · exact HK.out i h
            · obtain rfl : i = k := by omega
              rw [HKC.out, HEG.out, Bool.or_true]⟩
        | false =>
          go_wp2_with fail
          refine (CE.out _).mono ?_
          rintro e3 w3 ⟨rfl, rfl⟩
          go_wp2_with fail
          go_ret
          refine ⟨retb ?_, below_seq HB1.out bel⟩
          rw [← HZ.out]
          unfold blankV
          refine (Bool.eq_false_iff.2 fun h => ?_).symm
          have := List.all_eq_true.1 h k (List.mem_range.2 (by rw [HN.out]; exact HLT.out))
          rw [HKC.out, HEG.out, HRR.out, decide_eq_false H1.out] at this
          cases this
    · obtain rfl : k = n := by omega
      go_wp2_with fail
      go_ret
      refine ⟨retb ?_, below_seq HB1.out bel⟩
      rw [← HZ.out]
      unfold blankV
      refine (List.all_eq_true.2 fun i hi => ?_).symm
      exact HK.out i (by rw [← HN.out]; exact List.mem_range.1 hi)
end Go.Proofs.Ytddihpiheopleaa.Tm
