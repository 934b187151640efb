/- The walk of WhiteAgain: for every list and every row of styles the law returns true. Conditions: the lists lie where the slices say; class's table lies in memory. -/
import Derived.Test.YtejcfhfmdijimaaDoorWhG
namespace Go.Proofs.YtejcfhfmdijimaaDoor
open Go.ChangeShapes Go.WideShapes Go.ChangeAt Go.RowKit Go.Shelf
open Wh

/-- the first k turned -/
def mtg {α : Type} (t : α → α) (l : List α) (k : Nat) : List α := (l.take k).map t ++ l.drop k
theorem mtg_zero {α : Type} (t : α → α) (l : List α) : mtg t l 0 = l := rfl
theorem mtg_all {α : Type} (t : α → α) (l : List α) : mtg t l l.length = l.map t := by simp [mtg]
theorem mtg_len {α : Type} (t : α → α) (l : List α) (k : Nat) : (mtg t l k).length = l.length := by
  simp [mtg]
  omega
theorem mtg_at {α : Type} {t : α → α} {l : List α} {k : Nat} {c : α} (h : l[k]? = some c) : (mtg t l k)[k]? = some c := by
  have hk := (List.getElem?_eq_some_iff.1 h).1
  unfold mtg
  have e : ((l.take k).map t).length = k := by simp; omega
  rw [List.getElem?_append_right (by omega), e, Nat.sub_self, List.getElem?_drop, Nat.add_zero, h]
theorem mtg_succ {α : Type} {t : α → α} {l : List α} {k : Nat} {c : α} (h : l[k]? = some c) : mtg t l (k + 1) = (mtg t l k).set k (t c) := by
  have hk := (List.getElem?_eq_some_iff.1 h).1
  unfold mtg
  have e : ((l.take k).map t).length = k := by simp; omega
  rw [show l.take (k + 1) = l.take k ++ [c] by rw [List.take_add_one, h]; rfl, List.map_append, List.set_append_right _ _ (by omega), e, Nat.sub_self, drop_at h, List.set_cons_zero]
  simp
theorem mtg_same {α : Type} {t : α → α} {l : List α} {k : Nat} {c : α} (h : l[k]? = some c) (e : t c = c) : mtg t l (k + 1) = mtg t l k := by
  rw [mtg_succ h, e]
  apply List.ext_getElem?
  intro i
  by_cases hi : i = k
  · subst hi
    rw [List.getElem?_set_self (by rw [mtg_len]; exact (List.getElem?_eq_some_iff.1 h).1), mtg_at h]
  · rw [List.getElem?_set_ne (Ne.symm hi)]
theorem chgC {base g cap : Nat} {cur : Array Value} {l : List Cr} {W : World} {k : Nat} {c y : Cr} {v : Value} (h : OwnAtC base g cap cur l W) (hk : l[k]? = some c) (hy : (chA c).toList.set 4 v = (chA y).toList) :
    OwC base (W.setCell ⟨g, k * 5 + 4, none⟩ v) (.slice (some ⟨g, 0, none⟩) l.length cap) (l.set k y) := by
  have B := h.hB.set_ (k * 5 + 4) v
  rw [set_has (h.has hk) (by simp [chA]), hy] at B
  have := (h.set_ hk B).ow
  rwa [List.length_set] at this
theorem again_no {c : Cr} (h : c.kind = 6 ∨ c.kind = 5 ∧ c.r ≠ 10) : again c = c := by
  unfold again
  rw [if_neg]
  rintro ⟨h1, h2⟩
  rcases h with h | ⟨h, h3⟩
  · exact h1 h
  · rcases h2 with h2 | h2
    · exact h2 h
    · exact h3 h2
theorem again_yes {c : Cr} (h : c.kind ≠ 6 ∧ (c.kind ≠ 5 ∨ c.r = 10)) : again c = { c with kind := 0 } := by
  unfold again
  rw [if_pos h]
theorem may_again {ss : List Sty} {l : List Cr} {D : Int → Bool} (h : mayB ss l = true) : mayB ss ((collapse (whF ss) D l).map again) = true := by
  refine List.all_eq_true.2 fun c hc => ?_
  obtain ⟨d, hd, rfl⟩ := List.mem_map.1 hc
  have hN := collapse_nodes (W := whF ss) (D := D) (l := l) (N := fun z => ∃ (j : Nat) (s : Sty), z = j ∧ ss[j]? = some s ∧ whF ss z = s.a0 ∧ s.a0 ≤ 5) (fun c hc => (okC_split.1 (List.all_eq_true.1 h c hc)).2) d hd
  refine okC_split.2 ⟨?_, ?_⟩
  · rcases again_kind d with e | e | e <;> rw [e] <;> rfl
  · rw [again_node]
    exact hN
theorem may_kinds {ss : List Sty} {l : List Cr} (h : mayB ss l = true) : ∀ c ∈ l, c.kind = 0 ∨ c.kind = 5 ∨ c.kind = 6 := fun c hc => by
  have := (okC_split.1 (List.all_eq_true.1 h c hc)).1
  simp only [Bool.or_eq_true, decide_eq_true_eq] at this
  omega
theorem made_no {l : List Cr} (h : madeB l = false) : ∀ c ∈ l, c.kind = 5 → c.r ≠ 10 := fun c hc h5 hr => by
  have := List.any_eq_false.1 h c hc
  rw [h5, hr] at this
  exact this rfl

set_option maxRecDepth 100000 in
set_option maxHeartbeats 16000000 in
theorem wagain_any (l : List Cr) (v : Value) (ss : List Sty) (sv : Value) (w : World) (hR : RwC w v l) (hS : Ss w sv ss) (hT : Tab w) :
    Calls Tryd.prog 6 #[v, sv] w fun e w' => e = .returned (.bool true) ∧ Below w.heap.size w w' := by
  have HT := Lib.hid hT
  have H1 := Lib.hid hR
  have HS := Lib.hid hS
  have HD : Hid (∀ W, Below w.heap.size w W → Calls Tryd.prog 9 #[] W fun e w' => e = .returned (.bool true) ∧ Below w.heap.size w w') := Lib.hid fun W b => (whead_any W (HT.out.below b)).mono fun e w' h => ⟨h.1, b.trans (h.2.mono b.size)⟩
  obtain ⟨A1, c1, hv1⟩ := hR.form
  obtain ⟨A3, c3, hv3⟩ := Ss.form hS
  have G1 := Lib.hid (wgreat_any A1 A3 l.length c1 ss.length c3 w)
  obtain ⟨g1, hg1⟩ : ∃ b, greatB l.length ss.length = b := ⟨_, rfl⟩
  rw [hg1] at G1
  have HG1 := Lib.hid hg1
  rw [← hv1, ← hv3] at G1
  clear hT hR hS hg1 hv1 hv3
  go_enter Tryd.func6, Tryd.ntmps6
  go_wp2_with fail
  refine G1.out.mono ?_
  rintro e w1 ⟨rfl, rfl⟩
  cases g1 with
  | true =>
    go_wp2_with fail
    refine (HD.out _ (Below.refl _ _)).mono ?_
    rintro e w1 ⟨rfl, b1⟩
    go_wp2_with fail
    go_ret
    exact ⟨rfl, b1⟩
  | false =>
  have hl150 : Hid (l.length ≤ 150) := Lib.hid (by have := HG1.out; unfold greatB at this; simp at this; omega)
  have CT := Lib.hid (wmade_any v l w H1.out (by have := hl150.out; omega))
  obtain ⟨b, hb⟩ : ∃ b, madeB l = b := ⟨_, rfl⟩
  rw [hb] at CT
  have HMD := Lib.hid hb
  clear G1 HG1 hb
  go_wp2_with fail
  refine CT.out.mono ?_
  rintro e w1 ⟨rfl, rfl⟩
  cases b with
  | true =>
    go_wp2_with fail
    refine (HD.out _ (Below.refl _ _)).mono ?_
    rintro e w2 ⟨rfl, b2⟩
    go_wp2_with fail
    go_ret
    exact ⟨rfl, b2⟩
  | false =>
  have CL := Lib.hid (wcollapse_any l v ss sv w H1.out HS.out (by have := hl150.out; omega) HT.out)
  clear CT
  go_wp2_with fail
  refine CL.out.mono ?_
  rintro e w3 h
  rcases h with ⟨hm1, ua, rfl, OA, b3⟩ | ⟨hm1, rfl, b3⟩
  rotate_left
  · have HB3 := Lib.hid b3
    clear hm1 b3 CL
    go_wp2_with fail
    refine (HD.out _ HB3.out).mono ?_
    rintro e w4 ⟨rfl, b4⟩
    go_wp2_with fail
    go_ret
    exact ⟨rfl, b4⟩
  have HB3 := Lib.hid b3
  have HOA := Lib.hid OA.rw_
  have HMG := Lib.hid (may_again (D := wideB) hm1)
  have HON := Lib.hid (once (W := whF ss) (D := wideB) l (may_kinds hm1) (made_no HMD.out))
  obtain ⟨a, ha⟩ : ∃ a, collapse (whF ss) wideB l = a := ⟨_, rfl⟩
  have ha150 : Hid (a.length ≤ 150) := Lib.hid (by rw [← ha]; exact Nat.le_trans (left_collapse _).len hl150.out)
  rw [ha] at HOA HMG HON
  have HS3 := Lib.hid (HS.out.below b3)
  have HT3 := Lib.hid (HT.out.below b3)
  clear hm1 b3 CL OA ha HMD hl150 H1 HS
  go_wp2_with (first
    | (refine wpList_valIf (o := ⟨some 29, _, _, _, _, _⟩) (w' := w3.alloc (.cells #[] 38)) (wanted_none rfl _) _ rfl (.slice (some ⟨w3.heap.size, 0, none⟩) 0 0) (by kernel_rfl) ?_)
    | (refine apCs (o := ⟨some 31, _, _, _, _, _⟩) rfl (.tmp 29) (.tmp 30) rfl rfl rfl (own_none w3) (HOA.out.below (below_alloc w3 _)) (by simp) (by have := ha150.out; simp; omega) ?_; intro vw w4 O4 b4; refine Mk.out ?_))
  constructor
  rw [List.nil_append] at O4
  have b34 : Below w3.heap.size w3 w4 := (below_alloc w3 (.cells #[] 38)).trans b4
  obtain ⟨A7, c7, hv7⟩ := O4.rw_.form
  have hp150 := ha150.out
  obtain ⟨p, hp⟩ : ∃ p, a.length = p := ⟨_, rfl⟩
  rw [hp] at hv7 hp150
  subst hv7
  have HP := Lib.hid hp
  have HO4 := Lib.hid O4
  have H34 := Lib.hid b34
  clear O4 b4 b34 hp
  go_wp2_with fail
  go_loopg [8] p (fun kx s8 wr => ∃ i : Nat, s8 = .int .i64 i ∧ i ≤ p ∧ kx = p - i ∧ Hid (Below w3.heap.size w3 wr) ∧ Hid (OwC w3.heap.size wr (.slice A7 p c7) (mtg again a i)))
  case atStart => exact ⟨0, rfl, by omega, by omega, H34, HO4⟩
  case round =>
    clear HO4 H34
    obtain ⟨i, rfl, hi, rfl, bel, HO⟩ := hrel
    by_cases hlt : i < p
    · have hz : (i : Int) < p := by omega
      obtain ⟨x, hx⟩ := atC_of (l := a) (i := i) (by rw [HP.out]; exact hlt)
      have hmx := mtg_at (t := again) hx
      rcases HO.out.2 with ⟨hv, h0⟩ | ⟨g, cap, cur0, hv, -⟩
      · rw [mtg_len, HP.out] at h0
        omega
      injection hv with hv1 hv2 hv3
      subst hv1 hv3
      obtain ⟨cur, OA⟩ := HO.out.at_
      have hhas := OA.has hmx
      have hao : (⟨g, 0, none⟩ : Addr).add (i * 5) = ⟨g, i * 5, none⟩ := by rw [Addr.add_lit, Nat.zero_add]
      have c0 : wr.cell? ⟨g, i * 5, none⟩ = some (.int .i32 x.r) := (OA.hB.cell (i * 5)).trans (hhas.all 0 _ rfl)
      have c4 : wr.cell? ⟨g, i * 5 + 4, none⟩ = some (.int .u8 x.kind) := (OA.hB.cell (i * 5 + 4)).trans (hhas.all 4 _ rfl)
      have f4 := OA.hB.frozen (i * 5 + 4)
      have HK : Hid (x.kind = 6 ∨ x.kind = 5 ∧ x.r ≠ 10 → OwC w3.heap.size wr (.slice (some ⟨g, 0, none⟩) p c7) (mtg again a (i + 1))) := Lib.hid fun h => by
        rw [mtg_same hx (again_no h)]
        exact HO.out
      have HC : Hid (x.kind ≠ 6 ∧ (x.kind ≠ 5 ∨ x.r = 10) → OwC w3.heap.size (wr.setCell ⟨g, i * 5 + 4, none⟩ (.int .u8 0)) (.slice (some ⟨g, 0, none⟩) p c7) (mtg again a (i + 1))) := Lib.hid fun h => by
        rw [mtg_succ hx]
        have := chgC OA hmx (y := again x) (v := .int .u8 0) (by rw [again_yes h]; rfl)
        rwa [mtg_len, HP.out] at this
      have HBS : Hid (Below w3.heap.size w3 (wr.setCell ⟨g, i * 5 + 4, none⟩ (.int .u8 0))) := Lib.hid (bel.out.trans ((Mod.setCell (S := fun k => k = g) (Mod.of_below (Below.refl _ _)) (p := ⟨g, i * 5 + 4, none⟩) (.inl rfl) _).below bel.out.size fun k hk => by have := OA.hb; omega))
      obtain ⟨r, hr⟩ : ∃ z, x.r = z := ⟨_, rfl⟩
      obtain ⟨kd, hkd⟩ : ∃ z, x.kind = z := ⟨_, rfl⟩
      rw [hr] at c0 HK HC
      rw [hkd] at c4 HK HC
      clear hhas hmx hx OA hr hkd HO hv2
      by_cases h6 : kd = 6
      · subst h6
        have HO := Lib.hid (HK.out (.inl rfl))
        clear HK HC HBS
        go_wp2_with fail
        go_roundg (p - (i + 1))
        case measure => omega
        case rel => exact ⟨i + 1, by go_num, by omega, rfl, bel, HO⟩
      · have e6 : (kd == 6) = false := by simpa using h6
        by_cases h5 : kd = 5
        · subst h5
          by_cases h10 : r = 10
          · subst h10
            have HO := Lib.hid (HC.out ⟨h6, .inr rfl⟩)
            clear HK HC bel
            go_wp2_with fail
            go_roundg (p - (i + 1))
            case measure => omega
            case rel => exact ⟨i + 1, by go_num, by omega, rfl, HBS, HO⟩
          · have e10 : (r == 10) = false := by simpa using h10
            have HO := Lib.hid (HK.out (.inr ⟨rfl, h10⟩))
            clear HK HC HBS
            go_wp2_with fail
            go_roundg (p - (i + 1))
            case measure => omega
            case rel => exact ⟨i + 1, by go_num, by omega, rfl, bel, HO⟩
        · have e5 : (kd == 5) = false := by simpa using h5
          have HO := Lib.hid (HC.out ⟨h6, .inl h5⟩)
          clear HK HC bel
          go_wp2_with fail
          go_roundg (p - (i + 1))
          case measure => omega
          case rel => exact ⟨i + 1, by go_num, by omega, rfl, HBS, HO⟩
    · obtain rfl : i = p := by omega
      have HRA : Hid (RwC wr (.slice A7 i c7) (a.map again)) := Lib.hid (by
        have := HO.out.rw_
        rwa [← HP.out, mtg_all, HP.out] at this)
      have CL := Lib.hid (wcollapse_any (a.map again) (.slice A7 i c7) ss sv wr HRA.out (HS3.out.below bel.out) (by rw [List.length_map]; have := ha150.out; omega) (HT3.out.below bel.out))
      clear HO
      go_wp2_with fail
      refine CL.out.mono ?_
      rintro e w5 h
      rcases h with ⟨-, ub, rfl, OB, b5⟩ | ⟨hm2, -⟩
      rotate_left
      · rw [HMG.out] at hm2; cases hm2
      rw [HON.out] at OB
      have HB5 := Lib.hid (below_seq bel.out b5)
      have CS : Hid (Calls Tryd.prog 14 #[ua, ub] w5 fun e w' => e = .returned (.bool true) ∧ Below w5.heap.size w5 w') := Lib.hid ((wsame_any ua ub a a w5 (HOA.out.below HB5.out) OB.rw_ (by have := ha150.out; omega)).mono fun e w' h => ⟨by rw [h.1, decide_eq_true rfl], h.2⟩)
      clear OB b5 CL
      go_wp2_with fail
      refine CS.out.mono ?_
      rintro e w6 ⟨rfl, b6⟩
      have HB6 := Lib.hid (below_seq HB3.out (below_seq HB5.out b6))
      clear b6
      go_wp2_with fail
      refine (HD.out _ HB6.out).mono ?_
      rintro e w7 ⟨rfl, b7⟩
      go_wp2_with fail
      go_ret
      exact ⟨rfl, b7⟩

end Go.Proofs.YtejcfhfmdijimaaDoor
