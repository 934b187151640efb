/- The walk of WhiteOrder: for every list and every row of styles the law returns true; contract of 'twice'. Conditions: the lists lie where the slices say; class's table lies in memory. -/
import Derived.Test.YtejcfhfmdijimaaDoorWhG
namespace Go.Proofs.YtejcfhfmdijimaaDoor
open Go.ChangeShapes Go.WideShapes Go.ChangeAt Go.RowKit Go.Shelf
open Wh

/-- the characters i and k have not the same node and place -/
def DifIK (l : List Cr) (i k : Nat) : Prop := ∀ x y, l[i]? = some x → l[k]? = some y → ¬ (x.node = y.node ∧ x.at_ = y.at_)
theorem once_of {l : List Cr} {n : Nat} (hn : l.length = n) (h : ∀ i, i < n → ∀ k, k < i → DifIK l i k) : Once l := by
  unfold Once
  rw [List.pairwise_iff_getElem]
  intro k i hk hi hki
  exact h i (by omega) k hki _ _ (List.getElem?_eq_getElem hi) (List.getElem?_eq_getElem hk)
/-- the two cells of a character that tell its place -/
theorem Lies.c0 {w : World} {g o : Nat} {c : Cr} (h : Lies w ⟨g, o, none⟩ (chA c)) : w.cell? ⟨g, o, none⟩ = some (.int .i32 c.r) := by have := h 0 _ rfl; rwa [Addr.add_lit] at this
theorem Lies.c1 {w : World} {g o : Nat} {c : Cr} (h : Lies w ⟨g, o, none⟩ (chA c)) : w.cell? ⟨g, o + 1, none⟩ = some (.int .i64 c.node) := by have := h 1 _ rfl; rwa [Addr.add_lit] at this
theorem Lies.c2 {w : World} {g o : Nat} {c : Cr} (h : Lies w ⟨g, o, none⟩ (chA c)) : w.cell? ⟨g, o + 2, none⟩ = some (.int .i64 c.at_) := by have := h 2 _ rfl; rwa [Addr.add_lit] at this
theorem Lies.c3 {w : World} {g o : Nat} {c : Cr} (h : Lies w ⟨g, o, none⟩ (chA c)) : w.cell? ⟨g, o + 3, none⟩ = some (.int .i64 c.n) := by have := h 3 _ rfl; rwa [Addr.add_lit] at this
theorem Lies.c4 {w : World} {g o : Nat} {c : Cr} (h : Lies w ⟨g, o, none⟩ (chA c)) : w.cell? ⟨g, o + 4, none⟩ = some (.int .u8 c.kind) := by have := h 4 _ rfl; rwa [Addr.add_lit] at this

set_option maxRecDepth 100000 in
set_option maxHeartbeats 4000000 in
theorem wtwice_any (v : Value) (l : List Cr) (w : World) (h1 : RwC w v l) (hn : l.length ≤ 1048576) :
    Calls Tryd.prog 17 #[v] w fun e w' => ∃ b, e = .returned (.bool b) ∧ (b = false → Once l) ∧ Below w.heap.size w w' := by
  have H1 := Lib.hid h1
  obtain ⟨A, c, rfl⟩ := h1.form
  obtain ⟨n, hl⟩ : ∃ n, l.length = n := ⟨_, rfl⟩
  have HL := Lib.hid hl
  rw [hl] at hn H1 ⊢
  clear h1 hl
  go_enter Tryd.func17, Tryd.ntmps17
  go_wp2_with fail
  go_loopg [3] n (fun kx s3 wr => ∃ i : Nat, s3 = .int .i64 i ∧ i ≤ n ∧ kx = n - i ∧ Below w.heap.size w wr ∧ Hid (∀ i', i' < i → ∀ k, k < i' → DifIK l i' k))
  case atStart => exact ⟨0, rfl, by omega, by omega, Below.refl _ _, Lib.hid fun i hi => by omega⟩
  case round =>
    obtain ⟨i, rfl, hi, rfl, bel, HI⟩ := hrel
    by_cases hlt : i < n
    · have hz : (i : Int) < n := by omega
      obtain ⟨x, hx⟩ := atC_of (l := l) (i := i) (by rw [HL.out]; exact hlt)
      have HX := Lib.hid hx
      clear hx
      go_wp2_with fail
      go_loopg [4] i (fun kx s4 wr => ∃ k : Nat, s4 = .int .i64 k ∧ k ≤ i ∧ kx = i - k ∧ Below w.heap.size w wr ∧ Hid (∀ k', k' < k → DifIK l i k'))
      case atStart => exact ⟨0, rfl, by omega, by omega, bel, Lib.hid fun k hk => by omega⟩
      case round =>
        clear bel
        obtain ⟨k, rfl, hk, rfl, bel, HJ⟩ := hrel
        by_cases hlk : k < i
        · have hz2 : (k : Int) < i := by omega
          have hz3 : (k : Int) < n := by omega
          obtain ⟨y, hy⟩ := atC_of (l := l) (i := k) (by rw [HL.out]; omega)
          obtain ⟨a1, cap1, o1, hv, _, ha1, hL1⟩ := H1.out.get bel HX.out
          rw [HL.out] at hv
          injection hv with hv1 hv2 hv3
          subst hv1 hv3
          obtain ⟨a2, cap2, o2, hv, _, ha2, hL2⟩ := H1.out.get bel hy
          rw [HL.out] at hv
          injection hv with hv1 hv4 hv3
          injection hv1 with hv1
          subst hv1
          have q1 := hL1.c1
          have q2 := hL1.c2
          have p1 := hL2.c1
          have p2 := hL2.c2
          have HST : Hid (¬ (x.node = y.node ∧ x.at_ = y.at_) → ∀ k', k' < k + 1 → DifIK l i k') := Lib.hid fun h k' hk' => by
            by_cases e : k' = k
            · subst e
              intro x' y' hx' hy'
              rw [HX.out] at hx'
              rw [hy] at hy'
              cases hx'
              cases hy'
              exact h
            · exact HJ.out k' (by omega)
          obtain ⟨xn, hxn⟩ : ∃ z, x.node = z := ⟨_, rfl⟩
          obtain ⟨yn, hyn⟩ : ∃ z, y.node = z := ⟨_, rfl⟩
          obtain ⟨xa, hxa⟩ : ∃ z, x.at_ = z := ⟨_, rfl⟩
          obtain ⟨ya, hya⟩ : ∃ z, y.at_ = z := ⟨_, rfl⟩
          rw [hxn] at q1 HST
          rw [hyn] at p1 HST
          rw [hxa] at q2 HST
          rw [hya] at p2 HST
          clear hv2 hv3 hv4 hL1 hL2 hxn hyn hxa hya hy
          by_cases hnn : xn = yn
          · subst hnn
            by_cases haa : xa = ya
            · subst haa
              clear HST
              go_wp2_with fail
              go_quiet (fail)
              go_wp2_with fail
              go_ret
              exact ⟨_, rfl, (fun h => by cases h), below_drewN bel _⟩
            · have ea : (xa == ya) = false := by simpa using haa
              have HJ2 := Lib.hid (HST.out fun h => haa h.2)
              clear HST haa HJ
              go_wp2_with fail
              go_quiet (fail)
              go_wp2_with fail
              go_roundg (i - (k + 1))
              case measure => omega
              case rel => exact ⟨k + 1, by go_num, by omega, rfl, below_drewN bel _, HJ2⟩
          · have en : (xn == yn) = false := by simpa using hnn
            have HJ2 := Lib.hid (HST.out fun h => hnn h.1)
            clear HST hnn HJ
            go_wp2_with fail
            go_quiet (fail)
            go_wp2_with fail
            go_roundg (i - (k + 1))
            case measure => omega
            case rel => exact ⟨k + 1, by go_num, by omega, rfl, below_drewN bel _, HJ2⟩
        · obtain rfl : k = i := by omega
          go_wp2_with fail
          go_roundg (n - (k + 1))
          case measure => omega
          case rel => exact ⟨k + 1, by go_num, by omega, rfl, bel, Lib.hid fun i' hi' k' hk' => by
            by_cases e : i' = k
            · subst e; exact HJ.out k' hk'
            · exact HI.out i' (by omega) k' hk'⟩
    · obtain rfl : i = n := by omega
      have HO := Lib.hid (once_of HL.out HI.out)
      go_wp2_with fail
      go_ret
      exact ⟨_, rfl, fun _ => HO.out, bel⟩

/-! ### the greedy match, by index -/
theorem match_at_end {l a : List Cr} {i k : Nat} (hl : l.length ≤ i) (h : match_ (l.drop i) (a.drop k) = some []) : a.length ≤ k := by
  rw [List.drop_of_length_le hl] at h
  simp only [match_, Option.some.injEq] at h
  exact List.drop_eq_nil_iff.1 h
theorem match_out {l a : List Cr} {i k : Nat} {c : Cr} (hc : l[i]? = some c) (hk : a.length ≤ k) (h : match_ (l.drop i) (a.drop k) = some []) : Wh.blank c = true ∧ match_ (l.drop (i + 1)) (a.drop k) = some [] := by
  rw [drop_at hc, List.drop_of_length_le hk] at h
  simp only [match_] at h
  split at h
  · rename_i e
    exact ⟨e, by rw [List.drop_of_length_le hk]; exact h⟩
  · cases h
theorem match_in {l a : List Cr} {i k : Nat} {c d : Cr} (hc : l[i]? = some c) (hd : a[k]? = some d) (h : match_ (l.drop i) (a.drop k) = some []) :
    (d.node = c.node ∧ d.at_ = c.at_ ∧ d.n = c.n ∧ (Wh.blank c = true ∨ d = c) ∧ match_ (l.drop (i + 1)) (a.drop (k + 1)) = some []) ∨ (¬ (d.node = c.node ∧ d.at_ = c.at_) ∧ Wh.blank c = true ∧ match_ (l.drop (i + 1)) (a.drop k) = some []) := by
  rw [drop_at hc, drop_at hd] at h
  simp only [match_] at h
  cases hk : keyEq c d with
  | true =>
    rw [hk] at h
    simp only [if_true] at h
    simp only [keyEq, Bool.and_eq_true, decide_eq_true_eq] at hk
    split at h
    · rename_i e
      exact .inl ⟨hk.1, hk.2, e.1, e.2, h⟩
    · cases h
  | false =>
    rw [hk] at h
    simp only [Bool.false_eq_true, if_false] at h
    split at h
    · rename_i e
      refine .inr ⟨fun h2 => ?_, e, by rw [drop_at hd]; exact h⟩
      simp [keyEq, h2.1, h2.2] at hk
    · cases h


set_option maxRecDepth 100000 in
set_option maxHeartbeats 16000000 in
theorem worder_any (l : List Cr) (v : Value) (ss : List Sty) (sv : Value) (w : World) (hR : RwC w v l) (hS : Ss w sv ss) (hT : Tab w) :
    Calls Tryd.prog 4 #[v, sv] w fun e w' => e = .returned (.bool true) ∧ Below w.heap.size w w' := by
  have HT := Lib.hid hT
  have H1 := Lib.hid hR
  have HS := Lib.hid hS
  have HD : Hid (∀ W, Below w.heap.size w W → Calls Tryd.prog 9 #[] W fun e w' => e = .returned (.bool true) ∧ Below w.heap.size w w') := Lib.hid fun W b => (whead_any W (HT.out.below b)).mono fun e w' h => ⟨h.1, b.trans (h.2.mono b.size)⟩
  obtain ⟨A1, c1, hv1⟩ := hR.form
  obtain ⟨A3, c3, hv3⟩ := Ss.form hS
  have G1 := Lib.hid (wgreat_any A1 A3 l.length c1 ss.length c3 w)
  obtain ⟨g1, hg1⟩ : ∃ b, greatB l.length ss.length = b := ⟨_, rfl⟩
  rw [hg1] at G1
  have HG1 := Lib.hid hg1
  rw [← hv1, ← hv3] at G1
  have HV1 := Lib.hid hv1
  clear hT hR hS hg1 hv1 hv3
  go_enter Tryd.func4, Tryd.ntmps4
  go_wp2_with fail
  refine G1.out.mono ?_
  rintro e w1 ⟨rfl, rfl⟩
  cases g1 with
  | true =>
    go_wp2_with fail
    refine (HD.out _ (Below.refl _ _)).mono ?_
    rintro e w1 ⟨rfl, b1⟩
    go_wp2_with fail
    go_ret
    exact ⟨rfl, b1⟩
  | false =>
  have hl150 : Hid (l.length ≤ 150) := Lib.hid (by have := HG1.out; unfold greatB at this; simp at this; omega)
  have CT := Lib.hid (wtwice_any v l w H1.out (by have := hl150.out; omega))
  clear G1 HG1
  go_wp2_with fail
  refine CT.out.mono ?_
  rintro e w1 ⟨b, rfl, hb, b1⟩
  cases b with
  | true =>
    go_wp2_with fail
    refine (HD.out _ b1).mono ?_
    rintro e w2 ⟨rfl, b2⟩
    go_wp2_with fail
    go_ret
    exact ⟨rfl, b2⟩
  | false =>
  have HON := Lib.hid (hb rfl)
  have HB1 := Lib.hid b1
  have HR1 := Lib.hid (H1.out.below b1)
  have hbs1 := b1.size
  clear hb b1 CT
  have HLN : Hid (∀ x : World, RwC x v l → RwC x v l) := Lib.hid fun _ h => h
  go_wp2_with (first
    | (refine wpList_valIf (o := ⟨some 18, _, _, _, _, _⟩) (w' := w1.alloc (.cells #[] 38)) (wanted_none rfl _) _ rfl (.slice (some ⟨w1.heap.size, 0, none⟩) 0 0) (by kernel_rfl) ?_)
    | (refine apCs (o := ⟨some 20, _, _, _, _, _⟩) rfl (.tmp 18) (.tmp 19) rfl rfl rfl (own_none w1) (HR1.out.below (below_alloc w1 _)) (by simp) (by have := hl150.out; simp; omega) ?_; intro vw w2 O2 b2; refine Mk.out ?_))
  constructor
  rw [List.nil_append] at O2
  have b02 := HB1.out.trans (((below_alloc w1 (.cells #[] 38)).trans b2).mono hbs1)
  have HB2 := Lib.hid b02
  have HW2 := Lib.hid O2.rw_
  have CL := Lib.hid (wcollapse_any l v ss sv w2 (H1.out.below b02) (HS.out.below b02) (by have := hl150.out; omega) (HT.out.below b02))
  clear O2 b2 HR1 HB1 hbs1 HLN b02
  go_wp2_with fail
  refine CL.out.mono ?_
  rintro e w3 h
  rcases h with ⟨hm1, ua, rfl, OA, b3⟩ | ⟨hm1, rfl, b3⟩
  rotate_left
  · have HB3 := Lib.hid (below_seq HB2.out b3)
    have CS : Hid (∀ X, Below w3.heap.size w3 X → Calls Tryd.prog 14 #[v, vw] X fun e w' => e = .returned (.bool true) ∧ Below X.heap.size X w') := Lib.hid fun X b =>
      (wsame_any v vw l l X (H1.out.below (below_seq HB3.out b)) (HW2.out.below (below_seq b3 b)) (by have := hl150.out; omega)).mono fun e w' h => ⟨by rw [h.1, decide_eq_true rfl], h.2⟩
    clear hm1 b3 CL
    go_wp2_with fail
    refine (CS.out _ (Below.refl _ _)).mono ?_
    rintro e w4 ⟨rfl, b4⟩
    have HB4 := Lib.hid (below_seq HB3.out b4)
    clear b4
    go_wp2_with fail
    refine (HD.out _ HB4.out).mono ?_
    rintro e w5 ⟨rfl, b5⟩
    go_wp2_with fail
    go_ret
    exact ⟨rfl, b5⟩
  have HB3 := Lib.hid (below_seq HB2.out b3)
  have HW3 := Lib.hid (HW2.out.below b3)
  have HOA := Lib.hid OA.rw_
  obtain ⟨a, ha⟩ : ∃ a, collapse (whF ss) wideB l = a := ⟨_, rfl⟩
  have HM0 : Hid (match_ (l.drop 0) (a.drop 0) = some []) := Lib.hid (by rw [← ha]; exact match_left (left_collapse l) HON.out)
  have ha150 : Hid (a.length ≤ 150) := Lib.hid (by rw [← ha]; exact Nat.le_trans (left_collapse _).len hl150.out)
  rw [ha] at HOA
  obtain ⟨A5, c5, hv5⟩ := HOA.out.form
  have CS : Hid (∀ X, Below w3.heap.size w3 X → Calls Tryd.prog 14 #[v, vw] X fun e w' => e = .returned (.bool true) ∧ Below X.heap.size X w') := Lib.hid fun X b =>
    (wsame_any v vw l l X (H1.out.below (below_seq HB3.out b)) (HW3.out.below b) (by have := hl150.out; omega)).mono fun e w' h => ⟨by rw [h.1, decide_eq_true rfl], h.2⟩
  have HLW : Hid (RwC w3 v l) := Lib.hid (H1.out.below HB3.out)
  have hv1 := HV1.out
  obtain ⟨n, hn⟩ : ∃ n, l.length = n := ⟨_, rfl⟩
  obtain ⟨p, hp⟩ : ∃ p, a.length = p := ⟨_, rfl⟩
  rw [hn] at hv1
  rw [hp] at hv5
  subst hv1 hv5
  have hn150 : n ≤ 150 := by rw [← hn]; exact hl150.out
  have hp150 : p ≤ 150 := by rw [← hp]; exact ha150.out
  have HN := Lib.hid hn
  have HP := Lib.hid hp
  clear hm1 b3 CL OA ha hn hp HV1 HON HB2 HW2 HW3 hl150 ha150
  go_wp2_with fail
  go_loopg [8, 9] n (fun kx s8 s9 wr => ∃ k i : Nat, s8 = .int .i64 k ∧ s9 = .int .i64 i ∧ i ≤ n ∧ k ≤ p ∧ kx = n - i ∧ Below w3.heap.size w3 wr ∧ Hid (match_ (l.drop i) (a.drop k) = some []))
  case atStart => exact ⟨0, 0, rfl, rfl, by omega, by omega, by omega, Below.refl _ _, HM0⟩
  case round =>
    obtain ⟨k, i, rfl, rfl, hi, hk, rfl, bel, HM⟩ := hrel
    by_cases hlt : i < n
    · have hz : (i : Int) < n := by omega
      obtain ⟨x, hx⟩ := atC_of (l := l) (i := i) (by rw [HN.out]; exact hlt)
      obtain ⟨a1, cap1, o1, hv, _, ha1, hL1⟩ := HLW.out.get bel hx
      rw [HN.out] at hv
      injection hv with hv1 hv2 hv3
      subst hv1 hv3
      have HX := Lib.hid hx
      have CB : Hid (∀ b, Wh.blank x = b → ∀ W, Calls Tryd.prog 18 #[.agg (chA x)] W fun e w' => e = .returned (.bool b) ∧ Below W.heap.size W w') := Lib.hid fun b hb W => hb ▸ wblank_any x W
      by_cases hlk : k < p
      · have hz2 : (k : Int) < p := by omega
        obtain ⟨y, hy⟩ := atC_of (l := a) (i := k) (by rw [HP.out]; exact hlk)
        obtain ⟨a2, cap2, o2, hv, _, ha2, hL2⟩ := HOA.out.get bel hy
        rw [HP.out] at hv
        injection hv with hv1 hv4 hv3
        subst hv1 hv3
        have hin := match_in hx hy HM.out
        have q1 := hL1.c1
        have q2 := hL1.c2
        have p1 := hL2.c1
        have p2 := hL2.c2
        have HL1 := Lib.hid hL1
        have HL2 := Lib.hid hL2
        rcases hin with ⟨e1, e2, e3, hbx, hm2⟩ | ⟨hne, hbx, hm2⟩
        · have HM2 := Lib.hid hm2
          rw [e1] at p1
          rw [e2] at p2
          obtain ⟨xn, hxn⟩ : ∃ z, x.node = z := ⟨_, rfl⟩
          obtain ⟨xa, hxa⟩ : ∃ z, x.at_ = z := ⟨_, rfl⟩
          obtain ⟨xl, hxl⟩ : ∃ z, x.n = z := ⟨_, rfl⟩
          rw [hxn] at q1 p1
          rw [hxa] at q2 p2
          have CX : Hid (∀ W, Below wr.heap.size wr W → W.cell? ⟨a1.block, o1 + 3, none⟩ = some (.int .i64 xl) ∧ W.cell? ⟨a2.block, o2 + 3, none⟩ = some (.int .i64 xl)) := Lib.hid fun W h => by
            have r1 := (HL1.out.below h).c3
            have r2 := (HL2.out.below h).c3
            rw [hxl] at r1
            rw [e3, hxl] at r2
            exact ⟨r1, r2⟩
          have HBX := Lib.hid hbx
          clear e1 e2 e3 hxn hxa hxl hbx hm2 hv2 hv4 hL1 hL2 hx hy
          go_wp2_with fail
          go_quiet (fail)
          go_wp2_with fail
          have HBD : Hid (∀ j W, Below wr.heap.size (wr.drewN j) W → Below wr.heap.size wr W) := Lib.hid fun j W h => (below_drewN (Below.refl _ _) j).trans h
          cases hbl : Wh.blank x with
          | true =>
            have CBX := Lib.hid (CB.out true hbl)
            clear hbl
            refine region_any (by kernel_rfl) (fun W => Below wr.heap.size wr W) (below_drewN (below_drewN (Below.refl _ _) _) 1) (fun R hR => ?_)
            refine AllS.take (i := 0) (v := ?_) (by rw [List.getElem?_toArray]; rfl) (by kernel_rfl) (by kernel_rfl) (by kernel_rfl) (KeepsIf.read (by rfl) ?_) ?_
            rotate_left
            · intro W hSw
              (try dsimp only at hSw)
              go_simp
              (try with_reducible rfl)
            rotate_left
            (try simp only [Act.put, List.setIfInBounds_toArray, List.set_cons_zero, List.set_cons_succ])
            refine AllS.take (i := 1) (v := ?_) (by rw [List.getElem?_toArray]; rfl) (by kernel_rfl) (by kernel_rfl) (by kernel_rfl) (KeepsIf.read (by rfl) ?_) ?_
            rotate_left
            · intro W hSw
              (try dsimp only at hSw)
              go_simp
              (try with_reducible rfl)
            rotate_left
            (try simp only [Act.put, List.setIfInBounds_toArray, List.set_cons_zero, List.set_cons_succ])
            refine AllS.take (i := 2) (v := ?_) (by rw [List.getElem?_toArray]; rfl) (by kernel_rfl) (by kernel_rfl) (by kernel_rfl) (KeepsIf.read (by rfl) ?_) ?_
            rotate_left
            · intro W hSw
              (try dsimp only at hSw)
              go_simp
              (try with_reducible rfl)
            rotate_left
            (try simp only [Act.put, List.setIfInBounds_toArray, List.set_cons_zero, List.set_cons_succ])
            refine AllS.take (i := 3) (v := ?_) (by rw [List.getElem?_toArray]; rfl) (by kernel_rfl) (by kernel_rfl) (by kernel_rfl) (KeepsIf.read (by rfl) ?_) ?_
            rotate_left
            · intro W hSw
              (try dsimp only at hSw)
              go_simp
              (try with_reducible rfl)
            rotate_left
            (try simp only [Act.put, List.setIfInBounds_toArray, List.set_cons_zero, List.set_cons_succ])
            refine AllS.take (i := 4) (v := ?_) (by rw [List.getElem?_toArray]; rfl) (by kernel_rfl) (by kernel_rfl) (by kernel_rfl) (KeepsIf.read (by rfl) ?_) ?_
            rotate_left
            · intro W hSw
              (try dsimp only at hSw)
              obtain ⟨r1, r2⟩ := CX.out W hSw
              go_simp
              (try with_reducible rfl)
            rotate_left
            (try simp only [Act.put, List.setIfInBounds_toArray, List.set_cons_zero, List.set_cons_succ])
            refine AllS.take (i := 5) (v := ?_) (by rw [List.getElem?_toArray]; rfl) (by kernel_rfl) (by kernel_rfl) (by kernel_rfl) (KeepsIf.read (by rfl) ?_) ?_
            rotate_left
            · intro W hSw
              (try dsimp only at hSw)
              go_simp
              (try with_reducible rfl)
            rotate_left
            (try simp only [Act.put, List.setIfInBounds_toArray, List.set_cons_zero, List.set_cons_succ])
            refine AllS.take (i := 6) (v := ?_) (by rw [List.getElem?_toArray]; rfl) (by kernel_rfl) (by kernel_rfl) (by kernel_rfl) (KeepsIf.read (by rfl) ?_) ?_
            rotate_left
            · intro W hSw
              (try dsimp only at hSw)
              go_simp
              (try with_reducible rfl)
            rotate_left
            (try simp only [Act.put, List.setIfInBounds_toArray, List.set_cons_zero, List.set_cons_succ])
            refine AllS.take (i := 7) (v := ?_) (by rw [List.getElem?_toArray]; rfl) (by kernel_rfl) (by kernel_rfl) (by kernel_rfl) (KeepsIf.read (by rfl) ?_) ?_
            rotate_left
            · intro W hSw
              (try dsimp only at hSw)
              go_simp
              (try with_reducible rfl)
            rotate_left
            (try simp only [Act.put, List.setIfInBounds_toArray, List.set_cons_zero, List.set_cons_succ])
            refine AllS.take (i := 8) (v := ?_) (by rw [List.getElem?_toArray]; rfl) (by kernel_rfl) (by kernel_rfl) (by kernel_rfl) (KeepsIf.read (by rfl) ?_) ?_
            rotate_left
            · intro W hSw
              (try dsimp only at hSw)
              go_simp
              (try with_reducible rfl)
            rotate_left
            (try simp only [Act.put, List.setIfInBounds_toArray, List.set_cons_zero, List.set_cons_succ])
            refine AllS.take (i := 9) (v := ?_) (by rw [List.getElem?_toArray]; rfl) (by kernel_rfl) (by kernel_rfl) (by kernel_rfl) (KeepsIf.read (by rfl) ?_) ?_
            rotate_left
            · intro W hSw
              (try dsimp only at hSw)
              obtain ⟨r1, r2⟩ := CX.out W hSw
              go_simp
              (try with_reducible rfl)
            rotate_left
            (try simp only [Act.put, List.setIfInBounds_toArray, List.set_cons_zero, List.set_cons_succ])
            refine AllS.take (i := 10) (v := ?_) (by rw [List.getElem?_toArray]; rfl) (by kernel_rfl) (by kernel_rfl) (by kernel_rfl) (KeepsIf.read (by rfl) ?_) ?_
            rotate_left
            · intro W hSw
              (try dsimp only at hSw)
              go_simp
              (try with_reducible rfl)
            rotate_left
            (try simp only [Act.put, List.setIfInBounds_toArray, List.set_cons_zero, List.set_cons_succ])
            refine AllS.take (i := 11) (v := ?_) (by rw [List.getElem?_toArray]; rfl) (by kernel_rfl) (by kernel_rfl) (by kernel_rfl) (KeepsIf.read (by rfl) ?_) ?_
            rotate_left
            · intro W hSw
              (try dsimp only at hSw)
              go_simp
              (try with_reducible rfl)
            rotate_left
            (try simp only [Act.put, List.setIfInBounds_toArray, List.set_cons_zero, List.set_cons_succ])
            refine AllS.take (i := 12) (v := ?_) (by rw [List.getElem?_toArray]; rfl) (by kernel_rfl) (by kernel_rfl) (by kernel_rfl) (KeepsIf.read (by rfl) ?_) ?_
            rotate_left
            · intro W hSw
              (try dsimp only at hSw)
              go_simp
              (try with_reducible rfl)
            rotate_left
            (try simp only [Act.put, List.setIfInBounds_toArray, List.set_cons_zero, List.set_cons_succ])
            refine AllS.take (i := 13) (v := ?_) (by rw [List.getElem?_toArray]; rfl) (by kernel_rfl) (by kernel_rfl) (by kernel_rfl) (KeepsIf.read (by rfl) ?_) ?_
            rotate_left
            · intro W hSw
              (try dsimp only at hSw)
              go_simp
              (try with_reducible rfl)
            rotate_left
            (try simp only [Act.put, List.setIfInBounds_toArray, List.set_cons_zero, List.set_cons_succ])
            refine AllS.take (i := 14) (v := ?_) (by rw [List.getElem?_toArray]; rfl) (by kernel_rfl) (by kernel_rfl) (by kernel_rfl) (KeepsIf.read (by rfl) ?_) ?_
            rotate_left
            · intro W hSw
              (try dsimp only at hSw)
              go_simp
              (try with_reducible rfl)
            rotate_left
            (try simp only [Act.put, List.setIfInBounds_toArray, List.set_cons_zero, List.set_cons_succ])
            refine AllS.take (i := 15) (v := .agg (chA x)) (by rw [List.getElem?_toArray]; rfl) (by kernel_rfl) (by kernel_rfl) (by kernel_rfl) (KeepsIf.read (by rfl) (fun W hSw => ?_)) ?_
            · (try dsimp only at hSw)
              exact rdC (.tmp 90) rfl _ rfl x (ha1 ▸ HL1.out.below hSw)
            (try simp only [Act.put, List.setIfInBounds_toArray, List.set_cons_zero, List.set_cons_succ])
            refine AllS.take (i := 16) (v := .bool true) (by rw [List.getElem?_toArray]; rfl) (by kernel_rfl) (by kernel_rfl) (by kernel_rfl) (KeepsIf.call 18 #[.agg (chA x)] (by kernel_rfl) (fun W => ?_) (fun W hSw => ?_)) ?_
            · go_simp
            · exact (CBX.out W).mono (fun e w2 h => ⟨h.1, below_seq hSw h.2⟩)
            (try simp only [Act.put, List.setIfInBounds_toArray, List.set_cons_zero, List.set_cons_succ])
            refine AllS.take (i := 17) (v := ?_) (by rw [List.getElem?_toArray]; rfl) (by kernel_rfl) (by kernel_rfl) (by kernel_rfl) (KeepsIf.read (by rfl) ?_) ?_
            rotate_left
            · intro W hSw
              (try dsimp only at hSw)
              go_simp
              (try with_reducible rfl)
            rotate_left
            (try simp only [Act.put, List.setIfInBounds_toArray, List.set_cons_zero, List.set_cons_succ])
            refine AllS.take (i := 18) (v := ?_) (by rw [List.getElem?_toArray]; rfl) (by kernel_rfl) (by kernel_rfl) (by kernel_rfl) (KeepsIf.read (by rfl) ?_) ?_
            rotate_left
            · intro W hSw
              (try dsimp only at hSw)
              go_simp
              (try with_reducible rfl)
            rotate_left
            (try simp only [Act.put, List.setIfInBounds_toArray, List.set_cons_zero, List.set_cons_succ])
            refine AllS.take (i := 19) (v := undef) (by rw [List.getElem?_toArray]; rfl) (by kernel_rfl) (by kernel_rfl) (by kernel_rfl) (KeepsIf.un (by kernel_rfl)) ?_
            (try simp only [Act.put, List.setIfInBounds_toArray, List.set_cons_zero, List.set_cons_succ])
            refine AllS.take (i := 20) (v := undef) (by rw [List.getElem?_toArray]; rfl) (by kernel_rfl) (by kernel_rfl) (by kernel_rfl) (KeepsIf.un (by kernel_rfl)) ?_
            (try simp only [Act.put, List.setIfInBounds_toArray, List.set_cons_zero, List.set_cons_succ])
            refine AllS.take (i := 21) (v := undef) (by rw [List.getElem?_toArray]; rfl) (by kernel_rfl) (by kernel_rfl) (by kernel_rfl) (KeepsIf.un (by kernel_rfl)) ?_
            (try simp only [Act.put, List.setIfInBounds_toArray, List.set_cons_zero, List.set_cons_succ])
            refine AllS.take (i := 22) (v := undef) (by rw [List.getElem?_toArray]; rfl) (by kernel_rfl) (by kernel_rfl) (by kernel_rfl) (KeepsIf.un (by kernel_rfl)) ?_
            (try simp only [Act.put, List.setIfInBounds_toArray, List.set_cons_zero, List.set_cons_succ])
            refine AllS.take (i := 23) (v := undef) (by rw [List.getElem?_toArray]; rfl) (by kernel_rfl) (by kernel_rfl) (by kernel_rfl) (KeepsIf.un (by kernel_rfl)) ?_
            (try simp only [Act.put, List.setIfInBounds_toArray, List.set_cons_zero, List.set_cons_succ])
            refine AllS.take (i := 24) (v := undef) (by rw [List.getElem?_toArray]; rfl) (by kernel_rfl) (by kernel_rfl) (by kernel_rfl) (KeepsIf.un (by kernel_rfl)) ?_
            (try simp only [Act.put, List.setIfInBounds_toArray, List.set_cons_zero, List.set_cons_succ])
            refine AllS.take (i := 25) (v := undef) (by rw [List.getElem?_toArray]; rfl) (by kernel_rfl) (by kernel_rfl) (by kernel_rfl) (KeepsIf.un (by kernel_rfl)) ?_
            (try simp only [Act.put, List.setIfInBounds_toArray, List.set_cons_zero, List.set_cons_succ])
            refine AllS.take (i := 26) (v := undef) (by rw [List.getElem?_toArray]; rfl) (by kernel_rfl) (by kernel_rfl) (by kernel_rfl) (KeepsIf.un (by kernel_rfl)) ?_
            (try simp only [Act.put, List.setIfInBounds_toArray, List.set_cons_zero, List.set_cons_succ])
            refine AllS.take (i := 27) (v := undef) (by rw [List.getElem?_toArray]; rfl) (by kernel_rfl) (by kernel_rfl) (by kernel_rfl) (KeepsIf.un (by kernel_rfl)) ?_
            (try simp only [Act.put, List.setIfInBounds_toArray, List.set_cons_zero, List.set_cons_succ])
            refine AllS.take (i := 28) (v := ?_) (by rw [List.getElem?_toArray]; rfl) (by kernel_rfl) (by kernel_rfl) (by kernel_rfl) (KeepsIf.read (by rfl) ?_) ?_
            rotate_left
            · intro W hSw
              (try dsimp only at hSw)
              go_simp
              (try with_reducible rfl)
            rotate_left
            (try simp only [Act.put, List.setIfInBounds_toArray, List.set_cons_zero, List.set_cons_succ])
            refine AllS.take (i := 29) (v := ?_) (by rw [List.getElem?_toArray]; rfl) (by kernel_rfl) (by kernel_rfl) (by kernel_rfl) (KeepsIf.read (by rfl) ?_) ?_
            rotate_left
            · intro W hSw
              (try dsimp only at hSw)
              go_simp
              (try with_reducible rfl)
            rotate_left
            (try simp only [Act.put, List.setIfInBounds_toArray, List.set_cons_zero, List.set_cons_succ])
            refine AllS.done (by kernel_rfl) (hR.out _ ?_) _
            clear hR R
            intro w6 b6
            clear CX CBX CB HBD
            go_wp2_with fail
            go_roundg (n - (i + 1))
            case measure => omega
            case rel => exact ⟨k + 1, i + 1, by go_num, by go_num, by omega, by omega, by omega, below_seq bel b6, HM2⟩
          | false =>
            obtain rfl : y = x := by
              rcases HBX.out with h | h
              · rw [hbl] at h; cases h
              · exact h
            have CBX := Lib.hid (CB.out false hbl)
            have HNE := Lib.hid (neCb y y true (decide_eq_true rfl))
            clear hbl
            refine region_any (by kernel_rfl) (fun W => Below wr.heap.size wr W) (below_drewN (below_drewN (Below.refl _ _) _) 1) (fun R hR => ?_)
            refine AllS.take (i := 0) (v := ?_) (by rw [List.getElem?_toArray]; rfl) (by kernel_rfl) (by kernel_rfl) (by kernel_rfl) (KeepsIf.read (by rfl) ?_) ?_
            rotate_left
            · intro W hSw
              (try dsimp only at hSw)
              go_simp
              (try with_reducible rfl)
            rotate_left
            (try simp only [Act.put, List.setIfInBounds_toArray, List.set_cons_zero, List.set_cons_succ])
            refine AllS.take (i := 1) (v := ?_) (by rw [List.getElem?_toArray]; rfl) (by kernel_rfl) (by kernel_rfl) (by kernel_rfl) (KeepsIf.read (by rfl) ?_) ?_
            rotate_left
            · intro W hSw
              (try dsimp only at hSw)
              go_simp
              (try with_reducible rfl)
            rotate_left
            (try simp only [Act.put, List.setIfInBounds_toArray, List.set_cons_zero, List.set_cons_succ])
            refine AllS.take (i := 2) (v := ?_) (by rw [List.getElem?_toArray]; rfl) (by kernel_rfl) (by kernel_rfl) (by kernel_rfl) (KeepsIf.read (by rfl) ?_) ?_
            rotate_left
            · intro W hSw
              (try dsimp only at hSw)
              go_simp
              (try with_reducible rfl)
            rotate_left
            (try simp only [Act.put, List.setIfInBounds_toArray, List.set_cons_zero, List.set_cons_succ])
            refine AllS.take (i := 3) (v := ?_) (by rw [List.getElem?_toArray]; rfl) (by kernel_rfl) (by kernel_rfl) (by kernel_rfl) (KeepsIf.read (by rfl) ?_) ?_
            rotate_left
            · intro W hSw
              (try dsimp only at hSw)
              go_simp
              (try with_reducible rfl)
            rotate_left
            (try simp only [Act.put, List.setIfInBounds_toArray, List.set_cons_zero, List.set_cons_succ])
            refine AllS.take (i := 4) (v := ?_) (by rw [List.getElem?_toArray]; rfl) (by kernel_rfl) (by kernel_rfl) (by kernel_rfl) (KeepsIf.read (by rfl) ?_) ?_
            rotate_left
            · intro W hSw
              (try dsimp only at hSw)
              obtain ⟨r1, r2⟩ := CX.out W hSw
              go_simp
              (try with_reducible rfl)
            rotate_left
            (try simp only [Act.put, List.setIfInBounds_toArray, List.set_cons_zero, List.set_cons_succ])
            refine AllS.take (i := 5) (v := ?_) (by rw [List.getElem?_toArray]; rfl) (by kernel_rfl) (by kernel_rfl) (by kernel_rfl) (KeepsIf.read (by rfl) ?_) ?_
            rotate_left
            · intro W hSw
              (try dsimp only at hSw)
              go_simp
              (try with_reducible rfl)
            rotate_left
            (try simp only [Act.put, List.setIfInBounds_toArray, List.set_cons_zero, List.set_cons_succ])
            refine AllS.take (i := 6) (v := ?_) (by rw [List.getElem?_toArray]; rfl) (by kernel_rfl) (by kernel_rfl) (by kernel_rfl) (KeepsIf.read (by rfl) ?_) ?_
            rotate_left
            · intro W hSw
              (try dsimp only at hSw)
              go_simp
              (try with_reducible rfl)
            rotate_left
            (try simp only [Act.put, List.setIfInBounds_toArray, List.set_cons_zero, List.set_cons_succ])
            refine AllS.take (i := 7) (v := ?_) (by rw [List.getElem?_toArray]; rfl) (by kernel_rfl) (by kernel_rfl) (by kernel_rfl) (KeepsIf.read (by rfl) ?_) ?_
            rotate_left
            · intro W hSw
              (try dsimp only at hSw)
              go_simp
              (try with_reducible rfl)
            rotate_left
            (try simp only [Act.put, List.setIfInBounds_toArray, List.set_cons_zero, List.set_cons_succ])
            refine AllS.take (i := 8) (v := ?_) (by rw [List.getElem?_toArray]; rfl) (by kernel_rfl) (by kernel_rfl) (by kernel_rfl) (KeepsIf.read (by rfl) ?_) ?_
            rotate_left
            · intro W hSw
              (try dsimp only at hSw)
              go_simp
              (try with_reducible rfl)
            rotate_left
            (try simp only [Act.put, List.setIfInBounds_toArray, List.set_cons_zero, List.set_cons_succ])
            refine AllS.take (i := 9) (v := ?_) (by rw [List.getElem?_toArray]; rfl) (by kernel_rfl) (by kernel_rfl) (by kernel_rfl) (KeepsIf.read (by rfl) ?_) ?_
            rotate_left
            · intro W hSw
              (try dsimp only at hSw)
              obtain ⟨r1, r2⟩ := CX.out W hSw
              go_simp
              (try with_reducible rfl)
            rotate_left
            (try simp only [Act.put, List.setIfInBounds_toArray, List.set_cons_zero, List.set_cons_succ])
            refine AllS.take (i := 10) (v := ?_) (by rw [List.getElem?_toArray]; rfl) (by kernel_rfl) (by kernel_rfl) (by kernel_rfl) (KeepsIf.read (by rfl) ?_) ?_
            rotate_left
            · intro W hSw
              (try dsimp only at hSw)
              go_simp
              (try with_reducible rfl)
            rotate_left
            (try simp only [Act.put, List.setIfInBounds_toArray, List.set_cons_zero, List.set_cons_succ])
            refine AllS.take (i := 11) (v := ?_) (by rw [List.getElem?_toArray]; rfl) (by kernel_rfl) (by kernel_rfl) (by kernel_rfl) (KeepsIf.read (by rfl) ?_) ?_
            rotate_left
            · intro W hSw
              (try dsimp only at hSw)
              go_simp
              (try with_reducible rfl)
            rotate_left
            (try simp only [Act.put, List.setIfInBounds_toArray, List.set_cons_zero, List.set_cons_succ])
            refine AllS.take (i := 12) (v := ?_) (by rw [List.getElem?_toArray]; rfl) (by kernel_rfl) (by kernel_rfl) (by kernel_rfl) (KeepsIf.read (by rfl) ?_) ?_
            rotate_left
            · intro W hSw
              (try dsimp only at hSw)
              go_simp
              (try with_reducible rfl)
            rotate_left
            (try simp only [Act.put, List.setIfInBounds_toArray, List.set_cons_zero, List.set_cons_succ])
            refine AllS.take (i := 13) (v := ?_) (by rw [List.getElem?_toArray]; rfl) (by kernel_rfl) (by kernel_rfl) (by kernel_rfl) (KeepsIf.read (by rfl) ?_) ?_
            rotate_left
            · intro W hSw
              (try dsimp only at hSw)
              go_simp
              (try with_reducible rfl)
            rotate_left
            (try simp only [Act.put, List.setIfInBounds_toArray, List.set_cons_zero, List.set_cons_succ])
            refine AllS.take (i := 14) (v := ?_) (by rw [List.getElem?_toArray]; rfl) (by kernel_rfl) (by kernel_rfl) (by kernel_rfl) (KeepsIf.read (by rfl) ?_) ?_
            rotate_left
            · intro W hSw
              (try dsimp only at hSw)
              go_simp
              (try with_reducible rfl)
            rotate_left
            (try simp only [Act.put, List.setIfInBounds_toArray, List.set_cons_zero, List.set_cons_succ])
            refine AllS.take (i := 15) (v := .agg (chA y)) (by rw [List.getElem?_toArray]; rfl) (by kernel_rfl) (by kernel_rfl) (by kernel_rfl) (KeepsIf.read (by rfl) (fun W hSw => ?_)) ?_
            · (try dsimp only at hSw)
              exact rdC (.tmp 90) rfl _ rfl y (ha1 ▸ HL1.out.below hSw)
            (try simp only [Act.put, List.setIfInBounds_toArray, List.set_cons_zero, List.set_cons_succ])
            refine AllS.take (i := 16) (v := .bool false) (by rw [List.getElem?_toArray]; rfl) (by kernel_rfl) (by kernel_rfl) (by kernel_rfl) (KeepsIf.call 18 #[.agg (chA y)] (by kernel_rfl) (fun W => ?_) (fun W hSw => ?_)) ?_
            · go_simp
            · exact (CBX.out W).mono (fun e w2 h => ⟨h.1, below_seq hSw h.2⟩)
            (try simp only [Act.put, List.setIfInBounds_toArray, List.set_cons_zero, List.set_cons_succ])
            refine AllS.take (i := 17) (v := ?_) (by rw [List.getElem?_toArray]; rfl) (by kernel_rfl) (by kernel_rfl) (by kernel_rfl) (KeepsIf.read (by rfl) ?_) ?_
            rotate_left
            · intro W hSw
              (try dsimp only at hSw)
              go_simp
              (try with_reducible rfl)
            rotate_left
            (try simp only [Act.put, List.setIfInBounds_toArray, List.set_cons_zero, List.set_cons_succ])
            refine AllS.take (i := 18) (v := ?_) (by rw [List.getElem?_toArray]; rfl) (by kernel_rfl) (by kernel_rfl) (by kernel_rfl) (KeepsIf.read (by rfl) ?_) ?_
            rotate_left
            · intro W hSw
              (try dsimp only at hSw)
              go_simp
              (try with_reducible rfl)
            rotate_left
            (try simp only [Act.put, List.setIfInBounds_toArray, List.set_cons_zero, List.set_cons_succ])
            refine AllS.take (i := 19) (v := ?_) (by rw [List.getElem?_toArray]; rfl) (by kernel_rfl) (by kernel_rfl) (by kernel_rfl) (KeepsIf.read (by rfl) ?_) ?_
            rotate_left
            · intro W hSw
              (try dsimp only at hSw)
              go_simp
              (try with_reducible rfl)
            rotate_left
            (try simp only [Act.put, List.setIfInBounds_toArray, List.set_cons_zero, List.set_cons_succ])
            refine AllS.take (i := 20) (v := ?_) (by rw [List.getElem?_toArray]; rfl) (by kernel_rfl) (by kernel_rfl) (by kernel_rfl) (KeepsIf.read (by rfl) ?_) ?_
            rotate_left
            · intro W hSw
              (try dsimp only at hSw)
              go_simp
              (try with_reducible rfl)
            rotate_left
            (try simp only [Act.put, List.setIfInBounds_toArray, List.set_cons_zero, List.set_cons_succ])
            refine AllS.take (i := 21) (v := ?_) (by rw [List.getElem?_toArray]; rfl) (by kernel_rfl) (by kernel_rfl) (by kernel_rfl) (KeepsIf.read (by rfl) ?_) ?_
            rotate_left
            · intro W hSw
              (try dsimp only at hSw)
              go_simp
              (try with_reducible rfl)
            rotate_left
            (try simp only [Act.put, List.setIfInBounds_toArray, List.set_cons_zero, List.set_cons_succ])
            refine AllS.take (i := 22) (v := .agg (chA y)) (by rw [List.getElem?_toArray]; rfl) (by kernel_rfl) (by kernel_rfl) (by kernel_rfl) (KeepsIf.read (by rfl) (fun W hSw => ?_)) ?_
            · (try dsimp only at hSw)
              exact rdC (.tmp 97) rfl _ rfl y (ha2 ▸ HL2.out.below hSw)
            (try simp only [Act.put, List.setIfInBounds_toArray, List.set_cons_zero, List.set_cons_succ])
            refine AllS.take (i := 23) (v := ?_) (by rw [List.getElem?_toArray]; rfl) (by kernel_rfl) (by kernel_rfl) (by kernel_rfl) (KeepsIf.read (by rfl) ?_) ?_
            rotate_left
            · intro W hSw
              (try dsimp only at hSw)
              go_simp
              (try with_reducible rfl)
            rotate_left
            (try simp only [Act.put, List.setIfInBounds_toArray, List.set_cons_zero, List.set_cons_succ])
            refine AllS.take (i := 24) (v := ?_) (by rw [List.getElem?_toArray]; rfl) (by kernel_rfl) (by kernel_rfl) (by kernel_rfl) (KeepsIf.read (by rfl) ?_) ?_
            rotate_left
            · intro W hSw
              (try dsimp only at hSw)
              go_simp
              (try with_reducible rfl)
            rotate_left
            (try simp only [Act.put, List.setIfInBounds_toArray, List.set_cons_zero, List.set_cons_succ])
            refine AllS.take (i := 25) (v := ?_) (by rw [List.getElem?_toArray]; rfl) (by kernel_rfl) (by kernel_rfl) (by kernel_rfl) (KeepsIf.read (by rfl) ?_) ?_
            rotate_left
            · intro W hSw
              (try dsimp only at hSw)
              go_simp
              (try with_reducible rfl)
            rotate_left
            (try simp only [Act.put, List.setIfInBounds_toArray, List.set_cons_zero, List.set_cons_succ])
            refine AllS.take (i := 26) (v := .agg (chA y)) (by rw [List.getElem?_toArray]; rfl) (by kernel_rfl) (by kernel_rfl) (by kernel_rfl) (KeepsIf.read (by rfl) (fun W hSw => ?_)) ?_
            · (try dsimp only at hSw)
              exact rdC (.tmp 101) rfl _ rfl y (ha1 ▸ HL1.out.below hSw)
            (try simp only [Act.put, List.setIfInBounds_toArray, List.set_cons_zero, List.set_cons_succ])
            refine AllS.take (i := 27) (v := .bool false) (by rw [List.getElem?_toArray]; rfl) (by kernel_rfl) (by kernel_rfl) (by kernel_rfl) (KeepsIf.read (by rfl) (fun W hSw => ?_)) ?_
            · (try dsimp only at hSw)
              have hne := HNE.out
              go_simp
            (try simp only [Act.put, List.setIfInBounds_toArray, List.set_cons_zero, List.set_cons_succ])
            refine AllS.take (i := 28) (v := ?_) (by rw [List.getElem?_toArray]; rfl) (by kernel_rfl) (by kernel_rfl) (by kernel_rfl) (KeepsIf.read (by rfl) ?_) ?_
            rotate_left
            · intro W hSw
              (try dsimp only at hSw)
              go_simp
              (try with_reducible rfl)
            rotate_left
            (try simp only [Act.put, List.setIfInBounds_toArray, List.set_cons_zero, List.set_cons_succ])
            refine AllS.take (i := 29) (v := ?_) (by rw [List.getElem?_toArray]; rfl) (by kernel_rfl) (by kernel_rfl) (by kernel_rfl) (KeepsIf.read (by rfl) ?_) ?_
            rotate_left
            · intro W hSw
              (try dsimp only at hSw)
              go_simp
              (try with_reducible rfl)
            rotate_left
            (try simp only [Act.put, List.setIfInBounds_toArray, List.set_cons_zero, List.set_cons_succ])
            refine AllS.done (by kernel_rfl) (hR.out _ ?_) _
            clear hR R
            intro w6 b6
            clear CX CBX CB HBD
            go_wp2_with fail
            go_roundg (n - (i + 1))
            case measure => omega
            case rel => exact ⟨k + 1, i + 1, by go_num, by go_num, by omega, by omega, by omega, below_seq bel b6, HM2⟩
        · have HM2 := Lib.hid hm2
          have CBX := Lib.hid (CB.out true hbx)
          obtain ⟨xn, hxn⟩ : ∃ z, x.node = z := ⟨_, rfl⟩
          obtain ⟨xa, hxa⟩ : ∃ z, x.at_ = z := ⟨_, rfl⟩
          obtain ⟨yn, hyn⟩ : ∃ z, y.node = z := ⟨_, rfl⟩
          obtain ⟨ya, hya⟩ : ∃ z, y.at_ = z := ⟨_, rfl⟩
          rw [hxn] at q1 hne
          rw [hxa] at q2 hne
          rw [hyn] at p1 hne
          rw [hya] at p2 hne
          clear hxn hxa hyn hya hbx hm2 hv2 hv4 hL1 hL2 hx hy CB
          by_cases hnn : yn = xn
          · subst hnn
            have ea : (ya == xa) = false := by simpa using fun h => hne ⟨rfl, h⟩
            clear hne
            go_wp2_with fail
            go_quiet (fail)
            go_wp2_with (refine ldC rfl (.tmp 110) rfl _ rfl x (HL1.out.below (below_drewN (Below.refl _ _) _)) ?_)
            refine (CBX.out _).mono ?_
            rintro e w6 ⟨rfl, b6⟩
            go_wp2_with fail
            go_roundg (n - (i + 1))
            case measure => omega
            case rel => exact ⟨k, i + 1, rfl, by go_num, by omega, by omega, by omega, below_seq (below_drewN bel _) b6, HM2⟩
          · have en : (yn == xn) = false := by simpa using hnn
            clear hne hnn
            go_wp2_with fail
            go_quiet (fail)
            go_wp2_with (refine ldC rfl (.tmp 110) rfl _ rfl x (HL1.out.below (below_drewN (Below.refl _ _) _)) ?_)
            refine (CBX.out _).mono ?_
            rintro e w6 ⟨rfl, b6⟩
            go_wp2_with fail
            go_roundg (n - (i + 1))
            case measure => omega
            case rel => exact ⟨k, i + 1, rfl, by go_num, by omega, by omega, by omega, below_seq (below_drewN bel _) b6, HM2⟩
      · obtain rfl : k = p := by omega
        obtain ⟨hbx, hm2⟩ := match_out hx (by rw [HP.out]; exact Nat.le_refl _) HM.out
        have HM2 := Lib.hid hm2
        have CBX := Lib.hid (CB.out true hbx)
        have HL1 := Lib.hid hL1
        have hnz : ¬ (k : Int) < k := by omega
        clear hbx hm2 hv2 hL1 hx CB
        go_wp2_with fail
        go_quiet (fail)
        go_wp2_with (refine ldC rfl (.tmp 110) rfl _ rfl x (HL1.out.below (below_drewN (Below.refl _ _) _)) ?_)
        refine (CBX.out _).mono ?_
        rintro e w6 ⟨rfl, b6⟩
        go_wp2_with fail
        go_roundg (n - (i + 1))
        case measure => omega
        case rel => exact ⟨k, i + 1, rfl, by go_num, by omega, by omega, by omega, below_seq (below_drewN bel _) b6, HM2⟩
    · obtain rfl : i = n := by omega
      have hpk := match_at_end (by rw [HN.out]; exact Nat.le_refl _) HM.out
      rw [HP.out] at hpk
      obtain rfl : k = p := by omega
      clear hpk
      go_wp2_with fail
      refine (CS.out _ bel).mono ?_
      rintro e w4 ⟨rfl, b4⟩
      have HB4 := Lib.hid (below_seq HB3.out (below_seq bel b4))
      clear b4
      go_wp2_with fail
      refine (HD.out _ HB4.out).mono ?_
      rintro e w5 ⟨rfl, b5⟩
      go_wp2_with fail
      go_ret
      exact ⟨rfl, b5⟩

end Go.Proofs.YtejcfhfmdijimaaDoor
