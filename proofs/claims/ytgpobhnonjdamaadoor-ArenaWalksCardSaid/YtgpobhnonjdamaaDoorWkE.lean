/- The walk of ArenaWalks. Conditions: the nodes lie where the slice says, their numbers fit their kinds; the tables lie as the program's text lays them. -/
import Derived.Test.YtgpobhnonjdamaaDoorArGood
import Derived.Test.YtgpobhnonjdamaaDoorArNone
import Derived.Test.YtgpobhnonjdamaaDoorWkD
import Derived.Test.YtgpobhnonjdamaaDoorWkB
import Derived.Test.YtgpobhnonjdamaaDoorWkA
import Derived.WalkSmall
import Derived.BigQuiet
namespace Go.Proofs.YtgpobhnonjdamaaDoor
open Go.ChangeShapes Go.WideShapes Go.ChangeAt Go.RowKit

theorem wf16_of {l : List Nod} (h : WfL l) : Wf16 (l.map Nod.d) := fun i hi => by
  rw [List.length_map] at hi
  obtain ⟨x, hx⟩ := at_of hi
  have := (h i x hx).d
  rw [List.getD_eq_getElem?_getD, List.getElem?_map, hx]
  exact this
theorem styres_len {base : Sty} {ps : List Int} {ds : List Dcl} {z : Int} {l : List Sty} (h : StyRes base ps ds z l) : l.length ≤ ds.length := by
  rcases h with ⟨_, _, rfl⟩ | ⟨_, _, _, rfl⟩ | ⟨_, _, _, rfl⟩
  · simp
  · simp
  · rw [styK_len]
    exact Nat.le_refl _
theorem step_in {ps : List Int} {op : List Nat} {nx nd : Nat} {st : List Nat × Nat} (h : stepW ps (op, nx) (nd, true) = some st) : nd = nx ∧ parOk ps op nx = true ∧ st = (op ++ [nx], nx + 1) := by
  unfold stepW at h
  rw [if_pos rfl] at h
  split at h
  · rename_i hc
    exact ⟨hc.1, hc.2, (Option.some.inj h).symm⟩
  · cases h
theorem step_out {ps : List Int} {op : List Nat} {nx nd : Nat} {st : List Nat × Nat} (h : stepW ps (op, nx) (nd, false) = some st) : ∃ op0, op = op0 ++ [nd] ∧ st = (op0, nx) := by
  unfold stepW at h
  rw [if_neg (by simp)] at h
  split at h
  · rename_i hc
    have hc : op.getLast? = some nd := hc
    refine ⟨op.dropLast, ?_, (Option.some.inj h).symm⟩
    have hne : op ≠ [] := by rintro rfl; cases hc
    rw [List.getLast?_eq_some_getLast hne] at hc
    have := List.dropLast_concat_getLast hne
    rw [Option.some.inj hc] at this
    exact this.symm
  · cases h
theorem par_in {ps : List Int} {op0 : List Nat} {p nx : Nat} (h : parOk ps (op0 ++ [p]) nx = true) : pr ps nx = (p : Int) := by
  unfold parOk at h
  rw [List.getLast?_concat] at h
  exact of_decide_eq_true h
theorem wlk_lt {ps : List Int} : ∀ f n, n < ps.length → ∀ s ∈ wlk ps f n, s.1 < ps.length := by
  intro f
  induction f with
  | zero => intro n _ s hs; cases hs
  | succ f ih =>
    intro n hn s hs
    rcases List.mem_cons.1 hs with rfl | hs
    · exact hn
    rcases List.mem_append.1 hs with hs | hs
    · obtain ⟨k, hk, hs⟩ := List.mem_flatMap.1 hs
      exact ih k (mem_kids hk).1 s hs
    · rw [List.mem_singleton.1 hs]
      exact hn
theorem op_snoc {op : List Nat} (h : op ≠ []) : ∃ op0 p, op = op0 ++ [p] := ⟨op.dropLast, op.getLast h, (List.dropLast_concat_getLast h).symm⟩

set_option maxRecDepth 100000 in
set_option maxHeartbeats 16000000 in
theorem awalks_any (l : List Nod) (v : Value) (z : Int) (base : Sty) (w : World) (hR : Ns w v l) (hW : WfL l) (hlen : l.length ≤ 9223372036854775807) (hTab : Tab w) :
    Calls Tryd.prog 4 #[v, .int .i64 z, .agg base.cells] w fun e w' => e = .returned (.bool true) ∧ Below w.heap.size w w' := by
  have hTp := hTab.pos
  have CH : Hid (∀ W, Below w.heap.size w W → Calls Tryd.prog 9 #[] W fun e w' => e = .returned (.bool true) ∧ Below W.heap.size W w') := Lib.hid fun W b => head_any W (hTab.below hTp b)
  have CG := Lib.hid (fun W (b : Below w.heap.size w W) => great_any l v W (hR.below b) hlen)
  have CN := Lib.hid (fun W (b : Below w.heap.size w W) => anew_any l v W (hR.below b) hW (hTab.below hTp b))
  have HR := Lib.hid hR
  have HW := Lib.hid hW
  obtain ⟨A, cap, rfl⟩ := hR.form
  obtain ⟨n, hl⟩ : ∃ n, l.length = n := ⟨_, rfl⟩
  have HL := Lib.hid hl
  rw [hl] at hlen CG CN HR ⊢
  clear hR hW hTab hl
  go_enter Tryd.func4, Tryd.ntmps4
  go_wp2_with (refine bxSV rfl (.tmp 2) rfl base rfl ?_; intro wb b0 BB)
  refine (CG.out _ b0).mono ?_
  rintro e w0 ⟨b, rfl, _, rfl⟩
  cases b
  rotate_left
  · clear CG CN BB
    go_wp2_with fail
    refine (CH.out _ b0).mono ?_
    rintro e wh ⟨rfl, bh⟩
    go_wp2_with fail
    go_ret
    exact ⟨rfl, below_seq b0 bh⟩
  by_cases h0 : 60 < n
  · have h0z : (60 : Int) < n := by omega
    clear CG CN BB
    go_wp2_with fail
    refine (CH.out _ b0).mono ?_
    rintro e wh ⟨rfl, bh⟩
    go_wp2_with fail
    go_ret
    exact ⟨rfl, below_seq b0 bh⟩
  have h0z : (n : Int) ≤ 60 := by omega
  go_wp2_with fail
  refine (CN.out _ b0).mono ?_
  rintro e w1 (⟨hg, p, rfl, hTr, b01⟩ | ⟨hne, rfl, b01⟩)
  rotate_left
  · obtain ⟨q, hq⟩ : ∃ q, chkT l = q := ⟨_, rfl⟩
    rw [hq] at hne ⊢
    have b1 := below_seq b0 b01
    clear hq CG CN BB b0 b01
    go_wp2_with fail
    refine (CH.out _ b1).mono ?_
    rintro e wh ⟨rfl, bh⟩
    go_wp2_with fail
    go_ret
    exact ⟨rfl, below_seq b1 bh⟩
  have b1 := below_seq b0 b01
  have E1 := BB.keep (S := fun _ => False) (Mod.of_below b01) id
  have hG := (good_iff l).1 hg
  have hT := hG.tre
  obtain ⟨g, rfl⟩ : ∃ g, p = .pointer (some ⟨g, 0, none⟩) := by obtain ⟨g, _, _, _, _, h, _⟩ := hTr; exact ⟨g, h⟩
  have hR1 := HR.out.below b1
  have hpos := hG.pos
  have h16 := wf16_of HW.out
  have hl60 : l.length ≤ 60 := by rw [HL.out]; omega
  have SA := Lib.hid fun W (b : Below w1.heap.size w1 W) => asty_any _ l base W (hTr.below b) hpos (by omega) h16
  have SR := Lib.hid fun W (b : Below w1.heap.size w1 W) => rsty_any base l _ W (hR1.below b) (by omega) h16
  have WO : Hid (∀ W, Below w1.heap.size w1 W → (z < 0 ∨ (n : Int) ≤ z) → Calls Tryd.prog 26 #[.pointer (some ⟨g, 0, none⟩), .int .i64 z] W fun e w' => e = .returned (.slice none 0 0) ∧ W = w') := Lib.hid fun W b h => awalk_no _ l.length z W (hTr.below b).len (by rw [fndE_out hpos (by rw [HL.out]; exact h)]; decide)
  have WK := Lib.hid fun W (k : Nat) (b : Below w1.heap.size w1 W) (hk : k < l.length) => awalk_any _ l k W (hTr.below b) hT hk hl60
  have RW := Lib.hid fun W (k : Nat) (b : Below w1.heap.size w1 W) (hk : k < l.length) => rwalk_any l _ hT (by omega) l.length k W (by omega) hk (hR1.below b)
  have EN : Hid (∀ W (a e : Nat), Below w1.heap.size w1 W → a < l.length → EndOf (psOf l) a e → Calls Tryd.prog 13 #[.pointer (some ⟨g, 0, none⟩), .int .i64 (a : Int)] W fun e' w' => e' = .returned (.tuple #[.int .i64 (e : Int), .int .i64 0]) ∧ Below W.heap.size W w') := Lib.hid fun W a e b ha hE => (aend_any _ l a e W (hTr.below b) ha hE).mono fun e w' ⟨he, hw⟩ => ⟨he, hw ▸ Below.refl _ _⟩
  have HR1 := Lib.hid hR1
  have HT := Lib.hid hT
  have HLE : Hid (l.length ≤ 60) := Lib.hid hl60
  have HSL : Hid (∀ z ss, StyRes base (psOf l) (l.map Nod.d) z ss → ss.length ≤ 1000) := Lib.hid fun z ss h => by
    have := styres_len h
    rw [List.length_map] at this
    omega
  clear CG CN hTr hR1 hG hg HW hl60 hT hpos h16 BB b0 b01
  go_wp2_with (refine ldS rfl (.tmp 5) rfl _ rfl base E1.lies ?_)
  refine (SA.out _ (Below.refl _ _)).mono ?_
  rintro e w2 ⟨u1, z1, l1, rfl, hres1, hs1, b2⟩
  have E2 := E1.keep (S := fun _ => False) (Mod.of_below b2) id
  have HQ1 := Lib.hid hres1
  have HS1 := Lib.hid hs1
  clear hres1 hs1 E1 SA
  go_wp2_with (refine ldS rfl (.tmp 5) rfl _ rfl base E2.lies ?_)
  refine (SR.out _ b2).mono ?_
  rintro e w3 ⟨u2, z2, l2, rfl, hres2, hs2, b3⟩
  obtain ⟨rfl, rfl⟩ := HQ1.out.uniq hres2
  have CS := Lib.hid (rsame_any _ _ _ w3 (HS1.out.below b3) hs2 (HSL.out _ _ hres2))
  have b13 := below_seq b2 b3
  clear hres2 hs2 HQ1 HS1 E2 SR b2 b3 HSL
  go_wp2_with fail
  refine CS.out.mono ?_
  rintro e w4 ⟨rfl, b4⟩
  have b14 := below_seq b13 b4
  clear b13 b4 CS
  by_cases h1 : z < 0
  · have h1z : ¬ (n : Int) ≤ z := by omega
    have C := Lib.hid (WO.out _ b14 (.inl h1))
    have b04 := below_seq b1 b14
    clear WO WK RW EN
    go_wp2_with fail
    refine C.out.mono ?_
    rintro e w5 ⟨rfl, rfl⟩
    go_wp2_with fail
    refine (CH.out _ b04).mono ?_
    rintro e wh ⟨rfl, bh⟩
    go_wp2_with fail
    go_ret
    exact ⟨rfl, below_seq b04 bh⟩
  by_cases h2 : (n : Int) ≤ z
  · have C := Lib.hid (WO.out _ b14 (.inr h2))
    have b04 := below_seq b1 b14
    clear WO WK RW EN
    go_wp2_with fail
    refine C.out.mono ?_
    rintro e w5 ⟨rfl, rfl⟩
    go_wp2_with fail
    refine (CH.out _ b04).mono ?_
    rintro e wh ⟨rfl, bh⟩
    go_wp2_with fail
    go_ret
    exact ⟨rfl, below_seq b04 bh⟩
  obtain ⟨k, rfl⟩ : ∃ k : Nat, z = k := ⟨z.toNat, by omega⟩
  have hkn : k < n := by omega
  have hkl : k < l.length := by rw [HL.out]; exact hkn
  have HKL := Lib.hid hkl
  have C1 := Lib.hid (WK.out _ k b14 hkl)
  have C2 := Lib.hid fun W (b : Below w1.heap.size w1 W) => RW.out W k b HKL.out
  obtain ⟨en, hE⟩ := EndOf.exists_ (ps := psOf l) k (by rw [psOf_len]; exact hkl)
  have C3 := Lib.hid fun W (b : Below w1.heap.size w1 W) => EN.out W k en b HKL.out hE
  have hrun : runW (psOf l) (walkL (psOf l) k) ([], k) = some ([], en) := wlk_runs HT.out _ k en [] (by omega) (by rw [psOf_len]; omega) hE rfl
  have hnd : ∀ s ∈ walkL (psOf l) k, s.1 < l.length := fun s hs => by
    have := wlk_lt (ps := psOf l) _ k (by rw [psOf_len]; exact hkl) s hs
    rwa [psOf_len] at this
  have hxl := (walkL_le HT.out (n := k) (by rw [psOf_len]; exact hkl)).1
  rw [psOf_len] at hxl
  have hen : en ≤ 60 := by
    have := hE.le
    rw [psOf_len] at this
    have := HLE.out
    omega
  clear WO WK RW EN h1 h2 hkl hE
  go_wp2_with fail
  refine C1.out.mono ?_
  rintro e w5 ⟨u, rfl, hu, b5⟩
  have b15 := below_seq b14 b5
  have HU := Lib.hid hu
  obtain ⟨xs, hxs⟩ : ∃ xs, walkL (psOf l) k = xs := ⟨_, rfl⟩
  rw [hxs] at hrun hnd hxl HU C2 hu
  obtain ⟨B, cap2, rfl⟩ := hu.form
  obtain ⟨m, hm⟩ : ∃ m, xs.length = m := ⟨_, rfl⟩
  have HM := Lib.hid hm
  rw [hm] at hxl HU ⊢
  have hm120 : m ≤ 120 := by have := HLE.out; omega
  have HRUN := Lib.hid hrun
  have HND := Lib.hid hnd
  clear hrun hnd hxl hu hxs C1 b14 b5 hm
  go_wp2_with fail
  refine (C2.out _ b15).mono ?_
  rintro e w6 ⟨u6, rfl, hu6, b6⟩
  have b16 := below_seq b15 b6
  have HU6 := Lib.hid (HU.out.below b6)
  have CS := Lib.hid (rstops_any _ _ xs w6 HU6.out hu6 (by rw [HM.out]; omega))
  clear hu6 b15 b6 HU C2
  go_wp2_with fail
  refine CS.out.mono ?_
  rintro e w7 ⟨rfl, b7⟩
  have b17 := below_seq b16 b7
  have HU := Lib.hid (HU6.out.below b7)
  have HR7 := Lib.hid (HR1.out.below b17)
  clear CS b16 b7 HU6 HR1
  go_wp2_with fail
  go_loopg [14, 15, 16] m (fun kx s14 s15 s16 wr => ∃ (i nx q : Nat) (op : List Nat) (v0 : Value), s16 = .int .i64 i ∧ s15 = .int .i64 nx ∧ v0 = s14 ∧ i ≤ m ∧ nx ≤ k + i ∧ q ≤ i ∧ kx = m - i ∧ Below w7.heap.size w7 wr ∧ wr.ownsRow w7.heap.size 3 1 v0 q (op.map iv) ∧ Hid (op.length = q) ∧ Hid (runW (psOf l) (xs.drop i) (op, nx) = some ([], en)))
  case atStart => exact ⟨0, k, 0, [], _, by go_num, rfl, rfl, by omega, by omega, by omega, rfl, Below.refl _ _, World.ownsRow_nil _ _ _ _, Lib.hid rfl, HRUN⟩
  case round =>
    obtain ⟨i, nx, q, op, v0, rfl, rfl, rfl, hi, hnx, hqi, rfl, bel, hown, HOL, HRN⟩ := hrel
    clear HRUN
    have HOWN := Lib.hid hown
    have hbs := bel.size
    by_cases hlt : i < m
    · have hiz : (i : Int) < m := by omega
      have hil : i < xs.length := by rw [HM.out]; exact hlt
      obtain ⟨s, hs⟩ : ∃ s, xs[i]? = some s := ⟨_, List.getElem?_eq_getElem hil⟩
      have hd : xs.drop i = s :: xs.drop (i + 1) := by
        rw [List.drop_eq_getElem_cons hil]
        congr 1
        have := List.getElem?_eq_getElem hil
        rw [hs] at this
        exact (Option.some.inj this).symm
      have hrn := HRN.out
      rw [hd] at hrn
      obtain ⟨st, hst, hrest⟩ := Option.bind_eq_some_iff.1 hrn
      have hsn := HND.out s (List.mem_of_getElem? hs)
      obtain ⟨ad, cap3, o, hv, hab, ha, hLi⟩ := HU.out.get bel hs
      rw [HM.out] at hv
      injection hv with hv1 hv2 hv3
      subst hv1 hv3
      obtain ⟨nd, bb⟩ := s
      have c0 : wr.cell? ⟨ad.block, o, none⟩ = some (.int .i64 (nd : Int)) := hLi.at_ 0 rfl
      have c1 : wr.cell? ⟨ad.block, o + 1, none⟩ = some (.bool bb) := hLi.at_ 1 rfl
      have b1r := below_seq b17 bel
      clear hv2 hLi hs hd hrn HRN hil
      cases bb with
      | true =>
        obtain ⟨rfl, hpo, rfl⟩ := step_in hst
        have HRS := Lib.hid hrest
        clear hst hrest
        have hnl : nd < n := by rw [← HL.out]; exact hsn
        have hnlz : (nd : Int) < n := by omega
        by_cases hop : op = []
        · subst hop
          obtain rfl : 0 = q := HOL.out
          rcases hown.2 with ⟨rfl, _⟩ | ⟨g', cap', cur, rfl, _⟩
          all_goals
            clear hown
            go_wp2_with fail
            go_quiet (fail)
            go_wp2_with (refine apI rfl (.tmp 122) rfl 123 rfl rfl (.tmp 121) rfl (nd : Int) rfl _ (fun _ => rfl) (fun _ => rfl) w7.heap.size 0 _ HOWN.out (by omega) hbs ?_; intro uu v5 w5 own5 b5)
            go_roundg (m - (i + 1))
            case measure => omega
            case rel => exact ⟨i + 1, nd + 1, 1, [nd], _, by go_num, by go_num, rfl, by omega, by omega, by omega, rfl, (below_drewN bel _).trans b5, own5, Lib.hid rfl, HRS⟩
        · obtain ⟨op0, p, rfl⟩ := op_snoc hop
          obtain ⟨q0, rfl⟩ : ∃ q0, q = q0 + 1 := ⟨q - 1, by have := HOL.out; rw [List.length_append] at this; simp at this; omega⟩
          have hq0 : op0.length = q0 := by have := HOL.out; rw [List.length_append] at this; simpa using this
          obtain ⟨g', cap', rfl⟩ := ownsRow_succ hown
          have ct : wr.cell? ⟨g', q0, none⟩ = some (.int .i64 (p : Int)) := (hown.cellAt q0 (by omega)).trans (by rw [List.map_append, ← hq0, ← List.length_map (f := iv), List.getElem?_append_right (Nat.le_refl _)]; simp [iv])
          obtain ⟨x, hx⟩ := at_of (l := l) (i := nd) hsn
          obtain ⟨ad2, cap4, o2, hv, _, ha2, hL2⟩ := HR7.out.get bel hx
          injection hv with hv1 hv2 hv3
          subst hv1 hv3
          have cp := hL2.p
          rw [show x.p = (p : Int) by rw [← pr_of hx]; exact par_in hpo] at cp
          have HQ0 := Lib.hid hq0
          clear hown hL2 hx hv2 hpo hop hq0
          go_wp2_with fail
          go_quiet (fail)
          go_wp2_with (refine apI rfl (.tmp 122) rfl 123 rfl rfl (.tmp 121) rfl (nd : Int) rfl _ (fun _ => rfl) (fun _ => rfl) w7.heap.size (q0 + 1) _ HOWN.out (by omega) hbs ?_; intro uu v5 w5 own5 b5)
          go_roundg (m - (i + 1))
          case measure => omega
          case rel => exact ⟨i + 1, nd + 1, q0 + 1 + 1, (op0 ++ [p]) ++ [nd], _, by go_num, by go_num, rfl, by omega, by omega, by omega, rfl, (below_drewN bel _).trans b5, by rw [List.map_append]; exact own5, Lib.hid (by rw [List.length_append, HOL.out]; rfl), HRS⟩
      | false =>
        obtain ⟨op0, rfl, rfl⟩ := step_out hst
        have HRS := Lib.hid hrest
        obtain ⟨q0, rfl⟩ : ∃ q0, q = q0 + 1 := ⟨q - 1, by have := HOL.out; rw [List.length_append] at this; simp at this; omega⟩
        have hq0 : op0.length = q0 := by have := HOL.out; rw [List.length_append] at this; simpa using this
        rcases hown.2 with ⟨_, hn0⟩ | ⟨g', cap', cur, rfl, _, _, hncap, _⟩
        · simp at hn0
        have ct : wr.cell? ⟨g', q0, none⟩ = some (.int .i64 (nd : Int)) := (hown.cellAt q0 (by omega)).trans (by rw [List.map_append, ← hq0, ← List.length_map (f := iv), List.getElem?_append_right (Nat.le_refl _)]; simp [iv])
        have OP : Hid (wr.ownsRow w7.heap.size 3 1 (.slice (some ⟨g', 0, none⟩) q0 cap') q0 (op0.map iv)) := Lib.hid (ownsRow_pop (last := [iv nd]) (by rw [List.length_map, hq0, Nat.mul_one]) (by rw [List.map_append] at hown; exact hown))
        have HQ0 := Lib.hid hq0
        clear hown hst hrest hq0
        have hg0 : (((q0 : Int) + 1) == 0) = false := by simp; omega
        go_wp2_with fail
        go_quiet (fail)
        go_wp2_with fail
        go_roundg (m - (i + 1))
        case measure => omega
        case rel => exact ⟨i + 1, nx, q0, op0, _, by go_num, rfl, rfl, by omega, by omega, by omega, rfl, below_drewN bel _, OP.out, HQ0, HRS⟩
    · obtain rfl : i = m := by omega
      have hrn := HRN.out
      rw [List.drop_of_length_le (by rw [HM.out]; exact Nat.le_refl _)] at hrn
      have hrn : (op, nx) = ([], en) := Option.some.inj hrn
      obtain ⟨rfl, rfl⟩ := Prod.mk.inj hrn
      obtain rfl : 0 = q := HOL.out
      have b1r := below_seq b17 bel
      have b0r := below_seq b1 b1r
      clear hrn HRN
      rcases hown.2 with ⟨rfl, _⟩ | ⟨g', cap', cur, rfl, _⟩
      all_goals
        clear hown
        go_wp2_with fail
        refine (C3.out _ b1r).mono ?_
        rintro e w9 ⟨rfl, b9⟩
        have b09 := below_seq b0r b9
        go_wp2_with fail
        refine (CH.out _ b09).mono ?_
        rintro e wh ⟨rfl, bh⟩
        go_wp2_with fail
        go_ret
        exact ⟨rfl, below_seq b09 bh⟩
end Go.Proofs.YtgpobhnonjdamaaDoor
