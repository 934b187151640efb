/- Contract of the reference's classes: what layer 9 says of a place, of the part that it lies in. Conditions: the slices read as the lists, at most 100000 characters, each with a style. -/
import Derived.Test.YtnoenccpbbkdeaaCh9
import Derived.Test.YtnoenccpbbkdeaaCh6
import Derived.Test.YtnoenccpbbkdeaaGO
import Derived.Test.YtnoenccpbbkdeaaGK
namespace Go.Proofs.Ytnoenccpbbkdeaa
open Go.ChangeShapes Go.WideShapes Go.ChangeAt Go.RowKit Go.Shelf
open Wh (Cr)
open Ch

/-! ### the part of a place -/
theorem part_beg (l : List Cr) : ∀ i, i ≤ l.length → ∃ F, F ≤ i ∧ (F = 0 ∨ ∃ j c, F = j + 1 ∧ l[j]? = some c ∧ c.kind = 5) ∧ ∀ k d, F ≤ k → k < i → l[k]? = some d → d.kind ≠ 5
  | 0, _ => ⟨0, Nat.le_refl _, .inl rfl, fun k d _ h => by omega⟩
  | i + 1, h => by
    obtain ⟨c, hc⟩ := at_ (l := l) (k := i) (by omega)
    by_cases h5 : c.kind = 5
    · exact ⟨i + 1, Nat.le_refl _, .inr ⟨i, c, rfl, hc, h5⟩, fun k d h1 h2 => by omega⟩
    · obtain ⟨F, h1, h2, h3⟩ := part_beg l i (by omega)
      refine ⟨F, by omega, h2, fun k d hk hk2 hd => ?_⟩
      by_cases e : k = i
      · subst e
        rw [hc] at hd
        cases hd
        exact h5
      · exact h3 k d hk (by omega) hd
theorem part_end (l : List Cr) : ∀ n i, l.length - i = n → i ≤ l.length → ∃ T, i ≤ T ∧ T ≤ l.length ∧ (T = l.length ∨ ∃ c, l[T]? = some c ∧ c.kind = 5) ∧ ∀ k d, i ≤ k → k < T → l[k]? = some d → d.kind ≠ 5
  | 0, i, h, h1 => ⟨i, Nat.le_refl _, h1, .inl (by omega), fun k d _ h => by omega⟩
  | n + 1, i, h, h1 => by
    obtain ⟨c, hc⟩ := at_ (l := l) (k := i) (by omega)
    by_cases h5 : c.kind = 5
    · exact ⟨i, Nat.le_refl _, h1, .inr ⟨c, hc, h5⟩, fun k d h1 h2 => by omega⟩
    · obtain ⟨T, h1, h2, h3, h4⟩ := part_end l n (i + 1) (by omega) (by omega)
      refine ⟨T, by omega, h2, h3, fun k d hk hk2 hd => ?_⟩
      by_cases e : k = i
      · subst e
        rw [hc] at hd
        cases hd
        exact h5
      · exact h4 k d (by omega) hk2 hd
theorem part_of (l : List Cr) {i : Nat} (h : i < l.length) : ∃ F T, Part l F T ∧ F ≤ i ∧ i ≤ T := by
  obtain ⟨F, h1, h2, h3⟩ := part_beg l i (by omega)
  obtain ⟨T, h4, h5, h6, h7⟩ := part_end l _ i rfl (by omega)
  refine ⟨F, T, ⟨by omega, h5, h2, fun k d hk hk2 hd => ?_, h6⟩, h1, h4⟩
  by_cases e : k < i
  · exact h3 k d hk e hd
  · exact h7 k d (by omega) hk2 hd
/-- the classes from F on, up to n -/
def clT (ss : List Sty) (l : List Cr) (F n : Nat) : List Int := ((clL ss l).drop F).take (n - F)
theorem clT_succ {ss : List Sty} {l : List Cr} {F n : Nat} {c : Cr} (h : F ≤ n) (hc : l[n]? = some c) : clT ss l F (n + 1) = clT ss l F n ++ [clsC c (stl ss c.node)] := by
  unfold clT
  have e : n + 1 - F = (n - F) + 1 := by omega
  rw [e, List.take_add_one, List.getElem?_drop, show F + (n - F) = n by omega]
  unfold clL
  rw [List.getElem?_map, hc]
  rfl
theorem clT_self (ss : List Sty) (l : List Cr) (F : Nat) : clT ss l F F = [] := by unfold clT; rw [Nat.sub_self]; rfl
theorem clT_len {ss : List Sty} {l : List Cr} {F n : Nat} (h : n ≤ l.length) : (clT ss l F n).length = n - F := by
  unfold clT
  rw [List.length_take, List.length_drop, clL_len]
  omega

/-! ### a region that appends what a call tells of an element -/
section
variable {P : Program} {ops : Array Oper} {J : (Nat → Bool) → (Nat → Value) → World → Prop}
theorem StepJ.rd {listed : Nat → Bool} {us : Nat → Value} {i : Nat} {o : Oper} {a : Act} {w : World} (hg : o.guard = none) (u : Value) (hrun : (execOp a.eval o).run P w = .ok (.value u) w) (h : J (updB listed i) (updU us i u) w) : StepJ P ops J listed us i o a w :=
  .inl ⟨wanted_none hg _, .inl ⟨u, w, hrun, h⟩⟩
end
structure JR (w wr : World) (vals : Nat → Value) (L : List Int) (x : Int) (listed : Nat → Bool) (us : Nat → Value) (W : World) : Prop where
  bel : Below w.heap.size w W
  pre : listed 15 = false → Below wr.heap.size wr W
  val : ∀ j, j < 14 → listed j = true → us j = vals j
  row : listed 14 = true → listed 15 = false → R8 W (us 14) [x]
  own : listed 15 = true → own8 w.heap.size W (us 15) (L ++ [x])
  fin : listed 16 = true → us 16 = us 15
section
variable {w wr W W' : World} {vals : Nat → Value} {L : List Int} {x : Int} {listed : Nat → Bool} {us : Nat → Value}
theorem JR.rd (h : JR w wr vals L x listed us W) (i : Nat) (hi : i < 14) : JR w wr vals L x (updB listed i) (updU us i (vals i)) W := by
  refine ⟨h.bel, fun e => ?_, fun j hj e => ?_, fun e e2 => ?_, fun e => ?_, fun e => ?_⟩
  · rw [updB_ne _ (by omega)] at e; exact h.pre e
  · by_cases ej : j = i
    · subst ej; rw [updU_eq]
    · rw [updB_ne _ ej] at e; rw [updU_ne _ _ ej]; exact h.val j hj e
  · rw [updB_ne _ (by omega)] at e e2; rw [updU_ne _ _ (by omega)]; exact h.row e e2
  · rw [updB_ne _ (by omega)] at e; rw [updU_ne _ _ (by omega)]; exact h.own e
  · rw [updB_ne _ (by omega)] at e; rw [updU_ne _ _ (by omega), updU_ne _ _ (by omega)]; exact h.fin e
theorem JR.below (h : JR w wr vals L x listed us W) (b : Below W.heap.size W W') : JR w wr vals L x listed us W' :=
  ⟨h.bel.trans (b.mono h.bel.size), fun e => (h.pre e).trans (b.mono (h.pre e).size), h.val, fun e e2 => Row.below (h.row e e2) b, fun e => own8.below (h.own e) b, h.fin⟩
theorem JR.lit (h : JR w wr vals L x listed us W) (b : Below W.heap.size W W') {u : Value} (hu : R8 W' u [x]) : JR w wr vals L x (updB listed 14) (updU us 14 u) W' := by
  have k := h.below b
  refine ⟨k.bel, fun e => ?_, fun j hj e => ?_, fun _ _ => ?_, fun e => ?_, fun e => ?_⟩
  · rw [updB_ne _ (by decide)] at e; exact k.pre e
  · rw [updB_ne _ (by omega)] at e; rw [updU_ne _ _ (by omega)]; exact k.val j hj e
  · rw [updU_eq]; exact hu
  · rw [updB_ne _ (by decide)] at e; rw [updU_ne _ _ (by decide)]; exact k.own e
  · rw [updB_ne _ (by decide)] at e; rw [updU_ne _ _ (by decide), updU_ne _ _ (by decide)]; exact k.fin e
theorem JR.app (h : JR w wr vals L x listed us W) (h16 : listed 16 = false) (b : Below w.heap.size W W') {u : Value} (hu : own8 w.heap.size W' u (L ++ [x])) : JR w wr vals L x (updB listed 15) (updU us 15 u) W' := by
  refine ⟨h.bel.trans b, fun e => ?_, fun j hj e => ?_, fun _ e => ?_, fun _ => ?_, fun e => ?_⟩
  · rw [updB_eq] at e; cases e
  · rw [updB_ne _ (by omega)] at e; rw [updU_ne _ _ (by omega)]; exact h.val j hj e
  · rw [updB_eq] at e; cases e
  · rw [updU_eq]; exact hu
  · rw [updB_ne _ (by decide), h16] at e; cases e
theorem JR.last (h : JR w wr vals L x listed us W) : JR w wr vals L x (updB listed 16) (updU us 16 (us 15)) W := by
  refine ⟨h.bel, fun e => ?_, fun j hj e => ?_, fun e e2 => ?_, fun e => ?_, fun _ => ?_⟩
  · rw [updB_ne _ (by decide)] at e; exact h.pre e
  · rw [updB_ne _ (by omega)] at e; rw [updU_ne _ _ (by omega)]; exact h.val j hj e
  · rw [updB_ne _ (by decide)] at e e2; rw [updU_ne _ _ (by decide)]; exact h.row e e2
  · rw [updB_ne _ (by decide)] at e; rw [updU_ne _ _ (by decide)]; exact h.own e
  · rw [updU_eq, updU_ne _ _ (by decide)]
end
theorem bs8_1 (x : Int) (W : World) : (Instr.buildSlice 29 1 #[(0, .int .u8 x)]).run Try.prog W = .ok (.slice (some ⟨W.heap.size, 0, none⟩) 1 1) (W.alloc (.cells (r8 [x]).toArray 5)) := by kernel_rfl

set_option maxRecDepth 100000 in
set_option maxHeartbeats 16000000 in
theorem rclasses_any (ss : List Sty) (l : List Cr) (v vs : Value) (i : Nat) (w : World) (hR : RwC w v l) (hS : Ss w vs ss) (hlen : l.length ≤ 100000) (hnd : ∀ c ∈ l, 0 ≤ c.node ∧ c.node < (ss.length : Int)) (hi : i < l.length) :
    Calls Try.prog 46 #[v, vs, .int .i64 (i : Int)] w fun e w' => e = .returned (.bool (bkF ss l i)) ∧ Below w.heap.size w w' := by
  obtain ⟨F, T, hP, hFi, hiT⟩ := part_of l hi
  have HP := Lib.hid hP
  have HR := Lib.hid hR
  have HS := Lib.hid hS
  have HND := Lib.hid hnd
  have hFT := hP.le
  have hTl := hP.len
  obtain ⟨ci, hci⟩ := at_ hi
  obtain ⟨hni, hni2⟩ := hnd ci (List.mem_of_getElem? hci)
  obtain ⟨si, hsi⟩ := at_ (l := ss) (k := 0) (by omega)
  obtain ⟨ad, cap, _, rfl, _⟩ := hR.get (Below.refl _ _) hci
  obtain ⟨adS, cap2, _, rfl, _⟩ := hS.get (Below.refl _ _) hsi
  obtain ⟨m, hm⟩ : ∃ m, l.length = m := ⟨_, rfl⟩
  obtain ⟨m2, hm2⟩ : ∃ m, ss.length = m := ⟨_, rfl⟩
  have HM := Lib.hid hm
  have HM2 := Lib.hid hm2
  rw [hm2] at HS HND ⊢
  rw [hm] at hlen HR hi hTl ⊢
  clear hci hni hni2 hsi
  obtain ⟨bk, hbk⟩ : ∃ b, bkF ss l i = b := ⟨_, rfl⟩
  have HBK := Lib.hid hbk
  rw [hbk]
  obtain ⟨d, hd⟩ : ∃ d, i = F + d := ⟨i - F, by omega⟩
  have HD := Lib.hid hd
  have hw1 : IntKind.i64.wrap ((i : Int) - (F : Int)) = (d : Int) := (IntWalk.i64_in _ (by omega)).trans (by omega)
  have HW := Lib.hid hw1
  clear hR hS hm hm2 hnd hP hbk hw1 hd
  go_enter Try.func46, Try.ntmps46
  go_wp2_with fail
  go_loopg [7] i (fun kx s7 wr => ∃ (f : Nat), s7 = .int .i64 f ∧ F ≤ f ∧ f ≤ i ∧ kx = f ∧ wr = w)
  case atStart => exact ⟨i, rfl, hFi, Nat.le_refl _, by first | rfl | trivial, rfl⟩
  case round =>
    obtain ⟨f, rfl, hf1, hf2, hkx, rfl⟩ := hrel
    have HKX := Lib.hid hkx
    clear hkx
    by_cases hfF : F < f
    · obtain ⟨f0, hf0⟩ : ∃ f0, f = f0 + 1 := ⟨f - 1, by omega⟩
      obtain ⟨c, hc⟩ := at_ (l := l) (k := f0) (by rw [HM.out]; omega)
      have h5 := HP.out.mid f0 c (by omega) (by omega) hc
      obtain ⟨ad', cp, o, hv, hab, ha, hLi⟩ := HR.out.get (Below.refl _ _) hc
      rw [HM.out] at hv
      injection hv with hv1 hv2 hv3
      injection hv1 with hv1
      subst hv1 hv3
      have c4 : wr.cell? ⟨ad.block, o + 4, none⟩ = some (.int .u8 c.kind) := lies_cell hLi 4 rfl
      obtain ⟨kd, hkd⟩ : ∃ x, c.kind = x := ⟨_, rfl⟩
      rw [hkd] at c4 h5
      have hfz : (0 : Int) < f := by omega
      have hwf : IntKind.i64.wrap ((f : Int) - 1) = (f0 : Int) := (IntWalk.i64_in _ (by omega)).trans (by omega)
      have hf0z : (f0 : Int) < m := by omega
      have HF0 := Lib.hid hf0
      clear hv2 hc hLi hkd hf0
      go_wp2_with fail
      go_roundg f0
      case measure => have := HF0.out; have := HKX.out; omega
      case rel => have := HF0.out; exact ⟨f0, by first | rfl | go_num, by omega, by omega, by first | rfl | trivial, rfl⟩
    · obtain rfl : f = F := by omega
      obtain ⟨wz, hwz⟩ : ∃ x, x = wr := ⟨_, rfl⟩
      subst hwz
      rcases HP.out.beg with hbeg | ⟨j, c, hbeg, hc, h5⟩
      · subst hbeg
        go_wp2_with fail
        have hO0 : own8 wz.heap.size wz (.slice none 0 0) (clT ss l 0 0) := by rw [clT_self]; exact ⟨rfl, .inl ⟨rfl, rfl⟩⟩
        go_loopg [8, 9] (T - 0) (fun kx s8 s9 wr => ∃ (n : Nat) (v8 : Value), v8 = s8 ∧ s9 = .int .i64 n ∧ 0 ≤ n ∧ n ≤ T ∧ kx = T - n ∧ Below wz.heap.size wz wr ∧ own8 wz.heap.size wr v8 (clT ss l 0 n))
        case atStart => exact ⟨0, _, rfl, rfl, Nat.le_refl _, hFT, by first | rfl | omega, Below.refl _ _, hO0⟩
        case round =>
          clear hO0
          obtain ⟨n, v8, rfl, rfl, hn1, hn2, rfl, bel, hO⟩ := hrel
          by_cases hnT : n < T
          · obtain ⟨c, hc⟩ := at_ (l := l) (k := n) (by rw [HM.out]; omega)
            have h5 := HP.out.mid n c hn1 hnT hc
            obtain ⟨ad', cp, o, hv, hab, ha, hLi⟩ := HR.out.get bel hc
            rw [HM.out] at hv
            injection hv with hv1 hv2 hv3
            injection hv1 with hv1
            subst hv1 hv3
            obtain ⟨hq0, hq1⟩ := HND.out c (List.mem_of_getElem? hc)
            obtain ⟨nd, hnd⟩ : ∃ nd : Nat, c.node = (nd : Int) := ⟨c.node.toNat, by omega⟩
            have hndl : nd < m2 := by omega
            obtain ⟨s, hs⟩ := at_ (l := ss) (k := nd) (by rw [HM2.out]; exact hndl)
            obtain ⟨adS', cps, os, hvs, habs, haS, hLs⟩ := HS.out.get bel hs
            rw [HM2.out] at hvs
            injection hvs with hvs1 hvs2 hvs3
            injection hvs1 with hvs1
            subst hvs1 hvs3
            have hst : stl ss c.node = s := stl_at hs hnd
            have c4 : wr.cell? ⟨ad.block, o + 4, none⟩ = some (.int .u8 c.kind) := lies_cell hLi 4 rfl
            have hsu := clT_succ (ss := ss) hn1 hc
            rw [hst] at hsu
            have HSU := Lib.hid hsu
            have HNX : Hid (clsC c s = clsC c s) := Lib.hid rfl
            obtain ⟨kd, hkd⟩ : ∃ x, c.kind = x := ⟨_, rfl⟩
            rw [hkd] at c4 h5
            have hnz : (n : Int) < m := by omega
            have hndz : (nd : Int) < m2 := by omega
            have CC : Hid (∀ W, Below wz.heap.size wz W → Lies W ⟨ad.block, o, none⟩ (chA c) ∧ Lies W ⟨adS.block, os, none⟩ s.cells ∧ W.cell? ⟨ad.block, o + 1, none⟩ = some (.int .i64 (nd : Int))) := Lib.hid fun W b => by
              obtain ⟨adx, cp', o', hv', _, ha', hL'⟩ := HR.out.get b hc
              rw [HM.out] at hv'
              injection hv' with hv1' _ _
              injection hv1' with hv1'
              subst hv1'
              have ho : o' = o := by rw [ha] at ha'; injection ha' with _ e; exact e.symm
              subst ho
              obtain ⟨ady, cp2, o2, hv2, _, ha2, hL2⟩ := HS.out.get b hs
              rw [HM2.out] at hv2
              injection hv2 with hv12 _ _
              injection hv12 with hv12
              subst hv12
              have ho2 : o2 = os := by rw [haS] at ha2; injection ha2 with _ e; exact e.symm
              subst ho2
              refine ⟨hL', hL2, ?_⟩
              have := lies_cell hL' 1 (v := .int .i64 c.node) rfl
              rwa [hnd] at this
            have C1 : Hid (∀ W, Calls Try.prog 13 #[.agg (chA c), .agg s.cells] W fun e w' => e = .returned (.int .u8 (clsC c s)) ∧ Below W.heap.size W w') := Lib.hid fun W => rclass_any c s W
            obtain ⟨x, hx⟩ : ∃ x, clsC c s = x := ⟨_, rfl⟩
            rw [hx] at C1 HSU
            have HO := Lib.hid hO
            have hll : (clT ss l 0 n).length ≤ 100000 := by rw [clT_len (by rw [HM.out]; omega)]; omega
            obtain ⟨LL, hLL⟩ : ∃ L, clT ss l 0 n = L := ⟨_, rfl⟩
            rw [hLL] at HO HSU hll
            clear hv2 hvs2 hc hs hst hLi hLs hsu hkd hx hO hLL hq0 hq1 hnd HNX
            go_wp2_with fail
            refine region_JL (by kernel_rfl) (JR wz wr (fun j => ([v8, .slice (some ad) m cap, .int .i64 (n : Int), .pointer (some ⟨ad.block, o, none⟩), .agg (chA c), .slice (some adS) m2 cap2, .slice (some ad) m cap, .int .i64 (n : Int), .pointer (some ⟨ad.block, o, none⟩), .pointer (some ⟨ad.block, o + 1, none⟩), .int .i64 (nd : Int), .pointer (some ⟨adS.block, os, none⟩), .agg s.cells, .int .u8 x] : List Value).getD j undef) LL x) 16 (by rfl) (by kernel_rfl)
              ⟨below_drewN bel 1, fun _ => below_drewN (Below.refl _ _) 1, fun j _ h => (by cases h), fun h => (by cases h), fun h => (by cases h), fun h => (by cases h)⟩ (by kernel_rfl) (by kernel_rfl) (by kernel_rfl) (by kernel_rfl) ?stepJA ?doneJA
            case stepJA =>
              intro listed us W hJ i2 o2 ho hun hw hcl
              obtain ⟨q1, q2, q3⟩ := CC.out W hJ.bel
              have V : ∀ j, j < 14 → waits _ i2 j = true → us j = _ := fun j hj h => hJ.val j hj (hw j h)
              simp only [List.take_succ_cons, List.take_zero, putAll, Act.put, List.setIfInBounds_toArray, List.set_cons_zero, List.set_cons_succ]
              match i2, ho with
              | 0, ho =>
                simp only [List.getElem?_toArray, List.getElem?_cons_zero, Option.some.injEq] at ho
                subst ho
                exact StepJ.rd rfl (v8) (by go_simp) (hJ.rd 0 (by omega))
              | 1, ho =>
                simp only [List.getElem?_toArray, List.getElem?_cons_zero, List.getElem?_cons_succ, Option.some.injEq] at ho
                subst ho
                exact StepJ.rd rfl (.slice (some ad) m cap) (by go_simp) (hJ.rd 1 (by omega))
              | 2, ho =>
                simp only [List.getElem?_toArray, List.getElem?_cons_zero, List.getElem?_cons_succ, Option.some.injEq] at ho
                subst ho
                exact StepJ.rd rfl (.int .i64 (n : Int)) (by go_simp) (hJ.rd 2 (by omega))
              | 3, ho =>
                simp only [List.getElem?_toArray, List.getElem?_cons_zero, List.getElem?_cons_succ, Option.some.injEq] at ho
                subst ho
                have h1 : us 1 = .slice (some ad) m cap := V 1 (by omega) (by kernel_rfl)
                have h2 : us 2 = .int .i64 (n : Int) := V 2 (by omega) (by kernel_rfl)
                rw [h1, h2]
                exact StepJ.rd rfl (.pointer (some ⟨ad.block, o, none⟩)) (by go_simp) (hJ.rd 3 (by omega))
              | 4, ho =>
                simp only [List.getElem?_toArray, List.getElem?_cons_zero, List.getElem?_cons_succ, Option.some.injEq] at ho
                subst ho
                have h3 : us 3 = .pointer (some ⟨ad.block, o, none⟩) := V 3 (by omega) (by kernel_rfl)
                rw [h3]
                exact StepJ.rd rfl _ (rdC (.tmp 43) rfl _ rfl c q1) (hJ.rd 4 (by omega))
              | 5, ho =>
                simp only [List.getElem?_toArray, List.getElem?_cons_zero, List.getElem?_cons_succ, Option.some.injEq] at ho
                subst ho
                exact StepJ.rd rfl (.slice (some adS) m2 cap2) (by go_simp) (hJ.rd 5 (by omega))
              | 6, ho =>
                simp only [List.getElem?_toArray, List.getElem?_cons_zero, List.getElem?_cons_succ, Option.some.injEq] at ho
                subst ho
                exact StepJ.rd rfl (.slice (some ad) m cap) (by go_simp) (hJ.rd 6 (by omega))
              | 7, ho =>
                simp only [List.getElem?_toArray, List.getElem?_cons_zero, List.getElem?_cons_succ, Option.some.injEq] at ho
                subst ho
                exact StepJ.rd rfl (.int .i64 (n : Int)) (by go_simp) (hJ.rd 7 (by omega))
              | 8, ho =>
                simp only [List.getElem?_toArray, List.getElem?_cons_zero, List.getElem?_cons_succ, Option.some.injEq] at ho
                subst ho
                have h6 : us 6 = .slice (some ad) m cap := V 6 (by omega) (by kernel_rfl)
                have h7 : us 7 = .int .i64 (n : Int) := V 7 (by omega) (by kernel_rfl)
                rw [h6, h7]
                exact StepJ.rd rfl (.pointer (some ⟨ad.block, o, none⟩)) (by go_simp) (hJ.rd 8 (by omega))
              | 9, ho =>
                simp only [List.getElem?_toArray, List.getElem?_cons_zero, List.getElem?_cons_succ, Option.some.injEq] at ho
                subst ho
                have h8 : us 8 = .pointer (some ⟨ad.block, o, none⟩) := V 8 (by omega) (by kernel_rfl)
                rw [h8]
                exact StepJ.rd rfl (.pointer (some ⟨ad.block, o + 1, none⟩)) (by go_simp) (hJ.rd 9 (by omega))
              | 10, ho =>
                simp only [List.getElem?_toArray, List.getElem?_cons_zero, List.getElem?_cons_succ, Option.some.injEq] at ho
                subst ho
                have h9 : us 9 = .pointer (some ⟨ad.block, o + 1, none⟩) := V 9 (by omega) (by kernel_rfl)
                rw [h9]
                exact StepJ.rd rfl (.int .i64 (nd : Int)) (by go_simp) (hJ.rd 10 (by omega))
              | 11, ho =>
                simp only [List.getElem?_toArray, List.getElem?_cons_zero, List.getElem?_cons_succ, Option.some.injEq] at ho
                subst ho
                have h5 : us 5 = .slice (some adS) m2 cap2 := V 5 (by omega) (by kernel_rfl)
                have h10 : us 10 = .int .i64 (nd : Int) := V 10 (by omega) (by kernel_rfl)
                rw [h5, h10]
                exact StepJ.rd rfl (.pointer (some ⟨adS.block, os, none⟩)) (by go_simp) (hJ.rd 11 (by omega))
              | 12, ho =>
                simp only [List.getElem?_toArray, List.getElem?_cons_zero, List.getElem?_cons_succ, Option.some.injEq] at ho
                subst ho
                have h11 : us 11 = .pointer (some ⟨adS.block, os, none⟩) := V 11 (by omega) (by kernel_rfl)
                rw [h11]
                exact StepJ.rd rfl _ (rdS (.tmp 51) rfl _ rfl s q2) (hJ.rd 12 (by omega))
              | 13, ho =>
                simp only [List.getElem?_toArray, List.getElem?_cons_zero, List.getElem?_cons_succ, Option.some.injEq] at ho
                subst ho
                have h4 : us 4 = .agg (chA c) := V 4 (by omega) (by kernel_rfl)
                have h12 : us 12 = .agg s.cells := V 12 (by omega) (by kernel_rfl)
                rw [h4, h12]
                refine .inl ⟨wanted_none rfl _, .inr (.inr ⟨_, _, (by go_simp), (C1.out W).mono ?_⟩)⟩
                rintro e W' ⟨rfl, b⟩
                exact ⟨_, rfl, (hJ.below b).rd 13 (by omega)⟩
              | 14, ho =>
                simp only [List.getElem?_toArray, List.getElem?_cons_zero, List.getElem?_cons_succ, Option.some.injEq] at ho
                subst ho
                have h13 : us 13 = .int .u8 x := V 13 (by omega) (by kernel_rfl)
                rw [h13]
                exact .inl ⟨wanted_none rfl _, .inl ⟨.slice (some ⟨W.heap.size, 0, none⟩) 1 1, W.alloc (.cells (r8 [x]).toArray 5), (by kernel_rfl), hJ.lit (below_alloc _ _) (r8_lit W [x] _ 1 _ rfl rfl)⟩⟩
              | 15, ho =>
                simp only [List.getElem?_toArray, List.getElem?_cons_zero, List.getElem?_cons_succ, Option.some.injEq] at ho
                subst ho
                have h0 : us 0 = v8 := V 0 (by omega) (by kernel_rfl)
                rw [h0]
                have h16 : listed 16 = false := by
                  cases e : listed 16 with
                  | false => rfl
                  | true => have := hcl 16 15 e (by kernel_rfl); rw [this] at hun; cases hun
                have hRX : R8 W (us 14) [x] := hJ.row (hw 14 (by kernel_rfl)) hun
                obtain ⟨u, W2, hr, hO2, b⟩ := app8 (HO.out.below (hJ.pre hun)) hRX hJ.bel.size (by simp; omega) 29
                exact .inl ⟨wanted_none rfl _, .inl ⟨u, W2, run_op_of8 (.tmp 40) (.tmp 54) rfl rfl rfl hr, hJ.app h16 b hO2⟩⟩
              | 16, ho =>
                simp only [List.getElem?_toArray, List.getElem?_cons_zero, List.getElem?_cons_succ, Option.some.injEq] at ho
                subst ho
                exact StepJ.rd rfl (us 15) (by go_simp) hJ.last
              | n + 17, ho => simp at ho
            case doneJA =>
              intro listed us W hl hJ
              have e16 := hJ.fin (hl 16 (by decide))
              have hO2 := hJ.own (hl 15 (by decide))
              rw [← e16, ← HSU.out] at hO2
              have hB2 := hJ.bel
              simp only [putAll, Act.put, List.setIfInBounds_toArray, List.set_cons_zero, List.set_cons_succ]
              generalize us 16 = v9 at hO2 ⊢
              clear hJ CC C1 HO e16
              go_wp2_with fail
              go_roundg (T - (n + 1))
              case measure => omega
              case rel => exact ⟨n + 1, v9, rfl, by go_num, by omega, by omega, by first | rfl | trivial, hB2, hO2⟩
          · obtain rfl : n = T := by omega
            have hb := HP.out
            have hlT : (clT ss l 0 n).length = n - 0 := clT_len (by rw [HM.out]; omega)
            have hpos : ∀ c ∈ clT ss l 0 n, 0 ≤ c := fun c hc => clL_pos ss l c (List.mem_of_mem_drop (List.mem_of_mem_take hc))
            have C2 := Lib.hid (rbreaks9_any _ v8 wr hO.row hO.cap (by rw [hlT]; omega))
            have HBL : Hid ((prB ss l 0 n).length = n - 0) := Lib.hid (prB_len hb)
            have HBE : Hid (breaksL (clT ss l 0 n) = prB ss l 0 n) := Lib.hid rfl
            rw [HBE.out] at C2
            obtain ⟨bs, hbs⟩ : ∃ b, prB ss l 0 n = b := ⟨_, rfl⟩
            rw [hbs] at C2 HBL
            obtain ⟨q, hq⟩ : ∃ q, n - 0 = q := ⟨_, rfl⟩
            rw [hq] at HBL
            have HAT : Hid (i < n → bs[i]? = some bk) := Lib.hid fun h => by
              have e := prB_at (ss := ss) hb hFi h
              rw [hbs, show i - 0 = i by have := HD.out; omega, HBK.out] at e
              exact e
            have HNO : Hid (¬ i < n → bk = false) := Lib.hid fun h => by
              obtain rfl : i = n := by omega
              rcases hb.fin with e | ⟨c, hc, h5⟩
              · have := HM.out; omega
              · rw [← HBK.out]; exact bkF_forced hc h5
            have HQ := Lib.hid hq
            clear hlT hpos hbs hO HBE hq
            rcases hb.fin with hfin | ⟨c, hc, h5⟩
            · obtain rfl : n = m := by rw [hfin, HM.out]
              clear hb hfin
              go_wp2_with fail
              refine C2.out.mono ?_
              rintro e w5 ⟨u, rfl, hRB, b5⟩
              have hbel5 := bel.trans (b5.mono bel.size)
              obtain ⟨A5, c5, rfl⟩ := hRB.form
              rw [rb_len, HBL.out] at hRB ⊢
              skip
              by_cases hin : i < n
              · have hb5 := HAT.out hin
                obtain ⟨a5, cp5, hv5, _, _, hcell5⟩ := hRB.at_ (by rw [rb_len]; exact Nat.lt_of_le_of_lt (Nat.zero_le _) (List.getElem?_eq_some_iff.1 hb5).1)
                rw [rb_len, HBL.out] at hv5
                injection hv5 with hv51 hv52 hv53
                subst hv51
                have hcd := hcell5 i _ (rb_at hb5)
                have hdq : (i : Int) < q := by have := HQ.out; have := HD.out; omega
                clear hRB hv52 hv53 hcell5 hb5 C2 b5
                go_wp2_with fail
                go_ret
                exact ⟨by first | rfl | (cases bk <;> rfl), hbel5⟩
              · have hb5 := HNO.out hin
                have hdq : ¬ (i : Int) < q := by have := HQ.out; have := HD.out; omega
                have HB5 := Lib.hid hb5
                clear hRB hb5 C2 b5
                go_wp2_with fail
                all_goals (go_ret; exact ⟨retb HB5.out.symm, hbel5⟩)
            · obtain ⟨ad', cp, o, hv, hab, ha, hLi⟩ := HR.out.get bel hc
              rw [HM.out] at hv
              injection hv with hv1 hv2 hv3
              injection hv1 with hv1
              subst hv1 hv3
              have c4 : wr.cell? ⟨ad.block, o + 4, none⟩ = some (.int .u8 c.kind) := lies_cell hLi 4 rfl
              rw [h5] at c4
              have hnz : (n : Int) < m := by have := (List.getElem?_eq_some_iff.1 hc).1; rw [HM.out] at this; omega
              clear hv2 hc hLi hb h5
              go_wp2_with fail
              refine C2.out.mono ?_
              rintro e w5 ⟨u, rfl, hRB, b5⟩
              have hbel5 := bel.trans (b5.mono bel.size)
              obtain ⟨A5, c5, rfl⟩ := hRB.form
              rw [rb_len, HBL.out] at hRB ⊢
              skip
              by_cases hin : i < n
              · have hb5 := HAT.out hin
                obtain ⟨a5, cp5, hv5, _, _, hcell5⟩ := hRB.at_ (by rw [rb_len]; exact Nat.lt_of_le_of_lt (Nat.zero_le _) (List.getElem?_eq_some_iff.1 hb5).1)
                rw [rb_len, HBL.out] at hv5
                injection hv5 with hv51 hv52 hv53
                subst hv51
                have hcd := hcell5 i _ (rb_at hb5)
                have hdq : (i : Int) < q := by have := HQ.out; have := HD.out; omega
                clear hRB hv52 hv53 hcell5 hb5 C2 b5
                go_wp2_with fail
                go_ret
                exact ⟨by first | rfl | (cases bk <;> rfl), hbel5⟩
              · have hb5 := HNO.out hin
                have hdq : ¬ (i : Int) < q := by have := HQ.out; have := HD.out; omega
                have HB5 := Lib.hid hb5
                clear hRB hb5 C2 b5
                go_wp2_with fail
                all_goals (go_ret; exact ⟨retb HB5.out.symm, hbel5⟩)
      · obtain ⟨ad', cp, o, hv, hab, ha, hLi⟩ := HR.out.get (Below.refl _ _) hc
        rw [HM.out] at hv
        injection hv with hv1 hv2 hv3
        injection hv1 with hv1
        subst hv1 hv3
        have c4 : wz.cell? ⟨ad.block, o + 4, none⟩ = some (.int .u8 c.kind) := lies_cell hLi 4 rfl
        rw [h5] at c4
        have hfz : (0 : Int) < f := by omega
        have hwf : IntKind.i64.wrap ((f : Int) - 1) = (j : Int) := (IntWalk.i64_in _ (by omega)).trans (by omega)
        have hjz : (j : Int) < m := by omega
        clear hv2 hc hLi h5 hbeg
        go_wp2_with fail
        clear c4 hwf hjz hab ha
        have hO0 : own8 wz.heap.size wz (.slice none 0 0) (clT ss l f f) := by rw [clT_self]; exact ⟨rfl, .inl ⟨rfl, rfl⟩⟩
        go_loopg [8, 9] (T - f) (fun kx s8 s9 wr => ∃ (n : Nat) (v8 : Value), v8 = s8 ∧ s9 = .int .i64 n ∧ f ≤ n ∧ n ≤ T ∧ kx = T - n ∧ Below wz.heap.size wz wr ∧ own8 wz.heap.size wr v8 (clT ss l f n))
        case atStart => exact ⟨f, _, rfl, rfl, Nat.le_refl _, hFT, by first | rfl | omega, Below.refl _ _, hO0⟩
        case round =>
          clear hO0
          obtain ⟨n, v8, rfl, rfl, hn1, hn2, rfl, bel, hO⟩ := hrel
          by_cases hnT : n < T
          · obtain ⟨c, hc⟩ := at_ (l := l) (k := n) (by rw [HM.out]; omega)
            have h5 := HP.out.mid n c hn1 hnT hc
            obtain ⟨ad', cp, o, hv, hab, ha, hLi⟩ := HR.out.get bel hc
            rw [HM.out] at hv
            injection hv with hv1 hv2 hv3
            injection hv1 with hv1
            subst hv1 hv3
            obtain ⟨hq0, hq1⟩ := HND.out c (List.mem_of_getElem? hc)
            obtain ⟨nd, hnd⟩ : ∃ nd : Nat, c.node = (nd : Int) := ⟨c.node.toNat, by omega⟩
            have hndl : nd < m2 := by omega
            obtain ⟨s, hs⟩ := at_ (l := ss) (k := nd) (by rw [HM2.out]; exact hndl)
            obtain ⟨adS', cps, os, hvs, habs, haS, hLs⟩ := HS.out.get bel hs
            rw [HM2.out] at hvs
            injection hvs with hvs1 hvs2 hvs3
            injection hvs1 with hvs1
            subst hvs1 hvs3
            have hst : stl ss c.node = s := stl_at hs hnd
            have c4 : wr.cell? ⟨ad.block, o + 4, none⟩ = some (.int .u8 c.kind) := lies_cell hLi 4 rfl
            have hsu := clT_succ (ss := ss) hn1 hc
            rw [hst] at hsu
            have HSU := Lib.hid hsu
            have HNX : Hid (clsC c s = clsC c s) := Lib.hid rfl
            obtain ⟨kd, hkd⟩ : ∃ x, c.kind = x := ⟨_, rfl⟩
            rw [hkd] at c4 h5
            have hnz : (n : Int) < m := by omega
            have hndz : (nd : Int) < m2 := by omega
            have CC : Hid (∀ W, Below wz.heap.size wz W → Lies W ⟨ad.block, o, none⟩ (chA c) ∧ Lies W ⟨adS.block, os, none⟩ s.cells ∧ W.cell? ⟨ad.block, o + 1, none⟩ = some (.int .i64 (nd : Int))) := Lib.hid fun W b => by
              obtain ⟨adx, cp', o', hv', _, ha', hL'⟩ := HR.out.get b hc
              rw [HM.out] at hv'
              injection hv' with hv1' _ _
              injection hv1' with hv1'
              subst hv1'
              have ho : o' = o := by rw [ha] at ha'; injection ha' with _ e; exact e.symm
              subst ho
              obtain ⟨ady, cp2, o2, hv2, _, ha2, hL2⟩ := HS.out.get b hs
              rw [HM2.out] at hv2
              injection hv2 with hv12 _ _
              injection hv12 with hv12
              subst hv12
              have ho2 : o2 = os := by rw [haS] at ha2; injection ha2 with _ e; exact e.symm
              subst ho2
              refine ⟨hL', hL2, ?_⟩
              have := lies_cell hL' 1 (v := .int .i64 c.node) rfl
              rwa [hnd] at this
            have C1 : Hid (∀ W, Calls Try.prog 13 #[.agg (chA c), .agg s.cells] W fun e w' => e = .returned (.int .u8 (clsC c s)) ∧ Below W.heap.size W w') := Lib.hid fun W => rclass_any c s W
            obtain ⟨x, hx⟩ : ∃ x, clsC c s = x := ⟨_, rfl⟩
            rw [hx] at C1 HSU
            have HO := Lib.hid hO
            have hll : (clT ss l f n).length ≤ 100000 := by rw [clT_len (by rw [HM.out]; omega)]; omega
            obtain ⟨LL, hLL⟩ : ∃ L, clT ss l f n = L := ⟨_, rfl⟩
            rw [hLL] at HO HSU hll
            clear hv2 hvs2 hc hs hst hLi hLs hsu hkd hx hO hLL hq0 hq1 hnd HNX
            go_wp2_with fail
            refine region_JL (by kernel_rfl) (JR wz wr (fun j => ([v8, .slice (some ad) m cap, .int .i64 (n : Int), .pointer (some ⟨ad.block, o, none⟩), .agg (chA c), .slice (some adS) m2 cap2, .slice (some ad) m cap, .int .i64 (n : Int), .pointer (some ⟨ad.block, o, none⟩), .pointer (some ⟨ad.block, o + 1, none⟩), .int .i64 (nd : Int), .pointer (some ⟨adS.block, os, none⟩), .agg s.cells, .int .u8 x] : List Value).getD j undef) LL x) 16 (by rfl) (by kernel_rfl)
              ⟨below_drewN bel 1, fun _ => below_drewN (Below.refl _ _) 1, fun j _ h => (by cases h), fun h => (by cases h), fun h => (by cases h), fun h => (by cases h)⟩ (by kernel_rfl) (by kernel_rfl) (by kernel_rfl) (by kernel_rfl) ?stepJB ?doneJB
            case stepJB =>
              intro listed us W hJ i2 o2 ho hun hw hcl
              obtain ⟨q1, q2, q3⟩ := CC.out W hJ.bel
              have V : ∀ j, j < 14 → waits _ i2 j = true → us j = _ := fun j hj h => hJ.val j hj (hw j h)
              simp only [List.take_succ_cons, List.take_zero, putAll, Act.put, List.setIfInBounds_toArray, List.set_cons_zero, List.set_cons_succ]
              match i2, ho with
              | 0, ho =>
                simp only [List.getElem?_toArray, List.getElem?_cons_zero, Option.some.injEq] at ho
                subst ho
                exact StepJ.rd rfl (v8) (by go_simp) (hJ.rd 0 (by omega))
              | 1, ho =>
                simp only [List.getElem?_toArray, List.getElem?_cons_zero, List.getElem?_cons_succ, Option.some.injEq] at ho
                subst ho
                exact StepJ.rd rfl (.slice (some ad) m cap) (by go_simp) (hJ.rd 1 (by omega))
              | 2, ho =>
                simp only [List.getElem?_toArray, List.getElem?_cons_zero, List.getElem?_cons_succ, Option.some.injEq] at ho
                subst ho
                exact StepJ.rd rfl (.int .i64 (n : Int)) (by go_simp) (hJ.rd 2 (by omega))
              | 3, ho =>
                simp only [List.getElem?_toArray, List.getElem?_cons_zero, List.getElem?_cons_succ, Option.some.injEq] at ho
                subst ho
                have h1 : us 1 = .slice (some ad) m cap := V 1 (by omega) (by kernel_rfl)
                have h2 : us 2 = .int .i64 (n : Int) := V 2 (by omega) (by kernel_rfl)
                rw [h1, h2]
                exact StepJ.rd rfl (.pointer (some ⟨ad.block, o, none⟩)) (by go_simp) (hJ.rd 3 (by omega))
              | 4, ho =>
                simp only [List.getElem?_toArray, List.getElem?_cons_zero, List.getElem?_cons_succ, Option.some.injEq] at ho
                subst ho
                have h3 : us 3 = .pointer (some ⟨ad.block, o, none⟩) := V 3 (by omega) (by kernel_rfl)
                rw [h3]
                exact StepJ.rd rfl _ (rdC (.tmp 43) rfl _ rfl c q1) (hJ.rd 4 (by omega))
              | 5, ho =>
                simp only [List.getElem?_toArray, List.getElem?_cons_zero, List.getElem?_cons_succ, Option.some.injEq] at ho
                subst ho
                exact StepJ.rd rfl (.slice (some adS) m2 cap2) (by go_simp) (hJ.rd 5 (by omega))
              | 6, ho =>
                simp only [List.getElem?_toArray, List.getElem?_cons_zero, List.getElem?_cons_succ, Option.some.injEq] at ho
                subst ho
                exact StepJ.rd rfl (.slice (some ad) m cap) (by go_simp) (hJ.rd 6 (by omega))
              | 7, ho =>
                simp only [List.getElem?_toArray, List.getElem?_cons_zero, List.getElem?_cons_succ, Option.some.injEq] at ho
                subst ho
                exact StepJ.rd rfl (.int .i64 (n : Int)) (by go_simp) (hJ.rd 7 (by omega))
              | 8, ho =>
                simp only [List.getElem?_toArray, List.getElem?_cons_zero, List.getElem?_cons_succ, Option.some.injEq] at ho
                subst ho
                have h6 : us 6 = .slice (some ad) m cap := V 6 (by omega) (by kernel_rfl)
                have h7 : us 7 = .int .i64 (n : Int) := V 7 (by omega) (by kernel_rfl)
                rw [h6, h7]
                exact StepJ.rd rfl (.pointer (some ⟨ad.block, o, none⟩)) (by go_simp) (hJ.rd 8 (by omega))
              | 9, ho =>
                simp only [List.getElem?_toArray, List.getElem?_cons_zero, List.getElem?_cons_succ, Option.some.injEq] at ho
                subst ho
                have h8 : us 8 = .pointer (some ⟨ad.block, o, none⟩) := V 8 (by omega) (by kernel_rfl)
                rw [h8]
                exact StepJ.rd rfl (.pointer (some ⟨ad.block, o + 1, none⟩)) (by go_simp) (hJ.rd 9 (by omega))
              | 10, ho =>
                simp only [List.getElem?_toArray, List.getElem?_cons_zero, List.getElem?_cons_succ, Option.some.injEq] at ho
                subst ho
                have h9 : us 9 = .pointer (some ⟨ad.block, o + 1, none⟩) := V 9 (by omega) (by kernel_rfl)
                rw [h9]
                exact StepJ.rd rfl (.int .i64 (nd : Int)) (by go_simp) (hJ.rd 10 (by omega))
              | 11, ho =>
                simp only [List.getElem?_toArray, List.getElem?_cons_zero, List.getElem?_cons_succ, Option.some.injEq] at ho
                subst ho
                have h5 : us 5 = .slice (some adS) m2 cap2 := V 5 (by omega) (by kernel_rfl)
                have h10 : us 10 = .int .i64 (nd : Int) := V 10 (by omega) (by kernel_rfl)
                rw [h5, h10]
                exact StepJ.rd rfl (.pointer (some ⟨adS.block, os, none⟩)) (by go_simp) (hJ.rd 11 (by omega))
              | 12, ho =>
                simp only [List.getElem?_toArray, List.getElem?_cons_zero, List.getElem?_cons_succ, Option.some.injEq] at ho
                subst ho
                have h11 : us 11 = .pointer (some ⟨adS.block, os, none⟩) := V 11 (by omega) (by kernel_rfl)
                rw [h11]
                exact StepJ.rd rfl _ (rdS (.tmp 51) rfl _ rfl s q2) (hJ.rd 12 (by omega))
              | 13, ho =>
                simp only [List.getElem?_toArray, List.getElem?_cons_zero, List.getElem?_cons_succ, Option.some.injEq] at ho
                subst ho
                have h4 : us 4 = .agg (chA c) := V 4 (by omega) (by kernel_rfl)
                have h12 : us 12 = .agg s.cells := V 12 (by omega) (by kernel_rfl)
                rw [h4, h12]
                refine .inl ⟨wanted_none rfl _, .inr (.inr ⟨_, _, (by go_simp), (C1.out W).mono ?_⟩)⟩
                rintro e W' ⟨rfl, b⟩
                exact ⟨_, rfl, (hJ.below b).rd 13 (by omega)⟩
              | 14, ho =>
                simp only [List.getElem?_toArray, List.getElem?_cons_zero, List.getElem?_cons_succ, Option.some.injEq] at ho
                subst ho
                have h13 : us 13 = .int .u8 x := V 13 (by omega) (by kernel_rfl)
                rw [h13]
                exact .inl ⟨wanted_none rfl _, .inl ⟨.slice (some ⟨W.heap.size, 0, none⟩) 1 1, W.alloc (.cells (r8 [x]).toArray 5), (by kernel_rfl), hJ.lit (below_alloc _ _) (r8_lit W [x] _ 1 _ rfl rfl)⟩⟩
              | 15, ho =>
                simp only [List.getElem?_toArray, List.getElem?_cons_zero, List.getElem?_cons_succ, Option.some.injEq] at ho
                subst ho
                have h0 : us 0 = v8 := V 0 (by omega) (by kernel_rfl)
                rw [h0]
                have h16 : listed 16 = false := by
                  cases e : listed 16 with
                  | false => rfl
                  | true => have := hcl 16 15 e (by kernel_rfl); rw [this] at hun; cases hun
                have hRX : R8 W (us 14) [x] := hJ.row (hw 14 (by kernel_rfl)) hun
                obtain ⟨u, W2, hr, hO2, b⟩ := app8 (HO.out.below (hJ.pre hun)) hRX hJ.bel.size (by simp; omega) 29
                exact .inl ⟨wanted_none rfl _, .inl ⟨u, W2, run_op_of8 (.tmp 40) (.tmp 54) rfl rfl rfl hr, hJ.app h16 b hO2⟩⟩
              | 16, ho =>
                simp only [List.getElem?_toArray, List.getElem?_cons_zero, List.getElem?_cons_succ, Option.some.injEq] at ho
                subst ho
                exact StepJ.rd rfl (us 15) (by go_simp) hJ.last
              | n + 17, ho => simp at ho
            case doneJB =>
              intro listed us W hl hJ
              have e16 := hJ.fin (hl 16 (by decide))
              have hO2 := hJ.own (hl 15 (by decide))
              rw [← e16, ← HSU.out] at hO2
              have hB2 := hJ.bel
              simp only [putAll, Act.put, List.setIfInBounds_toArray, List.set_cons_zero, List.set_cons_succ]
              generalize us 16 = v9 at hO2 ⊢
              clear hJ CC C1 HO e16
              go_wp2_with fail
              go_roundg (T - (n + 1))
              case measure => omega
              case rel => exact ⟨n + 1, v9, rfl, by go_num, by omega, by omega, by first | rfl | trivial, hB2, hO2⟩
          · obtain rfl : n = T := by omega
            have hb := HP.out
            have hlT : (clT ss l f n).length = n - f := clT_len (by rw [HM.out]; omega)
            have hpos : ∀ c ∈ clT ss l f n, 0 ≤ c := fun c hc => clL_pos ss l c (List.mem_of_mem_drop (List.mem_of_mem_take hc))
            have C2 := Lib.hid (rbreaks9_any _ v8 wr hO.row hO.cap (by rw [hlT]; omega))
            have HBL : Hid ((prB ss l f n).length = n - f) := Lib.hid (prB_len hb)
            have HBE : Hid (breaksL (clT ss l f n) = prB ss l f n) := Lib.hid rfl
            rw [HBE.out] at C2
            obtain ⟨bs, hbs⟩ : ∃ b, prB ss l f n = b := ⟨_, rfl⟩
            rw [hbs] at C2 HBL
            obtain ⟨q, hq⟩ : ∃ q, n - f = q := ⟨_, rfl⟩
            rw [hq] at HBL
            have HAT : Hid (i < n → bs[d]? = some bk) := Lib.hid fun h => by
              have e := prB_at (ss := ss) hb hFi h
              rw [hbs, show i - f = d by have := HD.out; omega, HBK.out] at e
              exact e
            have HNO : Hid (¬ i < n → bk = false) := Lib.hid fun h => by
              obtain rfl : i = n := by omega
              rcases hb.fin with e | ⟨c, hc, h5⟩
              · have := HM.out; omega
              · rw [← HBK.out]; exact bkF_forced hc h5
            have HQ := Lib.hid hq
            clear hlT hpos hbs hO HBE hq
            rcases hb.fin with hfin | ⟨c, hc, h5⟩
            · obtain rfl : n = m := by rw [hfin, HM.out]
              clear hb hfin
              go_wp2_with fail
              refine C2.out.mono ?_
              rintro e w5 ⟨u, rfl, hRB, b5⟩
              have hbel5 := bel.trans (b5.mono bel.size)
              obtain ⟨A5, c5, rfl⟩ := hRB.form
              rw [rb_len, HBL.out] at hRB ⊢
              have hw1 := HW.out
              by_cases hin : i < n
              · have hb5 := HAT.out hin
                obtain ⟨a5, cp5, hv5, _, _, hcell5⟩ := hRB.at_ (by rw [rb_len]; exact Nat.lt_of_le_of_lt (Nat.zero_le _) (List.getElem?_eq_some_iff.1 hb5).1)
                rw [rb_len, HBL.out] at hv5
                injection hv5 with hv51 hv52 hv53
                subst hv51
                have hcd := hcell5 d _ (rb_at hb5)
                have hdq : (d : Int) < q := by have := HQ.out; have := HD.out; omega
                clear hRB hv52 hv53 hcell5 hb5 C2 b5
                go_wp2_with fail
                go_ret
                exact ⟨by first | rfl | (cases bk <;> rfl), hbel5⟩
              · have hb5 := HNO.out hin
                have hdq : ¬ (d : Int) < q := by have := HQ.out; have := HD.out; omega
                have HB5 := Lib.hid hb5
                clear hRB hb5 C2 b5
                go_wp2_with fail
                all_goals (go_ret; exact ⟨retb HB5.out.symm, hbel5⟩)
            · obtain ⟨ad', cp, o, hv, hab, ha, hLi⟩ := HR.out.get bel hc
              rw [HM.out] at hv
              injection hv with hv1 hv2 hv3
              injection hv1 with hv1
              subst hv1 hv3
              have c4 : wr.cell? ⟨ad.block, o + 4, none⟩ = some (.int .u8 c.kind) := lies_cell hLi 4 rfl
              rw [h5] at c4
              have hnz : (n : Int) < m := by have := (List.getElem?_eq_some_iff.1 hc).1; rw [HM.out] at this; omega
              clear hv2 hc hLi hb h5
              go_wp2_with fail
              refine C2.out.mono ?_
              rintro e w5 ⟨u, rfl, hRB, b5⟩
              have hbel5 := bel.trans (b5.mono bel.size)
              obtain ⟨A5, c5, rfl⟩ := hRB.form
              rw [rb_len, HBL.out] at hRB ⊢
              have hw1 := HW.out
              by_cases hin : i < n
              · have hb5 := HAT.out hin
                obtain ⟨a5, cp5, hv5, _, _, hcell5⟩ := hRB.at_ (by rw [rb_len]; exact Nat.lt_of_le_of_lt (Nat.zero_le _) (List.getElem?_eq_some_iff.1 hb5).1)
                rw [rb_len, HBL.out] at hv5
                injection hv5 with hv51 hv52 hv53
                subst hv51
                have hcd := hcell5 d _ (rb_at hb5)
                have hdq : (d : Int) < q := by have := HQ.out; have := HD.out; omega
                clear hRB hv52 hv53 hcell5 hb5 C2 b5
                go_wp2_with fail
                go_ret
                exact ⟨by first | rfl | (cases bk <;> rfl), hbel5⟩
              · have hb5 := HNO.out hin
                have hdq : ¬ (d : Int) < q := by have := HQ.out; have := HD.out; omega
                have HB5 := Lib.hid hb5
                clear hRB hb5 C2 b5
                go_wp2_with fail
                all_goals (go_ret; exact ⟨retb HB5.out.symm, hbel5⟩)
end Go.Proofs.Ytnoenccpbbkdeaa
