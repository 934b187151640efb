/- Contract of the reference's One: what is at a place from 1 on. Conditions: the slices read as the lists, at most 100000 characters, that may be. -/
import Derived.Test.YtnoenccpbbkdeaaCh10
namespace Go.Proofs.Ytnoenccpbbkdeaa
open Go.ChangeShapes Go.WideShapes Go.ChangeAt Go.RowKit Go.Shelf
open Wh (Cr)
open Ch

/-- what is at a place, by what is asked one after the other -/
def oneQ (ka kb r0 r1 r2 r3 s0 : Int) (q mb la lb : Bool) : Int :=
  if ka = 5 ∨ kb = 5 ∨ r0 = 1 ∨ r0 = 2 then 0
  else if (ka = 3 ∨ ka = 4) ∧ s0 = 5 then 1
  else if kb = 1 ∨ kb = 2 then 0
  else if r3 = 3 then (if mb then 0 else 1)
  else if q && !(decide (r1 = 2) && la && lb) then 1
  else if r2 = 1 ∧ mb = false then 2
  else 0
theorem oneQ_is (a b : Cr) (r sa : Sty) (q : Bool) : Ch.oneC a b r sa q = oneQ a.kind b.kind r.a0 r.a1 r.a2 r.a3 sa.a0 q (markC b) (lett a) (lett b) := rfl

/-! ### three new variables, filled -/
structure J3 (w0 : World) (vals : Nat → Value) (ca cb : Cr) (s : Sty) (listed : Nat → Bool) (us : Nat → Value) (W : World) : Prop where
  bel : Below w0.heap.size w0 W
  val : ∀ j, j < 16 → listed j = true → us j = vals j
  va : listed 16 = true → ∃ g, us 16 = .pointer (some ⟨g, 0, none⟩) ∧ w0.heap.size ≤ g ∧ Blk W g 39 (chA (if listed 19 then ca else zCr))
  vb : listed 17 = true → ∃ g, us 17 = .pointer (some ⟨g, 0, none⟩) ∧ w0.heap.size ≤ g ∧ Blk W g 39 (chA (if listed 20 then cb else zCr))
  vs : listed 18 = true → ∃ g, us 18 = .pointer (some ⟨g, 0, none⟩) ∧ w0.heap.size ≤ g ∧ Blk W g 36 (if listed 21 then s else Sty.zero).cells
  ap : listed 16 = true → listed 17 = true → us 16 ≠ us 17
theorem blk_type {w : World} {g : Nat} {t t' : TypeId} {c c' : Array Value} (h : Blk w g t c) (h' : Blk w g t' c') : t = t' := by
  have e : w.heap[g]? = some (.cells c t (0, 0)) := h
  have e' : w.heap[g]? = some (.cells c' t' (0, 0)) := h'
  rw [e] at e'
  injection e' with e'
  injection e'
section
variable {w0 W W' : World} {vals : Nat → Value} {ca cb : Cr} {s : Sty} {listed : Nat → Bool} {us : Nat → Value}
theorem J3.rd (h : J3 w0 vals ca cb s listed us W) (i : Nat) (hi : i < 16) : J3 w0 vals ca cb s (updB listed i) (updU us i (vals i)) W := by
  refine ⟨h.bel, fun j hj e => ?_, fun e => ?_, fun e => ?_, fun e => ?_, fun e e2 => ?_⟩
  · by_cases ej : j = i
    · subst ej; rw [updU_eq]
    · rw [updB_ne _ ej] at e; rw [updU_ne _ _ ej]; exact h.val j hj e
  · rw [updB_ne _ (by omega)] at e; rw [updU_ne _ _ (by omega), updB_ne _ (by omega)]; exact h.va e
  · rw [updB_ne _ (by omega)] at e; rw [updU_ne _ _ (by omega), updB_ne _ (by omega)]; exact h.vb e
  · rw [updB_ne _ (by omega)] at e; rw [updU_ne _ _ (by omega), updB_ne _ (by omega)]; exact h.vs e
  · rw [updB_ne _ (by omega)] at e e2; rw [updU_ne _ _ (by omega), updU_ne _ _ (by omega)]; exact h.ap e e2
theorem J3.al16 (h : J3 w0 vals ca cb s listed us W) (hst : listed 19 = false) : J3 w0 vals ca cb s (updB listed 16) (updU us 16 (.pointer (some ⟨W.heap.size, 0, none⟩))) (W.alloc (.cells (chA zCr) 39)) := by
  have b := below_alloc W (.cells (chA zCr) 39)
  have hs := h.bel.size
  refine ⟨h.bel.trans (b.mono hs), fun j hj e => ?_, fun e => ?_, fun e => ?_, fun e => ?_, fun e e2 => ?_⟩
  · rw [updB_ne _ (by omega)] at e; rw [updU_ne _ _ (by omega)]; exact h.val j hj e
  · rw [updU_eq, updB_ne _ (by decide), hst]
    exact ⟨_, rfl, hs, Blk.new _ _ _⟩
  · rw [updB_ne _ (by decide)] at e
    rw [updU_ne _ _ (by decide), updB_ne _ (by decide)]
    obtain ⟨g, h1, h2, h3⟩ := h.vb e
    exact ⟨g, h1, h2, h3.keep (S := fun _ => False) (Mod.of_below b) id⟩
  · rw [updB_ne _ (by decide)] at e
    rw [updU_ne _ _ (by decide), updB_ne _ (by decide)]
    obtain ⟨g, h1, h2, h3⟩ := h.vs e
    exact ⟨g, h1, h2, h3.keep (S := fun _ => False) (Mod.of_below b) id⟩
  · rw [updB_ne _ (by decide)] at e2
    obtain ⟨g, h1, _, h3⟩ := h.vb e2
    have hl := h3.lt
    rw [updU_eq, updU_ne _ _ (by decide), h1]
    intro hh
    injection hh with hh
    injection hh with hh
    injection hh with hh
    omega
theorem J3.al17 (h : J3 w0 vals ca cb s listed us W) (hst : listed 20 = false) : J3 w0 vals ca cb s (updB listed 17) (updU us 17 (.pointer (some ⟨W.heap.size, 0, none⟩))) (W.alloc (.cells (chA zCr) 39)) := by
  have b := below_alloc W (.cells (chA zCr) 39)
  have hs := h.bel.size
  refine ⟨h.bel.trans (b.mono hs), fun j hj e => ?_, fun e => ?_, fun e => ?_, fun e => ?_, fun e e2 => ?_⟩
  · rw [updB_ne _ (by omega)] at e; rw [updU_ne _ _ (by omega)]; exact h.val j hj e
  · rw [updB_ne _ (by decide)] at e
    rw [updU_ne _ _ (by decide), updB_ne _ (by decide)]
    obtain ⟨g, h1, h2, h3⟩ := h.va e
    exact ⟨g, h1, h2, h3.keep (S := fun _ => False) (Mod.of_below b) id⟩
  · rw [updU_eq, updB_ne _ (by decide), hst]
    exact ⟨_, rfl, hs, Blk.new _ _ _⟩
  · rw [updB_ne _ (by decide)] at e
    rw [updU_ne _ _ (by decide), updB_ne _ (by decide)]
    obtain ⟨g, h1, h2, h3⟩ := h.vs e
    exact ⟨g, h1, h2, h3.keep (S := fun _ => False) (Mod.of_below b) id⟩
  · rw [updB_ne _ (by decide)] at e
    obtain ⟨g, h1, _, h3⟩ := h.va e
    have hl := h3.lt
    rw [updU_eq, updU_ne _ _ (by decide), h1]
    intro hh
    injection hh with hh
    injection hh with hh
    injection hh with hh
    omega
theorem J3.al18 (h : J3 w0 vals ca cb s listed us W) (hst : listed 21 = false) : J3 w0 vals ca cb s (updB listed 18) (updU us 18 (.pointer (some ⟨W.heap.size, 0, none⟩))) (W.alloc (.cells (Sty.zero.cells) 36)) := by
  have b := below_alloc W (.cells (Sty.zero.cells) 36)
  have hs := h.bel.size
  refine ⟨h.bel.trans (b.mono hs), fun j hj e => ?_, fun e => ?_, fun e => ?_, fun e => ?_, fun e e2 => ?_⟩
  · rw [updB_ne _ (by omega)] at e; rw [updU_ne _ _ (by omega)]; exact h.val j hj e
  · rw [updB_ne _ (by decide)] at e
    rw [updU_ne _ _ (by decide), updB_ne _ (by decide)]
    obtain ⟨g, h1, h2, h3⟩ := h.va e
    exact ⟨g, h1, h2, h3.keep (S := fun _ => False) (Mod.of_below b) id⟩
  · rw [updB_ne _ (by decide)] at e
    rw [updU_ne _ _ (by decide), updB_ne _ (by decide)]
    obtain ⟨g, h1, h2, h3⟩ := h.vb e
    exact ⟨g, h1, h2, h3.keep (S := fun _ => False) (Mod.of_below b) id⟩
  · rw [updU_eq, updB_ne _ (by decide), hst]
    exact ⟨_, rfl, hs, Blk.new _ _ _⟩
  · rw [updB_ne _ (by decide)] at e e2; rw [updU_ne _ _ (by decide), updU_ne _ _ (by decide)]; exact h.ap e e2
theorem J3.st19 (h : J3 w0 vals ca cb s listed us W) (h16 : listed 16 = true) (h17 : listed 17 = true) (h18 : listed 18 = true) (hun : listed 19 = false) {o : Oper} {a : Act} (x y : Operand) (ho : o.op = .store 39 x y) (hx : a.eval x = us 16) (hy : a.eval y = .agg (chA ca)) :
    ∃ W', (execOp a.eval o).run Try.prog W = .ok .skip W' ∧ J3 w0 vals ca cb s (updB listed 19) (updU us 19 undef) W' := by
  obtain ⟨ga, a1, a2, a3⟩ := h.va h16
  obtain ⟨gb, b1, b2, b3⟩ := h.vb h17
  obtain ⟨gs, s1, s2, s3⟩ := h.vs h18
  have hab : ga ≠ gb := fun e => h.ap h16 h17 (by rw [a1, b1, e])
  have has : ga ≠ gs := fun e => by
    subst e
    exact absurd (blk_type a3 s3) (by decide)
  have hbs : gb ≠ gs := fun e => by
    subst e
    exact absurd (blk_type b3 s3) (by decide)
  rw [hun, if_neg (by decide)] at a3
  rw [a1] at hx
  have hrun := run_op_store 39 x y ho ga 0 hx (chA ca) hy 39 (chA zCr) a3 (iC _) (by simp [chA, zCr]) (oneC _)
  have m := mod_setRow W ga (spl (chA zCr) 0 (chA ca).toList)
  have B := setRow_heap W ga (chA zCr) (spl (chA zCr) 0 (chA ca).toList) 39 (0, 0) a3
  have e : spl (chA zCr) 0 (chA ca).toList = chA ca := by simp [spl, chA]
  rw [e] at hrun m B
  refine ⟨_, hrun, ⟨h.bel.trans (m.below h.bel.size fun k hk => by omega), fun j hj e => ?_, fun _ => ?_, fun _ => ?_, fun _ => ?_, fun _ _ => ?_⟩⟩
  · rw [updB_ne _ (by omega)] at e; rw [updU_ne _ _ (by omega)]; exact h.val j hj e
  · rw [updU_ne _ _ (by decide), updB_eq, if_pos rfl]
    exact ⟨_, a1, a2, B⟩
  · rw [updU_ne _ _ (by decide), updB_ne _ (by decide)]
    exact ⟨_, b1, b2, b3.keep m (by omega)⟩
  · rw [updU_ne _ _ (by decide), updB_ne _ (by decide)]
    exact ⟨_, s1, s2, s3.keep m (by omega)⟩
  · rw [updU_ne _ _ (by decide), updU_ne _ _ (by decide)]; exact h.ap h16 h17
theorem J3.st20 (h : J3 w0 vals ca cb s listed us W) (h16 : listed 16 = true) (h17 : listed 17 = true) (h18 : listed 18 = true) (hun : listed 20 = false) {o : Oper} {a : Act} (x y : Operand) (ho : o.op = .store 39 x y) (hx : a.eval x = us 17) (hy : a.eval y = .agg (chA cb)) :
    ∃ W', (execOp a.eval o).run Try.prog W = .ok .skip W' ∧ J3 w0 vals ca cb s (updB listed 20) (updU us 20 undef) W' := by
  obtain ⟨ga, a1, a2, a3⟩ := h.va h16
  obtain ⟨gb, b1, b2, b3⟩ := h.vb h17
  obtain ⟨gs, s1, s2, s3⟩ := h.vs h18
  have hab : ga ≠ gb := fun e => h.ap h16 h17 (by rw [a1, b1, e])
  have has : ga ≠ gs := fun e => by
    subst e
    exact absurd (blk_type a3 s3) (by decide)
  have hbs : gb ≠ gs := fun e => by
    subst e
    exact absurd (blk_type b3 s3) (by decide)
  rw [hun, if_neg (by decide)] at b3
  rw [b1] at hx
  have hrun := run_op_store 39 x y ho gb 0 hx (chA cb) hy 39 (chA zCr) b3 (iC _) (by simp [chA, zCr]) (oneC _)
  have m := mod_setRow W gb (spl (chA zCr) 0 (chA cb).toList)
  have B := setRow_heap W gb (chA zCr) (spl (chA zCr) 0 (chA cb).toList) 39 (0, 0) b3
  have e : spl (chA zCr) 0 (chA cb).toList = chA cb := by simp [spl, chA]
  rw [e] at hrun m B
  refine ⟨_, hrun, ⟨h.bel.trans (m.below h.bel.size fun k hk => by omega), fun j hj e => ?_, fun _ => ?_, fun _ => ?_, fun _ => ?_, fun _ _ => ?_⟩⟩
  · rw [updB_ne _ (by omega)] at e; rw [updU_ne _ _ (by omega)]; exact h.val j hj e
  · rw [updU_ne _ _ (by decide), updB_ne _ (by decide)]
    exact ⟨_, a1, a2, a3.keep m (by omega)⟩
  · rw [updU_ne _ _ (by decide), updB_eq, if_pos rfl]
    exact ⟨_, b1, b2, B⟩
  · rw [updU_ne _ _ (by decide), updB_ne _ (by decide)]
    exact ⟨_, s1, s2, s3.keep m (by omega)⟩
  · rw [updU_ne _ _ (by decide), updU_ne _ _ (by decide)]; exact h.ap h16 h17
theorem J3.st21 (h : J3 w0 vals ca cb s listed us W) (h16 : listed 16 = true) (h17 : listed 17 = true) (h18 : listed 18 = true) (hun : listed 21 = false) {o : Oper} {a : Act} (x y : Operand) (ho : o.op = .store 36 x y) (hx : a.eval x = us 18) (hy : a.eval y = .agg (s.cells)) :
    ∃ W', (execOp a.eval o).run Try.prog W = .ok .skip W' ∧ J3 w0 vals ca cb s (updB listed 21) (updU us 21 undef) W' := by
  obtain ⟨ga, a1, a2, a3⟩ := h.va h16
  obtain ⟨gb, b1, b2, b3⟩ := h.vb h17
  obtain ⟨gs, s1, s2, s3⟩ := h.vs h18
  have hab : ga ≠ gb := fun e => h.ap h16 h17 (by rw [a1, b1, e])
  have has : ga ≠ gs := fun e => by
    subst e
    exact absurd (blk_type a3 s3) (by decide)
  have hbs : gb ≠ gs := fun e => by
    subst e
    exact absurd (blk_type b3 s3) (by decide)
  rw [hun, if_neg (by decide)] at s3
  rw [s1] at hx
  have hrun := run_op_store 36 x y ho gs 0 hx (s.cells) hy 36 (Sty.zero.cells) s3 (by exact iS) (by simp [Sty.cells]) (one23 s)
  have m := mod_setRow W gs (spl (Sty.zero.cells) 0 (s.cells).toList)
  have B := setRow_heap W gs (Sty.zero.cells) (spl (Sty.zero.cells) 0 (s.cells).toList) 36 (0, 0) s3
  have e : spl (Sty.zero.cells) 0 (s.cells).toList = s.cells := by simp [spl, Sty.cells]
  rw [e] at hrun m B
  refine ⟨_, hrun, ⟨h.bel.trans (m.below h.bel.size fun k hk => by omega), fun j hj e => ?_, fun _ => ?_, fun _ => ?_, fun _ => ?_, fun _ _ => ?_⟩⟩
  · rw [updB_ne _ (by omega)] at e; rw [updU_ne _ _ (by omega)]; exact h.val j hj e
  · rw [updU_ne _ _ (by decide), updB_ne _ (by decide)]
    exact ⟨_, a1, a2, a3.keep m (by omega)⟩
  · rw [updU_ne _ _ (by decide), updB_ne _ (by decide)]
    exact ⟨_, b1, b2, b3.keep m (by omega)⟩
  · rw [updU_ne _ _ (by decide), updB_eq, if_pos rfl]
    exact ⟨_, s1, s2, B⟩
  · rw [updU_ne _ _ (by decide), updU_ne _ _ (by decide)]; exact h.ap h16 h17
end

set_option maxRecDepth 100000 in
set_option maxHeartbeats 32000000 in
theorem rone_any (ss : List Sty) (l : List Cr) (rs : List Int) (v vs vr : Value) (i : Nat) (w : World) (hR : RwC w v l) (hS : Ss w vs ss) (hI : RI w vr rs) (hlen : l.length ≤ 100000) (hm : mayC l ss.length rs = true) {ca cb : Cr} {r : Int} (ha : l[i]? = some ca) (hb : l[i + 1]? = some cb) (hr : rs[i + 1]? = some r) :
    Calls Try.prog 25 #[v, vs, vr, .int .i64 ((i + 1 : Nat) : Int)] w fun e w' => e = .returned (.int .u8 (Ch.oneC ca cb (stl ss r) (stl ss ca.node) (bkF ss l (i + 1)))) ∧ Below w.heap.size w w' := by
  obtain ⟨hml, hmc, hmr⟩ := mayC_is hm
  have CK : Hid (∀ W, Below w.heap.size w W → Calls Try.prog 46 #[v, vs, .int .i64 ((i + 1 : Nat) : Int)] W fun e w' => e = .returned (.bool (bkF ss l (i + 1))) ∧ Below W.heap.size W w') := Lib.hid fun W b =>
    rclasses_any ss l v vs (i + 1) W (hR.below b) (hS.below b) hlen (fun c hc => ⟨(hmc c hc).1, (hmc c hc).2.1⟩) (List.getElem?_eq_some_iff.1 hb).1
  obtain ⟨hr0, hr1⟩ := hmr (i + 1) r (by omega) hr
  obtain ⟨hn0, hn1, _⟩ := hmc ca (List.mem_of_getElem? ha)
  obtain ⟨nd, hnd⟩ : ∃ nd : Nat, r = (nd : Int) := ⟨r.toNat, by omega⟩
  obtain ⟨na, hna⟩ : ∃ nd : Nat, ca.node = (nd : Int) := ⟨ca.node.toNat, by omega⟩
  obtain ⟨s, hs⟩ := at_ (l := ss) (k := nd) (by omega)
  obtain ⟨sa, hsa⟩ := at_ (l := ss) (k := na) (by omega)
  have hst : stl ss r = s := stl_at hs hnd
  have hsta : stl ss ca.node = sa := stl_at hsa hna
  obtain ⟨j, hj⟩ : ∃ j, i + 1 = j := ⟨_, rfl⟩
  rw [hj] at CK hb hr ⊢
  obtain ⟨q, hq⟩ : ∃ q, bkF ss l j = q := ⟨_, rfl⟩
  obtain ⟨mb, hmb⟩ : ∃ q, markC cb = q := ⟨_, rfl⟩
  obtain ⟨la, hla⟩ : ∃ q, lett ca = q := ⟨_, rfl⟩
  obtain ⟨lb, hlb⟩ : ∃ q, lett cb = q := ⟨_, rfl⟩
  have CM : Hid (∀ W, Calls Try.prog 45 #[.agg (chA cb)] W fun e w' => e = .returned (.bool mb) ∧ Below W.heap.size W w') := Lib.hid fun W => by rw [← hmb]; exact rmark_any cb W
  have CLA : Hid (∀ W, Calls Try.prog 15 #[.agg (chA ca)] W fun e w' => e = .returned (.bool la) ∧ Below W.heap.size W w') := Lib.hid fun W => by rw [← hla]; exact rletter_any ca W
  have CLB : Hid (∀ W, Calls Try.prog 15 #[.agg (chA cb)] W fun e w' => e = .returned (.bool lb) ∧ Below W.heap.size W w') := Lib.hid fun W => by rw [← hlb]; exact rletter_any cb W
  rw [hq] at CK
  obtain ⟨ka, hka⟩ : ∃ x, ca.kind = x := ⟨_, rfl⟩
  obtain ⟨kb, hkb⟩ : ∃ x, cb.kind = x := ⟨_, rfl⟩
  obtain ⟨r0, hx0⟩ : ∃ x, s.a0 = x := ⟨_, rfl⟩
  obtain ⟨r1, hx1⟩ : ∃ x, s.a1 = x := ⟨_, rfl⟩
  obtain ⟨r2, hx2⟩ : ∃ x, s.a2 = x := ⟨_, rfl⟩
  obtain ⟨r3, hx3⟩ : ∃ x, s.a3 = x := ⟨_, rfl⟩
  obtain ⟨s0, hs0⟩ : ∃ x, sa.a0 = x := ⟨_, rfl⟩
  have HX : Hid (ca.kind = ka ∧ cb.kind = kb ∧ s.a0 = r0 ∧ s.a1 = r1 ∧ s.a2 = r2 ∧ s.a3 = r3 ∧ sa.a0 = s0 ∧ ca.node = (na : Int)) := Lib.hid ⟨hka, hkb, hx0, hx1, hx2, hx3, hs0, hna⟩
  have HV : Hid (Ch.oneC ca cb (stl ss r) (stl ss ca.node) q = oneQ ka kb r0 r1 r2 r3 s0 q mb la lb) := Lib.hid (by rw [oneQ_is, hst, hsta, hka, hkb, hx0, hx1, hx2, hx3, hs0, hmb, hla, hlb])
  obtain ⟨V, hV⟩ : ∃ V, Ch.oneC ca cb (stl ss r) (stl ss ca.node) q = V := ⟨_, rfl⟩
  rw [hV] at HV
  rw [hq, hV]
  have HR := Lib.hid hR
  have HS := Lib.hid hS
  have HI := Lib.hid hI
  obtain ⟨ad, cap, oa, rfl, hab, hao, _⟩ := hR.get (Below.refl _ _) ha
  obtain ⟨adb, capb, ob, hvb, _, hbo, _⟩ := hR.get (Below.refl _ _) hb
  injection hvb with hvb1 _ hvb3
  injection hvb1 with hvb1
  subst hvb1 hvb3
  obtain ⟨adS, cap2, os, rfl, habS, hso, _⟩ := hS.get (Below.refl _ _) hs
  obtain ⟨adT, capT, ot, hvt, _, hto, _⟩ := hS.get (Below.refl _ _) hsa
  injection hvt with hvt1 _ hvt3
  injection hvt1 with hvt1
  subst hvt1 hvt3
  obtain ⟨A3, cap3, rfl⟩ := hI.form
  obtain ⟨m, hm1⟩ : ∃ m, l.length = m := ⟨_, rfl⟩
  obtain ⟨m2, hm2⟩ : ∃ m, ss.length = m := ⟨_, rfl⟩
  have hrl : rs.length = m := by rw [← hml, hm1]
  have hjl : j < l.length := (List.getElem?_eq_some_iff.1 hb).1
  have hil : i < l.length := (List.getElem?_eq_some_iff.1 ha).1
  have hndl : nd < m2 := by omega
  have hnal : na < m2 := by omega
  rw [r64_len, hrl] at HI ⊢
  rw [hm1] at HR hlen hjl hil CK ⊢
  rw [hm2] at HS CK ⊢
  obtain ⟨a3, cp3, hv4, hab3, _, hcell⟩ := HI.out.at_ (by rw [r64_len, hrl]; omega)
  obtain rfl : A3 = some a3 := by injection hv4
  have hcr := hcell j _ (r64_at hr)
  rw [hnd] at hcr
  have CC : Hid (∀ W, Below w.heap.size w W → Lies W ⟨ad.block, oa, none⟩ (chA ca) ∧ Lies W ⟨ad.block, ob, none⟩ (chA cb) ∧ Lies W ⟨adS.block, os, none⟩ s.cells ∧ W.cell? (a3.add j) = some (.int .i64 (nd : Int)) ∧ W.cell? ⟨adS.block, ot, none⟩ = some (.int .u8 s0)) := Lib.hid fun W b => by
    obtain ⟨x1, c1, o1, e1, _, p1, L1⟩ := HR.out.get b ha
    rw [hm1] at e1
    injection e1 with e1 _ _
    injection e1 with e1
    subst e1
    obtain rfl : oa = o1 := by rw [hao] at p1; injection p1
    obtain ⟨x2, c2, o2, e2, _, p2, L2⟩ := HR.out.get b hb
    rw [hm1] at e2
    injection e2 with e2 _ _
    injection e2 with e2
    subst e2
    obtain rfl : ob = o2 := by rw [hbo] at p2; injection p2
    obtain ⟨x3, c3, o3, e3, _, p3, L3⟩ := HS.out.get b hs
    rw [hm2] at e3
    injection e3 with e3 _ _
    injection e3 with e3
    subst e3
    obtain rfl : os = o3 := by rw [hso] at p3; injection p3
    obtain ⟨x4, c4, o4, e4, _, p4, L4⟩ := HS.out.get b hsa
    rw [hm2] at e4
    injection e4 with e4 _ _
    injection e4 with e4
    subst e4
    obtain rfl : ot = o4 := by rw [hto] at p4; injection p4
    have L5 := lies_cell L4 0 (v := .int .u8 sa.a0) rfl
    rw [hs0] at L5
    exact ⟨L1, L2, L3, (b.cell (p := a3.add j) (by rw [block_of_add]; exact hab3)).trans hcr, L5⟩
  have hjz : (j : Int) < m := by omega
  have hiz : (i : Int) < m := by omega
  have hndz : (nd : Int) < m2 := by omega
  have hnaz : (na : Int) < m2 := by omega
  have hwj : IntKind.i64.wrap ((j : Int) - 1) = (i : Int) := (IntWalk.i64_in _ (by omega)).trans (by omega)
  clear hml hmc hmr hm hR hS hI ha hb hr hr0 hr1 hn0 hn1 hs hsa hst hsta hq hmb hla hlb hka hkb hx0 hx1 hx2 hx3 hs0 hV hm1 hm2 hrl hv4 hcell hcr hj hjl hil hndl hnal hab habS
  go_enter Try.func25, Try.ntmps25
  go_wp2_with fail
  refine region_J (by kernel_rfl) (J3 w (fun k => ([.slice (some ad) m cap, .int .i64 (j : Int), .int .i64 (i : Int), .pointer (some ⟨ad.block, oa, none⟩), .agg (chA ca), .slice (some ad) m cap, .int .i64 (j : Int), .pointer (some ⟨ad.block, ob, none⟩), .agg (chA cb), .slice (some adS) m2 cap2, .slice (some a3) m cap3, .int .i64 (j : Int), .pointer (some (a3.add j)), .int .i64 (nd : Int), .pointer (some ⟨adS.block, os, none⟩), .agg s.cells] : List Value).getD k undef) ca cb s)
    ⟨below_drewN (Below.refl _ _) 1, fun _ _ h => (by cases h), fun h => (by cases h), fun h => (by cases h), fun h => (by cases h), fun h => (by cases h)⟩ (by kernel_rfl) (by kernel_rfl) (by kernel_rfl) (by kernel_rfl) ?step ?done
  case step =>
    intro listed us W hJ i2 o2 ho hun hw hcl
    obtain ⟨q1, q2, q3, q4, q5⟩ := CC.out W hJ.bel
    have V : ∀ k, k < 16 → waits _ i2 k = true → us k = _ := fun k hk h => hJ.val k hk (hw k h)
    simp only [putAll, Act.put, List.setIfInBounds_toArray, List.set_cons_zero, List.set_cons_succ]
    match i2, ho with
    | 0, ho =>
      simp only [List.getElem?_toArray, List.getElem?_cons_zero, Option.some.injEq] at ho
      subst ho
      exact StepJ.rd rfl (.slice (some ad) m cap) (by go_simp) (hJ.rd 0 (by omega))
    | 1, ho =>
      simp only [List.getElem?_toArray, List.getElem?_cons_zero, List.getElem?_cons_succ, Option.some.injEq] at ho
      subst ho
      exact StepJ.rd rfl (.int .i64 (j : Int)) (by go_simp) (hJ.rd 1 (by omega))
    | 2, ho =>
      simp only [List.getElem?_toArray, List.getElem?_cons_zero, List.getElem?_cons_succ, Option.some.injEq] at ho
      subst ho
      have h1 : us 1 = .int .i64 (j : Int) := V 1 (by omega) (by kernel_rfl)
      rw [h1]
      exact StepJ.rd rfl (.int .i64 (i : Int)) (by go_simp) (hJ.rd 2 (by omega))
    | 3, ho =>
      simp only [List.getElem?_toArray, List.getElem?_cons_zero, List.getElem?_cons_succ, Option.some.injEq] at ho
      subst ho
      have h0 : us 0 = .slice (some ad) m cap := V 0 (by omega) (by kernel_rfl)
      have h2 : us 2 = .int .i64 (i : Int) := V 2 (by omega) (by kernel_rfl)
      rw [h0, h2]
      exact StepJ.rd rfl (.pointer (some ⟨ad.block, oa, none⟩)) (by go_simp) (hJ.rd 3 (by omega))
    | 4, ho =>
      simp only [List.getElem?_toArray, List.getElem?_cons_zero, List.getElem?_cons_succ, Option.some.injEq] at ho
      subst ho
      have h3 : us 3 = .pointer (some ⟨ad.block, oa, none⟩) := V 3 (by omega) (by kernel_rfl)
      rw [h3]
      exact StepJ.rd rfl _ (rdC (.tmp 15) rfl _ rfl ca q1) (hJ.rd 4 (by omega))
    | 5, ho =>
      simp only [List.getElem?_toArray, List.getElem?_cons_zero, List.getElem?_cons_succ, Option.some.injEq] at ho
      subst ho
      exact StepJ.rd rfl (.slice (some ad) m cap) (by go_simp) (hJ.rd 5 (by omega))
    | 6, ho =>
      simp only [List.getElem?_toArray, List.getElem?_cons_zero, List.getElem?_cons_succ, Option.some.injEq] at ho
      subst ho
      exact StepJ.rd rfl (.int .i64 (j : Int)) (by go_simp) (hJ.rd 6 (by omega))
    | 7, ho =>
      simp only [List.getElem?_toArray, List.getElem?_cons_zero, List.getElem?_cons_succ, Option.some.injEq] at ho
      subst ho
      have h5 : us 5 = .slice (some ad) m cap := V 5 (by omega) (by kernel_rfl)
      have h6 : us 6 = .int .i64 (j : Int) := V 6 (by omega) (by kernel_rfl)
      rw [h5, h6]
      exact StepJ.rd rfl (.pointer (some ⟨ad.block, ob, none⟩)) (by go_simp) (hJ.rd 7 (by omega))
    | 8, ho =>
      simp only [List.getElem?_toArray, List.getElem?_cons_zero, List.getElem?_cons_succ, Option.some.injEq] at ho
      subst ho
      have h7 : us 7 = .pointer (some ⟨ad.block, ob, none⟩) := V 7 (by omega) (by kernel_rfl)
      rw [h7]
      exact StepJ.rd rfl _ (rdC (.tmp 19) rfl _ rfl cb q2) (hJ.rd 8 (by omega))
    | 9, ho =>
      simp only [List.getElem?_toArray, List.getElem?_cons_zero, List.getElem?_cons_succ, Option.some.injEq] at ho
      subst ho
      exact StepJ.rd rfl (.slice (some adS) m2 cap2) (by go_simp) (hJ.rd 9 (by omega))
    | 10, ho =>
      simp only [List.getElem?_toArray, List.getElem?_cons_zero, List.getElem?_cons_succ, Option.some.injEq] at ho
      subst ho
      exact StepJ.rd rfl (.slice (some a3) m cap3) (by go_simp) (hJ.rd 10 (by omega))
    | 11, ho =>
      simp only [List.getElem?_toArray, List.getElem?_cons_zero, List.getElem?_cons_succ, Option.some.injEq] at ho
      subst ho
      exact StepJ.rd rfl (.int .i64 (j : Int)) (by go_simp) (hJ.rd 11 (by omega))
    | 12, ho =>
      simp only [List.getElem?_toArray, List.getElem?_cons_zero, List.getElem?_cons_succ, Option.some.injEq] at ho
      subst ho
      have h10 : us 10 = .slice (some a3) m cap3 := V 10 (by omega) (by kernel_rfl)
      have h11 : us 11 = .int .i64 (j : Int) := V 11 (by omega) (by kernel_rfl)
      rw [h10, h11]
      exact StepJ.rd rfl (.pointer (some (a3.add j))) (by go_simp) (hJ.rd 12 (by omega))
    | 13, ho =>
      simp only [List.getElem?_toArray, List.getElem?_cons_zero, List.getElem?_cons_succ, Option.some.injEq] at ho
      subst ho
      have h12 : us 12 = .pointer (some (a3.add j)) := V 12 (by omega) (by kernel_rfl)
      rw [h12]
      exact StepJ.rd rfl (.int .i64 (nd : Int)) (by go_simp) (hJ.rd 13 (by omega))
    | 14, ho =>
      simp only [List.getElem?_toArray, List.getElem?_cons_zero, List.getElem?_cons_succ, Option.some.injEq] at ho
      subst ho
      have h9 : us 9 = .slice (some adS) m2 cap2 := V 9 (by omega) (by kernel_rfl)
      have h13 : us 13 = .int .i64 (nd : Int) := V 13 (by omega) (by kernel_rfl)
      rw [h9, h13]
      exact StepJ.rd rfl (.pointer (some ⟨adS.block, os, none⟩)) (by go_simp) (hJ.rd 14 (by omega))
    | 15, ho =>
      simp only [List.getElem?_toArray, List.getElem?_cons_zero, List.getElem?_cons_succ, Option.some.injEq] at ho
      subst ho
      have h14 : us 14 = .pointer (some ⟨adS.block, os, none⟩) := V 14 (by omega) (by kernel_rfl)
      rw [h14]
      exact StepJ.rd rfl _ (rdS (.tmp 26) rfl _ rfl s q3) (hJ.rd 15 (by omega))
    | 16, ho =>
      simp only [List.getElem?_toArray, List.getElem?_cons_zero, List.getElem?_cons_succ, Option.some.injEq] at ho
      subst ho
      have hst : listed 19 = false := by
        cases e : listed 19 with
        | false => rfl
        | true => have := hcl 19 16 e (by kernel_rfl); rw [this] at hun; cases hun
      exact .inl ⟨wanted_none rfl _, .inl ⟨_, _, run_op_new _ rfl _ alC, hJ.al16 hst⟩⟩
    | 17, ho =>
      simp only [List.getElem?_toArray, List.getElem?_cons_zero, List.getElem?_cons_succ, Option.some.injEq] at ho
      subst ho
      have hst : listed 20 = false := by
        cases e : listed 20 with
        | false => rfl
        | true => have := hcl 20 17 e (by kernel_rfl); rw [this] at hun; cases hun
      exact .inl ⟨wanted_none rfl _, .inl ⟨_, _, run_op_new _ rfl _ alC, hJ.al17 hst⟩⟩
    | 18, ho =>
      simp only [List.getElem?_toArray, List.getElem?_cons_zero, List.getElem?_cons_succ, Option.some.injEq] at ho
      subst ho
      have hst : listed 21 = false := by
        cases e : listed 21 with
        | false => rfl
        | true => have := hcl 21 18 e (by kernel_rfl); rw [this] at hun; cases hun
      exact .inl ⟨wanted_none rfl _, .inl ⟨_, _, run_op_new _ rfl _ alS, hJ.al18 hst⟩⟩
    | 19, ho =>
      simp only [List.getElem?_toArray, List.getElem?_cons_zero, List.getElem?_cons_succ, Option.some.injEq] at ho
      subst ho
      have hv : us 4 = .agg (chA ca) := V 4 (by omega) (by kernel_rfl)
      rw [hv]
      exact .inl ⟨wanted_none rfl _, .inr (.inl (hJ.st19 (hw 16 (by kernel_rfl)) (hw 17 (by kernel_rfl)) (hw 18 (by kernel_rfl)) hun (.tmp 9) (.tmp 16) rfl rfl rfl))⟩
    | 20, ho =>
      simp only [List.getElem?_toArray, List.getElem?_cons_zero, List.getElem?_cons_succ, Option.some.injEq] at ho
      subst ho
      have hv : us 8 = .agg (chA cb) := V 8 (by omega) (by kernel_rfl)
      rw [hv]
      exact .inl ⟨wanted_none rfl _, .inr (.inl (hJ.st20 (hw 16 (by kernel_rfl)) (hw 17 (by kernel_rfl)) (hw 18 (by kernel_rfl)) hun (.tmp 10) (.tmp 20) rfl rfl rfl))⟩
    | 21, ho =>
      simp only [List.getElem?_toArray, List.getElem?_cons_zero, List.getElem?_cons_succ, Option.some.injEq] at ho
      subst ho
      have hv : us 15 = .agg s.cells := V 15 (by omega) (by kernel_rfl)
      rw [hv]
      exact .inl ⟨wanted_none rfl _, .inr (.inl (hJ.st21 (hw 16 (by kernel_rfl)) (hw 17 (by kernel_rfl)) (hw 18 (by kernel_rfl)) hun (.tmp 11) (.tmp 27) rfl rfl rfl))⟩
    | n + 22, ho => simp at ho
  case done =>
    intro listed us W hl hJ
    obtain ⟨ga, e1, g1, A1⟩ := hJ.va (hl 16 (by decide))
    obtain ⟨gb, e2, g2, A2⟩ := hJ.vb (hl 17 (by decide))
    obtain ⟨gs, e3, g3, A3⟩ := hJ.vs (hl 18 (by decide))
    rw [hl 19 (by decide), if_pos rfl] at A1
    rw [hl 20 (by decide), if_pos rfl] at A2
    rw [hl 21 (by decide), if_pos rfl] at A3
    have hbel := hJ.bel
    have HB : Hid (∀ X, Below W.heap.size W X → Blk X ga 39 (chA ca) ∧ Blk X gb 39 (chA cb) ∧ X.cell? ⟨ga, 4, none⟩ = some (.int .u8 ka) ∧ X.cell? ⟨ga, 1, none⟩ = some (.int .i64 (na : Int)) ∧ X.cell? ⟨gb, 4, none⟩ = some (.int .u8 kb) ∧ X.cell? ⟨gs, 0, none⟩ = some (.int .u8 r0) ∧ X.cell? ⟨gs, 1, none⟩ = some (.int .u8 r1) ∧ X.cell? ⟨gs, 2, none⟩ = some (.int .u8 r2) ∧ X.cell? ⟨gs, 3, none⟩ = some (.int .u8 r3) ∧ X.cell? ⟨adS.block, ot, none⟩ = some (.int .u8 s0)) := Lib.hid fun X b => by
      have k1 := A1.keep (S := fun _ => False) (Mod.of_below b) id
      have k2 := A2.keep (S := fun _ => False) (Mod.of_below b) id
      have k3 := A3.keep (S := fun _ => False) (Mod.of_below b) id
      obtain ⟨x1, x2, x3, x4, x5, x6, x7, x8⟩ := HX.out
      refine ⟨k1, k2, ?_, ?_, ?_, ?_, ?_, ?_, ?_, (CC.out X (hbel.trans (b.mono hbel.size))).2.2.2.2⟩
      · rw [k1.cell 4, ← x1]; rfl
      · rw [k1.cell 1, ← x8]; rfl
      · rw [k2.cell 4, ← x2]; rfl
      · rw [k3.cell 0, ← x3]; rfl
      · rw [k3.cell 1, ← x4]; rfl
      · rw [k3.cell 2, ← x5]; rfl
      · rw [k3.cell 3, ← x6]; rfl
    have HBE := Lib.hid hbel
    simp only [putAll, Act.put, List.setIfInBounds_toArray, List.set_cons_zero, List.set_cons_succ]
    rw [e1, e2, e3]
    obtain ⟨k1, k2, c4, c1, d4, t0, t1, t2, t3, u0⟩ := HB.out W (Below.refl _ _)
    clear hJ hl A1 A2 A3 e1 e2 e3 g1 g2 g3 hbel CC hwj hndz hiz hjz
    by_cases a5 : ka = 5
    · subst a5
      go_wp2_with fail
      go_ret
      exact ⟨ret1 (by rw [HV.out]; simp [oneQ]), HBE.out.trans ((Below.refl _ _).mono HBE.out.size)⟩
    by_cases b5 : kb = 5
    · subst b5
      go_wp2_with fail
      go_ret
      exact ⟨ret1 (by rw [HV.out]; simp [oneQ]), HBE.out.trans ((Below.refl _ _).mono HBE.out.size)⟩
    by_cases x1 : r0 = 1
    · subst x1
      go_wp2_with fail
      go_ret
      exact ⟨ret1 (by rw [HV.out]; simp [oneQ]), HBE.out.trans ((Below.refl _ _).mono HBE.out.size)⟩
    by_cases x2 : r0 = 2
    · subst x2
      go_wp2_with fail
      go_ret
      exact ⟨ret1 (by rw [HV.out]; simp [oneQ]), HBE.out.trans ((Below.refl _ _).mono HBE.out.size)⟩
    have n_a5 : (ka == 5) = false := by simpa using a5
    have n_b5 : (kb == 5) = false := by simpa using b5
    have n_x1 : (r0 == 1) = false := by simpa using x1
    have n_x2 : (r0 == 2) = false := by simpa using x2
    by_cases z3 : ka = 3
    · subst z3
      clear n_a5
      by_cases s5 : s0 = 5
      · subst s5
        go_wp2_with fail
        go_ret
        exact ⟨ret1 (by rw [HV.out]; simp [oneQ, b5, x1, x2]), HBE.out.trans ((Below.refl _ _).mono HBE.out.size)⟩
      have n_s5 : (s0 == 5) = false := by simpa using s5
      by_cases b1 : kb = 1
      · subst b1
        go_wp2_with fail
        go_ret
        exact ⟨ret1 (by rw [HV.out]; simp [oneQ, b5, x1, x2, s5]), HBE.out.trans ((Below.refl _ _).mono HBE.out.size)⟩
      by_cases b2 : kb = 2
      · subst b2
        go_wp2_with fail
        go_ret
        exact ⟨ret1 (by rw [HV.out]; simp [oneQ, b5, x1, x2, s5]), HBE.out.trans ((Below.refl _ _).mono HBE.out.size)⟩
      have n_b1 : (kb == 1) = false := by simpa using b1
      have n_b2 : (kb == 2) = false := by simpa using b2
      by_cases l3 : r3 = 3
      · subst l3
        go_wp2_with (with_reducible refine ldCIf (o := ⟨some 75, _, _, _, _, _⟩) (by kernel_rfl) (.tmp 10) (by kernel_rfl) ⟨gb, 0, none⟩ (by kernel_rfl) cb k2.lies ?_)
        refine (CM.out _).mono ?_
        rintro e w2 ⟨rfl, bel⟩
        obtain ⟨k1, k2, c4, c1, d4, t0, t1, t2, t3, u0⟩ := HB.out w2 bel
        cases mb
        · go_wp2_with fail
          go_ret
          exact ⟨ret1 (by rw [HV.out]; simp [oneQ, b5, x1, x2, s5, b1, b2]), HBE.out.trans (bel.mono HBE.out.size)⟩
        · go_wp2_with fail
          go_ret
          exact ⟨ret1 (by rw [HV.out]; simp [oneQ, b5, x1, x2, s5, b1, b2]), HBE.out.trans (bel.mono HBE.out.size)⟩
      · have n_l3 : (r3 == 3) = false := by simpa using l3
        go_wp2_with fail
        refine (CK.out _ HBE.out).mono ?_
        rintro e w2 ⟨rfl, bel⟩
        obtain ⟨k1, k2, c4, c1, d4, t0, t1, t2, t3, u0⟩ := HB.out w2 bel
        cases q
        · skip
          by_cases y1 : r2 = 1
          · subst y1
            go_wp2_with (with_reducible refine ldCIf (o := ⟨some 103, _, _, _, _, _⟩) (by kernel_rfl) (.tmp 10) (by kernel_rfl) ⟨gb, 0, none⟩ (by kernel_rfl) cb k2.lies ?_)
            refine (CM.out _).mono ?_
            rintro e wm ⟨rfl, bm⟩
            have bel2 := below_seq bel bm
            cases mb
            · go_wp2_with fail
              go_ret
              exact ⟨ret1 (by rw [HV.out]; simp [oneQ, b5, x1, x2, s5, b1, b2, l3]), HBE.out.trans (bel2.mono HBE.out.size)⟩
            · go_wp2_with fail
              go_ret
              exact ⟨ret1 (by rw [HV.out]; simp [oneQ, b5, x1, x2, s5, b1, b2, l3]), HBE.out.trans (bel2.mono HBE.out.size)⟩
          · have n_y1 : (r2 == 1) = false := by simpa using y1
            go_wp2_with fail
            go_ret
            exact ⟨ret1 (by rw [HV.out]; simp [oneQ, b5, x1, x2, s5, b1, b2, l3, y1]), HBE.out.trans (bel.mono HBE.out.size)⟩
        · by_cases v2 : r1 = 2
          · subst v2
            go_wp2_with (with_reducible refine ldCIf (o := ⟨some 90, _, _, _, _, _⟩) (by kernel_rfl) (.tmp 9) (by kernel_rfl) ⟨ga, 0, none⟩ (by kernel_rfl) ca k1.lies ?_)
            refine (CLA.out _).mono ?_
            rintro e w3 ⟨rfl, b3⟩
            have bel3 := below_seq bel b3
            obtain ⟨k1, k2, c4, c1, d4, t0, t1, t2, t3, u0⟩ := HB.out w3 bel3
            cases la
            · go_wp2_with fail
              go_ret
              exact ⟨ret1 (by rw [HV.out]; simp [oneQ, b5, x1, x2, s5, b1, b2, l3]), HBE.out.trans (bel3.mono HBE.out.size)⟩
            · go_wp2_with (with_reducible refine ldCIf (o := ⟨some 94, _, _, _, _, _⟩) (by kernel_rfl) (.tmp 10) (by kernel_rfl) ⟨gb, 0, none⟩ (by kernel_rfl) cb k2.lies ?_)
              refine (CLB.out _).mono ?_
              rintro e w4 ⟨rfl, b4⟩
              have bel4 := below_seq bel3 b4
              obtain ⟨k1, k2, c4, c1, d4, t0, t1, t2, t3, u0⟩ := HB.out w4 bel4
              cases lb
              · go_wp2_with fail
                go_ret
                exact ⟨ret1 (by rw [HV.out]; simp [oneQ, b5, x1, x2, s5, b1, b2, l3]), HBE.out.trans (bel4.mono HBE.out.size)⟩
              · by_cases y1 : r2 = 1
                · subst y1
                  go_wp2_with (with_reducible refine ldCIf (o := ⟨some 103, _, _, _, _, _⟩) (by kernel_rfl) (.tmp 10) (by kernel_rfl) ⟨gb, 0, none⟩ (by kernel_rfl) cb k2.lies ?_)
                  refine (CM.out _).mono ?_
                  rintro e wm ⟨rfl, bm⟩
                  have bel2 := below_seq bel4 bm
                  cases mb
                  · go_wp2_with fail
                    go_ret
                    exact ⟨ret1 (by rw [HV.out]; simp [oneQ, b5, x1, x2, s5, b1, b2, l3]), HBE.out.trans (bel2.mono HBE.out.size)⟩
                  · go_wp2_with fail
                    go_ret
                    exact ⟨ret1 (by rw [HV.out]; simp [oneQ, b5, x1, x2, s5, b1, b2, l3]), HBE.out.trans (bel2.mono HBE.out.size)⟩
                · have n_y1 : (r2 == 1) = false := by simpa using y1
                  go_wp2_with fail
                  go_ret
                  exact ⟨ret1 (by rw [HV.out]; simp [oneQ, b5, x1, x2, s5, b1, b2, l3, y1]), HBE.out.trans (bel4.mono HBE.out.size)⟩
          · have n_v2 : (r1 == 2) = false := by simpa using v2
            go_wp2_with fail
            go_ret
            exact ⟨ret1 (by rw [HV.out]; simp [oneQ, b5, x1, x2, s5, b1, b2, l3, v2]), HBE.out.trans (bel.mono HBE.out.size)⟩
    by_cases z4 : ka = 4
    · subst z4
      clear n_a5
      by_cases s5 : s0 = 5
      · subst s5
        go_wp2_with fail
        go_ret
        exact ⟨ret1 (by rw [HV.out]; simp [oneQ, b5, x1, x2]), HBE.out.trans ((Below.refl _ _).mono HBE.out.size)⟩
      have n_s5 : (s0 == 5) = false := by simpa using s5
      by_cases b1 : kb = 1
      · subst b1
        go_wp2_with fail
        go_ret
        exact ⟨ret1 (by rw [HV.out]; simp [oneQ, b5, x1, x2, s5]), HBE.out.trans ((Below.refl _ _).mono HBE.out.size)⟩
      by_cases b2 : kb = 2
      · subst b2
        go_wp2_with fail
        go_ret
        exact ⟨ret1 (by rw [HV.out]; simp [oneQ, b5, x1, x2, s5]), HBE.out.trans ((Below.refl _ _).mono HBE.out.size)⟩
      have n_b1 : (kb == 1) = false := by simpa using b1
      have n_b2 : (kb == 2) = false := by simpa using b2
      by_cases l3 : r3 = 3
      · subst l3
        go_wp2_with (with_reducible refine ldCIf (o := ⟨some 75, _, _, _, _, _⟩) (by kernel_rfl) (.tmp 10) (by kernel_rfl) ⟨gb, 0, none⟩ (by kernel_rfl) cb k2.lies ?_)
        refine (CM.out _).mono ?_
        rintro e w2 ⟨rfl, bel⟩
        obtain ⟨k1, k2, c4, c1, d4, t0, t1, t2, t3, u0⟩ := HB.out w2 bel
        cases mb
        · go_wp2_with fail
          go_ret
          exact ⟨ret1 (by rw [HV.out]; simp [oneQ, b5, x1, x2, s5, b1, b2]), HBE.out.trans (bel.mono HBE.out.size)⟩
        · go_wp2_with fail
          go_ret
          exact ⟨ret1 (by rw [HV.out]; simp [oneQ, b5, x1, x2, s5, b1, b2]), HBE.out.trans (bel.mono HBE.out.size)⟩
      · have n_l3 : (r3 == 3) = false := by simpa using l3
        go_wp2_with fail
        refine (CK.out _ HBE.out).mono ?_
        rintro e w2 ⟨rfl, bel⟩
        obtain ⟨k1, k2, c4, c1, d4, t0, t1, t2, t3, u0⟩ := HB.out w2 bel
        cases q
        · skip
          by_cases y1 : r2 = 1
          · subst y1
            go_wp2_with (with_reducible refine ldCIf (o := ⟨some 103, _, _, _, _, _⟩) (by kernel_rfl) (.tmp 10) (by kernel_rfl) ⟨gb, 0, none⟩ (by kernel_rfl) cb k2.lies ?_)
            refine (CM.out _).mono ?_
            rintro e wm ⟨rfl, bm⟩
            have bel2 := below_seq bel bm
            cases mb
            · go_wp2_with fail
              go_ret
              exact ⟨ret1 (by rw [HV.out]; simp [oneQ, b5, x1, x2, s5, b1, b2, l3]), HBE.out.trans (bel2.mono HBE.out.size)⟩
            · go_wp2_with fail
              go_ret
              exact ⟨ret1 (by rw [HV.out]; simp [oneQ, b5, x1, x2, s5, b1, b2, l3]), HBE.out.trans (bel2.mono HBE.out.size)⟩
          · have n_y1 : (r2 == 1) = false := by simpa using y1
            go_wp2_with fail
            go_ret
            exact ⟨ret1 (by rw [HV.out]; simp [oneQ, b5, x1, x2, s5, b1, b2, l3, y1]), HBE.out.trans (bel.mono HBE.out.size)⟩
        · by_cases v2 : r1 = 2
          · subst v2
            go_wp2_with (with_reducible refine ldCIf (o := ⟨some 90, _, _, _, _, _⟩) (by kernel_rfl) (.tmp 9) (by kernel_rfl) ⟨ga, 0, none⟩ (by kernel_rfl) ca k1.lies ?_)
            refine (CLA.out _).mono ?_
            rintro e w3 ⟨rfl, b3⟩
            have bel3 := below_seq bel b3
            obtain ⟨k1, k2, c4, c1, d4, t0, t1, t2, t3, u0⟩ := HB.out w3 bel3
            cases la
            · go_wp2_with fail
              go_ret
              exact ⟨ret1 (by rw [HV.out]; simp [oneQ, b5, x1, x2, s5, b1, b2, l3]), HBE.out.trans (bel3.mono HBE.out.size)⟩
            · go_wp2_with (with_reducible refine ldCIf (o := ⟨some 94, _, _, _, _, _⟩) (by kernel_rfl) (.tmp 10) (by kernel_rfl) ⟨gb, 0, none⟩ (by kernel_rfl) cb k2.lies ?_)
              refine (CLB.out _).mono ?_
              rintro e w4 ⟨rfl, b4⟩
              have bel4 := below_seq bel3 b4
              obtain ⟨k1, k2, c4, c1, d4, t0, t1, t2, t3, u0⟩ := HB.out w4 bel4
              cases lb
              · go_wp2_with fail
                go_ret
                exact ⟨ret1 (by rw [HV.out]; simp [oneQ, b5, x1, x2, s5, b1, b2, l3]), HBE.out.trans (bel4.mono HBE.out.size)⟩
              · by_cases y1 : r2 = 1
                · subst y1
                  go_wp2_with (with_reducible refine ldCIf (o := ⟨some 103, _, _, _, _, _⟩) (by kernel_rfl) (.tmp 10) (by kernel_rfl) ⟨gb, 0, none⟩ (by kernel_rfl) cb k2.lies ?_)
                  refine (CM.out _).mono ?_
                  rintro e wm ⟨rfl, bm⟩
                  have bel2 := below_seq bel4 bm
                  cases mb
                  · go_wp2_with fail
                    go_ret
                    exact ⟨ret1 (by rw [HV.out]; simp [oneQ, b5, x1, x2, s5, b1, b2, l3]), HBE.out.trans (bel2.mono HBE.out.size)⟩
                  · go_wp2_with fail
                    go_ret
                    exact ⟨ret1 (by rw [HV.out]; simp [oneQ, b5, x1, x2, s5, b1, b2, l3]), HBE.out.trans (bel2.mono HBE.out.size)⟩
                · have n_y1 : (r2 == 1) = false := by simpa using y1
                  go_wp2_with fail
                  go_ret
                  exact ⟨ret1 (by rw [HV.out]; simp [oneQ, b5, x1, x2, s5, b1, b2, l3, y1]), HBE.out.trans (bel4.mono HBE.out.size)⟩
          · have n_v2 : (r1 == 2) = false := by simpa using v2
            go_wp2_with fail
            go_ret
            exact ⟨ret1 (by rw [HV.out]; simp [oneQ, b5, x1, x2, s5, b1, b2, l3, v2]), HBE.out.trans (bel.mono HBE.out.size)⟩
    have n_z3 : (ka == 3) = false := by simpa using z3
    have n_z4 : (ka == 4) = false := by simpa using z4
    by_cases b1 : kb = 1
    · subst b1
      go_wp2_with fail
      go_ret
      exact ⟨ret1 (by rw [HV.out]; simp [oneQ, a5, b5, x1, x2, z3, z4]), HBE.out.trans ((Below.refl _ _).mono HBE.out.size)⟩
    by_cases b2 : kb = 2
    · subst b2
      go_wp2_with fail
      go_ret
      exact ⟨ret1 (by rw [HV.out]; simp [oneQ, a5, b5, x1, x2, z3, z4]), HBE.out.trans ((Below.refl _ _).mono HBE.out.size)⟩
    have n_b1 : (kb == 1) = false := by simpa using b1
    have n_b2 : (kb == 2) = false := by simpa using b2
    by_cases l3 : r3 = 3
    · subst l3
      go_wp2_with (with_reducible refine ldCIf (o := ⟨some 75, _, _, _, _, _⟩) (by kernel_rfl) (.tmp 10) (by kernel_rfl) ⟨gb, 0, none⟩ (by kernel_rfl) cb k2.lies ?_)
      refine (CM.out _).mono ?_
      rintro e w2 ⟨rfl, bel⟩
      obtain ⟨k1, k2, c4, c1, d4, t0, t1, t2, t3, u0⟩ := HB.out w2 bel
      cases mb
      · go_wp2_with fail
        go_ret
        exact ⟨ret1 (by rw [HV.out]; simp [oneQ, a5, b5, x1, x2, z3, z4, b1, b2]), HBE.out.trans (bel.mono HBE.out.size)⟩
      · go_wp2_with fail
        go_ret
        exact ⟨ret1 (by rw [HV.out]; simp [oneQ, a5, b5, x1, x2, z3, z4, b1, b2]), HBE.out.trans (bel.mono HBE.out.size)⟩
    · have n_l3 : (r3 == 3) = false := by simpa using l3
      go_wp2_with fail
      refine (CK.out _ HBE.out).mono ?_
      rintro e w2 ⟨rfl, bel⟩
      obtain ⟨k1, k2, c4, c1, d4, t0, t1, t2, t3, u0⟩ := HB.out w2 bel
      cases q
      · skip
        by_cases y1 : r2 = 1
        · subst y1
          go_wp2_with (with_reducible refine ldCIf (o := ⟨some 103, _, _, _, _, _⟩) (by kernel_rfl) (.tmp 10) (by kernel_rfl) ⟨gb, 0, none⟩ (by kernel_rfl) cb k2.lies ?_)
          refine (CM.out _).mono ?_
          rintro e wm ⟨rfl, bm⟩
          have bel2 := below_seq bel bm
          cases mb
          · go_wp2_with fail
            go_ret
            exact ⟨ret1 (by rw [HV.out]; simp [oneQ, a5, b5, x1, x2, z3, z4, b1, b2, l3]), HBE.out.trans (bel2.mono HBE.out.size)⟩
          · go_wp2_with fail
            go_ret
            exact ⟨ret1 (by rw [HV.out]; simp [oneQ, a5, b5, x1, x2, z3, z4, b1, b2, l3]), HBE.out.trans (bel2.mono HBE.out.size)⟩
        · have n_y1 : (r2 == 1) = false := by simpa using y1
          go_wp2_with fail
          go_ret
          exact ⟨ret1 (by rw [HV.out]; simp [oneQ, a5, b5, x1, x2, z3, z4, b1, b2, l3, y1]), HBE.out.trans (bel.mono HBE.out.size)⟩
      · by_cases v2 : r1 = 2
        · subst v2
          go_wp2_with (with_reducible refine ldCIf (o := ⟨some 90, _, _, _, _, _⟩) (by kernel_rfl) (.tmp 9) (by kernel_rfl) ⟨ga, 0, none⟩ (by kernel_rfl) ca k1.lies ?_)
          refine (CLA.out _).mono ?_
          rintro e w3 ⟨rfl, b3⟩
          have bel3 := below_seq bel b3
          obtain ⟨k1, k2, c4, c1, d4, t0, t1, t2, t3, u0⟩ := HB.out w3 bel3
          cases la
          · go_wp2_with fail
            go_ret
            exact ⟨ret1 (by rw [HV.out]; simp [oneQ, a5, b5, x1, x2, z3, z4, b1, b2, l3]), HBE.out.trans (bel3.mono HBE.out.size)⟩
          · go_wp2_with (with_reducible refine ldCIf (o := ⟨some 94, _, _, _, _, _⟩) (by kernel_rfl) (.tmp 10) (by kernel_rfl) ⟨gb, 0, none⟩ (by kernel_rfl) cb k2.lies ?_)
            refine (CLB.out _).mono ?_
            rintro e w4 ⟨rfl, b4⟩
            have bel4 := below_seq bel3 b4
            obtain ⟨k1, k2, c4, c1, d4, t0, t1, t2, t3, u0⟩ := HB.out w4 bel4
            cases lb
            · go_wp2_with fail
              go_ret
              exact ⟨ret1 (by rw [HV.out]; simp [oneQ, a5, b5, x1, x2, z3, z4, b1, b2, l3]), HBE.out.trans (bel4.mono HBE.out.size)⟩
            · by_cases y1 : r2 = 1
              · subst y1
                go_wp2_with (with_reducible refine ldCIf (o := ⟨some 103, _, _, _, _, _⟩) (by kernel_rfl) (.tmp 10) (by kernel_rfl) ⟨gb, 0, none⟩ (by kernel_rfl) cb k2.lies ?_)
                refine (CM.out _).mono ?_
                rintro e wm ⟨rfl, bm⟩
                have bel2 := below_seq bel4 bm
                cases mb
                · go_wp2_with fail
                  go_ret
                  exact ⟨ret1 (by rw [HV.out]; simp [oneQ, a5, b5, x1, x2, z3, z4, b1, b2, l3]), HBE.out.trans (bel2.mono HBE.out.size)⟩
                · go_wp2_with fail
                  go_ret
                  exact ⟨ret1 (by rw [HV.out]; simp [oneQ, a5, b5, x1, x2, z3, z4, b1, b2, l3]), HBE.out.trans (bel2.mono HBE.out.size)⟩
              · have n_y1 : (r2 == 1) = false := by simpa using y1
                go_wp2_with fail
                go_ret
                exact ⟨ret1 (by rw [HV.out]; simp [oneQ, a5, b5, x1, x2, z3, z4, b1, b2, l3, y1]), HBE.out.trans (bel4.mono HBE.out.size)⟩
        · have n_v2 : (r1 == 2) = false := by simpa using v2
          go_wp2_with fail
          go_ret
          exact ⟨ret1 (by rw [HV.out]; simp [oneQ, a5, b5, x1, x2, z3, z4, b1, b2, l3, v2]), HBE.out.trans (bel.mono HBE.out.size)⟩
end Go.Proofs.Ytnoenccpbbkdeaa
