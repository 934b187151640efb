/- Contracts of layers below. -/
import Derived.Test.YtmceblkjbpbcoaaGreatDoorPWhRow
import Derived.Test.YtmceblkjbpbcoaaGreatDoorPYLaws
import Derived.Test.YtmceblkjbpbcoaaGreatDoorPAr3
import Derived.Test.YtmceblkjbpbcoaaGreatDoorPApG
import Derived.Test.YtmceblkjbpbcoaaGreatDoorPWhMath
import Derived.Test.YtmceblkjbpbcoaaGreatDoorPBase
import Derived.Test.YtmceblkjbpbcoaaGreatDoorPY5
namespace Go.Proofs.YtmceblkjbpbcoaaGreatDoor
set_option maxRecDepth 100000
set_option maxHeartbeats 8000000
open Go.ChangeShapes Go.WideShapes Go.ChangeAt Go.RowKit
namespace Wl
open Wh
structure Has (cur : Array Value) (o : Nat) (xs : List Value) : Prop where
 all : ∀ (j : Nat) (v : Value), xs[j]? = some v -> cur[o + j]? = some v
theorem Has.le {cur : Array Value} {o : Nat} {xs : List Value} (h : Has cur o xs) (hp : 0 < xs.length) : o + xs.length <= cur.size := by
 have h1 := h.all (xs.length - 1) _ (xac (by omega))
 have := (xag h1).1
 omega
theorem qyu {cur : Array Value} {o : Nat} {xs : List Value} (h : Has cur o xs) (hp : 0 < xs.length) : spl cur o xs = cur := by
 have hl := h.le hp
 apply Array.ext_getElem?
 intro i
 by_cases hi : i < o \/ o + xs.length <= i
 ·rw [qbp _ _ _ hl i hi]
 ·have e := qdl cur o xs hl (i - o) (by omega)
  rw [show o + (i - o) = i by omega] at e
  have h2 := h.all (i - o) _ (xac (by omega))
  rw [show o + (i - o) = i by omega] at h2
  rw [e, h2]
  exact xac _
theorem qkw {cur : Array Value} {o j : Nat} {xs : List Value} {v : Value} (h : Has cur o xs) (hj : j < xs.length) : cur.setIfInBounds (o + j) v = spl cur o (xs.set j v) := by
 have hl := h.le (by omega)
 have hl2 : o + (xs.set j v).length <= cur.size := by rw [List.length_set]; exact hl
 apply Array.ext_getElem?
 intro i
 by_cases hi : i < o \/ o + xs.length <= i
 ·rw [qbp _ _ _ hl2 i (by rw [List.length_set]; exact hi), Array.getElem?_setIfInBounds_ne (by omega)]
 ·have e := qdl cur o (xs.set j v) hl2 (i - o) (by rw [List.length_set]; omega)
  rw [show o + (i - o) = i by omega] at e
  rw [e]
  by_cases hij : i = o + j
  ·subst hij
   rw [Array.getElem?_setIfInBounds_self_of_lt (by omega), show o + j - o = j by omega, List.getElem?_set_self hj]
  ·rw [Array.getElem?_setIfInBounds_ne (by omega), List.getElem?_set_ne (by omega)]
   have h2 := h.all (i - o) _ (xac (by omega))
   rw [show o + (i - o) = i by omega] at h2
   rw [h2]
   exact (xac _).symm
theorem qz6 {cur : Array Value} {o : Nat} {xs ys : List Value} (h : Has cur o xs) (hp : 0 < xs.length) (hy : ys.length = xs.length) : Has (spl cur o ys) o ys :=
 ⟨fun j v hv => by
  rw [qdl _ _ _ (by rw [hy]; exact h.le hp) j (xah hv).1]
  exact hv⟩
theorem qys {cur : Array Value} {o : Nat} {xs ys zs : List Value} (h : Has cur o xs) (hp : 0 < xs.length) (hy : ys.length = xs.length) (hz : zs.length = xs.length) : spl (spl cur o ys) o zs = spl cur o zs := by
 have hl := h.le hp
 have hs := qfi cur o ys (by omega)
 apply Array.ext_getElem?
 intro i
 by_cases hi : i < o \/ o + xs.length <= i
 ·rw [qbp _ _ _ (by omega) i (by omega), qbp _ _ _ (by omega) i (by omega), qbp _ _ _ (by omega) i (by omega)]
 ·have e1 := qdl (spl cur o ys) o zs (by omega) (i - o) (by omega)
  have e2 := qdl cur o zs (by omega) (i - o) (by omega)
  rw [show o + (i - o) = i by omega] at e1 e2
  rw [e1, e2]
theorem qtu {cur : Array Value} {o j k : Nat} {xs : List Value} {u v : Value} (h : Has cur o xs) (hj : j < xs.length) (hk : k < xs.length) : (cur.setIfInBounds (o + j) u).setIfInBounds (o + k) v = spl cur o ((xs.set j u).set k v) := by
 rw [qkw h hj, qkw (qz6 h (by omega) (by simp)) (by simpa using hk), qys h (by omega) (by simp) (by simp)]
theorem qgr {w : World} {g : Nat} {t : TypeId} {cs cs' : Array Value} (h : Blk w g t cs) (e : cs = cs') : Blk w g t cs' := e ▸ h
def Chg (g o : Nat) (cur : Array Value) (y : Cw) (w : World) (e : Ending) (w' : World) : Prop :=
 e = .returned (.tuple #[]) /\ Mod (fun k => k = g) w w' /\ Blk w' g 116 (spl cur o (cwA y).toList)
section
variable {g o : Nat} {cur : Array Value} {x : Cw} {w u : World}
theorem qfn (hx : Has cur o (cwA x).toList) (d : Below w.heap.size w u) (B : Blk u g 116 cur) : Chg g o cur x w (.returned (.tuple #[])) u :=
 ⟨rfl, xap d, qgr B (qyu hx (by simp [cwA])).symm⟩
theorem qev (hx : Has cur o (cwA x).toList) (d : Below w.heap.size w u) (B : Blk u g 116 cur) {j : Nat} (hj : j < 6) {y : Cw} {v : Value} (hy : (cwA x).toList.set j v = (cwA y).toList) {k : Nat} (hk : k = o + j) : Chg g o cur y w (.returned (.tuple #[])) (u.setCell ⟨g, k, none⟩ v) := by
 subst hk
 refine ⟨rfl, Mod.setCell (S := fun k => k = g) (xap d) (p := ⟨g, o + j, none⟩) (.inl rfl) _, qgr (B.set_ (o + j) v) ?_⟩
 rw [qkw hx (by simpa [cwA] using hj), hy]
end
theorem t5_no {x : Cw} (h : softW x = false) : t5 x = x := by unfold t5; rw [h]; rfl
theorem t5_yes {x : Cw} (h : softW x = true) : t5 x = { x with c := { x.c with r := 32 } } := by unfold t5; rw [h]; rfl
theorem t7_no {x : Cw} (h : colW x 9 = false) : t7 x = x := by unfold t7; rw [h]; rfl
theorem t7_yes {x : Cw} (h : colW x 9 = true) : t7 x = { x with c := { x.c with r := 32 } } := by unfold t7; rw [h]; rfl
theorem t6_no {x : Cw} (h : hardW x = false) : t6 x = x := by unfold t6; rw [h]; rfl
theorem t6_yes {x : Cw} (h : hardW x = true) : t6 x = { x with c := { x.c with r := 10, kind := 5 } } := by unfold t6; rw [h]; rfl
theorem t9_a {x : Cw} (h : isW x 9 = true) : t9 x = { x with c := { x.c with kind := 4 } } := by unfold t9; rw [h]; rfl
theorem t9_b {x : Cw} (h : isW x 9 = false) (h2 : colW x 32 = true) : t9 x = { x with c := { x.c with kind := 1 } } := by unfold t9; rw [h, h2]; rfl
theorem t9_c {x : Cw} (h : isW x 9 = false) (h2 : colW x 32 = false) (h3 : isW x 32 = true) (hw : x.w = 3) : t9 x = { x with c := { x.c with kind := 2 } } := by unfold t9; rw [h, h2, h3, hw]; rfl
theorem t9_d {x : Cw} (h : isW x 9 = false) (h2 : colW x 32 = false) (h3 : isW x 32 = true) (hw : ¬ x.w = 3) : t9 x = { x with c := { x.c with kind := 3 } } := by unfold t9; rw [h, h2, h3, decide_eq_false hw]; rfl
theorem t9_e {x : Cw} (h : isW x 9 = false) (h2 : colW x 32 = false) (h3 : isW x 32 = false) : t9 x = x := by unfold t9; rw [h, h2, h3]; rfl
theorem qyc (x : Cw) (g o : Nat) (cur : Array Value) (w : World) (hB : Blk w g 116 cur) (hx : Has cur o (cwA x).toList) :
 Calls Tryz.prog 74 #[.pointer (some ⟨g, o, none⟩)] w (Chg g o cur (t5 x) w) := by
 have L : qar w ⟨g, o, none⟩ (cwA x) := hB.part o (fun j v hv => hx.all j v (by simpa using hv))
 have HX := xaa hx
 have HB := xaa hB
 obtain ⟨c1, h1⟩ : ∃ q, softW x = q := ⟨_, rfl⟩
 obtain ⟨y, hv⟩ : ∃ y, t5 x = y := ⟨_, rfl⟩
 rw [hv]
 have HY := xaa hv
 have H1 := xaa h1
 clear h1 hv hx hB
 go_enter Tryz.func74, Tryz.ntmps74
 go_wp2_with (refine ldW rfl (.tmp 3) rfl _ rfl x L ?_)
 refine (qb2 x _).mono ?_
 rw [H1.out]
 rintro e u ⟨rfl, d⟩
 have B : Blk u g 116 cur := HB.out.kb d
 cases c1
 ·go_wp2_with fail
  go_end0
  obtain rfl := (t5_no H1.out).symm.trans HY.out
  exact qfn HX.out d B
 ·have c0 : u.cell? ⟨g, o, none⟩ = some (.int .i32 x.c.r) := (B.cell o).trans (HX.out.all 0 _ rfl)
  have f0 := B.frozen o
  go_wp2_with fail
  go_end0
  obtain rfl := (t5_yes H1.out).symm.trans HY.out
  exact qev HX.out d B (j := 0) (v := .int .i32 32) (by decide) rfl rfl
theorem qya (x : Cw) (g o : Nat) (cur : Array Value) (w : World) (hB : Blk w g 116 cur) (hx : Has cur o (cwA x).toList) :
 Calls Tryz.prog 76 #[.pointer (some ⟨g, o, none⟩)] w (Chg g o cur (t7 x) w) := by
 have L : qar w ⟨g, o, none⟩ (cwA x) := hB.part o (fun j v hv => hx.all j v (by simpa using hv))
 have HX := xaa hx
 have HB := xaa hB
 obtain ⟨c1, h1⟩ : ∃ q, colW x 9 = q := ⟨_, rfl⟩
 obtain ⟨y, hv⟩ : ∃ y, t7 x = y := ⟨_, rfl⟩
 rw [hv]
 have HY := xaa hv
 have H1 := xaa h1
 clear h1 hv hx hB
 go_enter Tryz.func76, Tryz.ntmps76
 go_wp2_with (refine ldW rfl (.tmp 3) rfl _ rfl x L ?_)
 refine (qc9 x 9 _).mono ?_
 rw [H1.out]
 rintro e u ⟨rfl, d⟩
 have B : Blk u g 116 cur := HB.out.kb d
 cases c1
 ·go_wp2_with fail
  go_end0
  obtain rfl := (t7_no H1.out).symm.trans HY.out
  exact qfn HX.out d B
 ·have c0 : u.cell? ⟨g, o, none⟩ = some (.int .i32 x.c.r) := (B.cell o).trans (HX.out.all 0 _ rfl)
  have f0 := B.frozen o
  go_wp2_with fail
  go_end0
  obtain rfl := (t7_yes H1.out).symm.trans HY.out
  exact qev HX.out d B (j := 0) (v := .int .i32 32) (by decide) rfl rfl
theorem qyb (x : Cw) (g o : Nat) (cur : Array Value) (w : World) (hB : Blk w g 116 cur) (hx : Has cur o (cwA x).toList) :
 Calls Tryz.prog 75 #[.pointer (some ⟨g, o, none⟩)] w (Chg g o cur (t6 x) w) := by
 have L : qar w ⟨g, o, none⟩ (cwA x) := hB.part o (fun j v hv => hx.all j v (by simpa using hv))
 have HX := xaa hx
 have HB := xaa hB
 obtain ⟨c1, h1⟩ : ∃ q, hardW x = q := ⟨_, rfl⟩
 obtain ⟨y, hv⟩ : ∃ y, t6 x = y := ⟨_, rfl⟩
 rw [hv]
 have HY := xaa hv
 have H1 := xaa h1
 clear h1 hv hx hB
 go_enter Tryz.func75, Tryz.ntmps75
 go_wp2_with (refine ldW rfl (.tmp 3) rfl _ rfl x L ?_)
 refine (qfu x _).mono ?_
 rw [H1.out]
 rintro e u ⟨rfl, d⟩
 have B : Blk u g 116 cur := HB.out.kb d
 cases c1
 ·go_wp2_with fail
  go_end0
  obtain rfl := (t6_no H1.out).symm.trans HY.out
  exact qfn HX.out d B
 ·have c0 : u.cell? ⟨g, o, none⟩ = some (.int .i32 x.c.r) := (B.cell o).trans (HX.out.all 0 _ rfl)
  have c4 : u.cell? ⟨g, o + 4, none⟩ = some (.int .u8 x.c.kind) := (B.cell (o + 4)).trans (HX.out.all 4 _ rfl)
  have f0 := B.frozen o
  have f4 := B.frozen (o + 4)
  go_wp2_with fail
  go_end0
  obtain rfl := (t6_yes H1.out).symm.trans HY.out
  refine ⟨rfl, Mod.setCell (S := fun k => k = g) (Mod.setCell (S := fun k => k = g) (xap d) (p := ⟨g, o, none⟩) (.inl rfl) _) (p := ⟨g, o + 4, none⟩) (.inl rfl) _, qgr ((B.set_ o _).set_ (o + 4) _) ?_⟩
  exact qtu (j := 0) (k := 4) HX.out (by simp [cwA]) (by simp [cwA])
theorem qx9 (x : Cw) (g o : Nat) (cur : Array Value) (w : World) (hB : Blk w g 116 cur) (hx : Has cur o (cwA x).toList) :
 Calls Tryz.prog 79 #[.pointer (some ⟨g, o, none⟩)] w (Chg g o cur (t9 x) w) := by
 have L : qar w ⟨g, o, none⟩ (cwA x) := hB.part o (fun j v hv => hx.all j v (by simpa using hv))
 have HX := xaa hx
 have HB := xaa hB
 obtain ⟨c1, h1⟩ : ∃ q, isW x 9 = q := ⟨_, rfl⟩
 obtain ⟨c2, h2⟩ : ∃ q, colW x 32 = q := ⟨_, rfl⟩
 obtain ⟨c3, h3⟩ : ∃ q, isW x 32 = q := ⟨_, rfl⟩
 obtain ⟨z, hz⟩ : ∃ q, x.w = q := ⟨_, rfl⟩
 obtain ⟨y, hv⟩ : ∃ y, t9 x = y := ⟨_, rfl⟩
 rw [hv]
 have HY := xaa hv
 have H1 := xaa h1
 have H2 := xaa h2
 have H3 := xaa h3
 have HZ := xaa hz
 clear h1 h2 h3 hz hv hx hB
 go_enter Tryz.func79, Tryz.ntmps79
 go_wp2_with (refine ldW rfl (.tmp 4) rfl _ rfl x L ?_)
 refine (qbu x 9 _).mono ?_
 rw [H1.out]
 rintro e u ⟨rfl, d⟩
 have B : Blk u g 116 cur := HB.out.kb d
 cases c1
 ·have L2 : qar u ⟨g, o, none⟩ (cwA x) := B.part o (fun j v hv => HX.out.all j v (by simpa using hv))
  go_wp2_with (refine ldW rfl (.tmp 13) rfl _ rfl x L2 ?_)
  refine (qc9 x 32 _).mono ?_
  rw [H2.out]
  rintro e u2 ⟨rfl, d2⟩
  have B2 : Blk u2 g 116 cur := B.kb d2
  have t2 := xaq d d2
  cases c2
  ·have L3 : qar u2 ⟨g, o, none⟩ (cwA x) := B2.part o (fun j v hv => HX.out.all j v (by simpa using hv))
   go_wp2_with (refine ldW rfl (.tmp 22) rfl _ rfl x L3 ?_)
   refine (qbu x 32 _).mono ?_
   rw [H3.out]
   rintro e u3 ⟨rfl, d3⟩
   have B3 : Blk u3 g 116 cur := B2.kb d3
   have t3 := xaq t2 d3
   have L4 : qar u3 ⟨g, o, none⟩ (cwA x) := B3.part o (fun j v hv => HX.out.all j v (by simpa using hv))
   have c5 : u3.cell? ⟨g, o + 5, none⟩ = some (.int .u8 z) := (B3.cell (o + 5)).trans ((HX.out.all 5 _ rfl).trans (by rw [<- HZ.out]))
   cases c3
   ·go_wp2_with (refine ldW rfl (.tmp 38) rfl _ rfl x L4 ?_)
    refine (qbu x 32 _).mono ?_
    rw [H3.out]
    rintro e u4 ⟨rfl, d4⟩
    have B4 : Blk u4 g 116 cur := B3.kb d4
    go_wp2_with fail
    go_end0
    obtain rfl := (t9_e H1.out H2.out H3.out).symm.trans HY.out
    exact qfn HX.out (xaq t3 d4) B4
   ·by_cases h3 : z = 3
    ·subst h3
     have c4 : u3.cell? ⟨g, o + 4, none⟩ = some (.int .u8 x.c.kind) := (B3.cell (o + 4)).trans (HX.out.all 4 _ rfl)
     have f4 := B3.frozen (o + 4)
     go_wp2_with fail
     go_end0
     obtain rfl := (t9_c H1.out H2.out H3.out HZ.out).symm.trans HY.out
     exact qev HX.out t3 B3 (j := 4) (v := .int .u8 2) (by decide) rfl rfl
    ·have e3 : (z == 3) = false := by simpa using h3
     have hd : decide (z = 3) = false := by simpa using h3
     clear hd
     go_wp2_with (refine ldW rfl (.tmp 38) rfl _ rfl x L4 ?_)
     refine (qbu x 32 _).mono ?_
     rw [H3.out]
     rintro e u4 ⟨rfl, d4⟩
     have B4 : Blk u4 g 116 cur := B3.kb d4
     have c4 : u4.cell? ⟨g, o + 4, none⟩ = some (.int .u8 x.c.kind) := (B4.cell (o + 4)).trans (HX.out.all 4 _ rfl)
     have f4 := B4.frozen (o + 4)
     go_wp2_with fail
     go_end0
     obtain rfl := (t9_d H1.out H2.out H3.out (by rw [HZ.out]; exact h3)).symm.trans HY.out
     exact qev HX.out (xaq t3 d4) B4 (j := 4) (v := .int .u8 3) (by decide) rfl rfl
  ·have c4 : u2.cell? ⟨g, o + 4, none⟩ = some (.int .u8 x.c.kind) := (B2.cell (o + 4)).trans (HX.out.all 4 _ rfl)
   have f4 := B2.frozen (o + 4)
   go_wp2_with fail
   go_end0
   obtain rfl := (t9_b H1.out H2.out).symm.trans HY.out
   exact qev HX.out t2 B2 (j := 4) (v := .int .u8 1) (by decide) rfl rfl
 ·have c4 : u.cell? ⟨g, o + 4, none⟩ = some (.int .u8 x.c.kind) := (B.cell (o + 4)).trans (HX.out.all 4 _ rfl)
  have f4 := B.frozen (o + 4)
  go_wp2_with fail
  go_end0
  obtain rfl := (t9_a H1.out).symm.trans HY.out
  exact qev HX.out d B (j := 4) (v := .int .u8 4) (by decide) rfl rfl
end Wl
namespace Wl
open Go.Shelf
open Wh
attribute [local go_sem] Oper.semAt_some
section
variable {F : Fence} {n : Nat} {ops : Array Oper} {Q : Exit -> Act -> World -> Prop} {a : Act} {w : World} {rest : List Oper} {o o1 o2 : Oper}
theorem qzw (hF : ∀ f, F.fn f) (hg : o.guard = none) (x : Operand) (ho : o.op = .load 116 x) (p : Addr) (hx : a.eval x = .pointer (some p)) (s : Cw) (hL : qar w p (cwA s))
 (h : wpListIn F n Tryz.prog ops Q rest (a.put o.dst (.agg (cwA s))) w) : wpListIn F n Tryz.prog ops Q (o :: rest) a w :=
 wpListIn_val hF (fun c hc => by rw [ho] at hc; cases hc) hg _ rfl _ _ (rdW x ho p hx s hL) h
theorem alWIn (hF : ∀ f, F.fn f) (hg : o.guard = none) (ho : o.op = .alloc 116)
 (h : ∀ w', Below w.heap.size w w' -> Blk w' w.heap.size 116 (cwA zCw) -> wpListIn F n Tryz.prog ops Q rest (a.put o.dst (.pointer (some ⟨w.heap.size, 0, none⟩))) w') : wpListIn F n Tryz.prog ops Q (o :: rest) a w :=
 wpListIn_val hF (fun c hc => by rw [ho] at hc; cases hc) hg _ rfl _ _ (run_op_new 116 ho _ alW) (h _ (xar w _) (Blk.new w _ _))
theorem stWIn (hF : ∀ f, F.fn f) (hg : o.guard = none) (x y : Operand) (ho : o.op = .store 116 x y) (hd : o.dst = none) (g : Nat) (hx : a.eval x = .pointer (some ⟨g, 0, none⟩)) (s : Cw) (hy : a.eval y = .agg (cwA s)) {t : TypeId} (old : Cw) (hB : Blk w g t (cwA old))
 (h : ∀ w', Mod (fun k => k = g) w w' -> Blk w' g t (cwA s) -> wpListIn F n Tryz.prog ops Q rest a w') : wpListIn F n Tryz.prog ops Q (o :: rest) a w := by
 refine wpListIn_skp hF (fun c hc => by rw [ho] at hc; cases hc) hg hd (w.setRow g (spl (cwA old) 0 (cwA s).toList)) ?_ ?_
 ·exact run_op_store 116 x y ho g 0 hx (cwA s) hy t (cwA old) hB (iW s) (by simp [cwA]) (oneW s)
 ·refine h _ (qai _ _ _) ?_
  have e : spl (cwA old) 0 (cwA s).toList = cwA s := by simp [spl, cwA]
  rw [e]
  exact setRow_heap _ _ _ _ _ _ hB
end
abbrev NIW (l : List Cw) := { p : Nat × Cw // l[p.1]? = some p.2 }
def qxt {l : List Cw} (x : NIW l) : Array Value := #[.int .i64 (x.1.1 : Int), .agg (cwA x.1.2)]
def qnv (n : Nat) : List Nat := (List.range n).reverse
theorem qqk (n : Nat) : qnv (n + 1) = n :: qnv n := by
 unfold qnv
 rw [List.range_succ, List.reverse_append]
 rfl
theorem qef {l : List Cw} {i : Nat} (h : i < l.length) : ∃ x, l[i]? = some x := ⟨_, xac h⟩
theorem grown_of {W W' : World} (b : Below W.heap.size W W') : W.grownBy W' none := ⟨b.os, b.tape, b.output, b.size, fun k hk _ => b.block k hk⟩
theorem qlw (A : Option Addr) (k c : Nat) (w : World) :
 Calls Tryz.prog 119 #[.slice A k c] w fun e w' => e = .returned (.func (.func 142) #[] #[.pointer (some ⟨w.heap.size, 0, none⟩)]) /\ Boxed w' w.heap.size 104 (.slice A k c) /\ Below w.heap.size w w' := by
 go_enter Tryz.func119, Tryz.ntmps119
 go_wp2
 go_ret
 exact ⟨rfl, Boxed.new _ _ _, xar _ _⟩
theorem qpw (A : Option Addr) (k c : Nat) (w : World) :
 Calls Tryz.prog 118 #[.slice A k c] w fun e w' => e = .returned (.func (.func 141) #[] #[.pointer (some ⟨w.heap.size, 0, none⟩)]) /\ Boxed w' w.heap.size 104 (.slice A k c) /\ Below w.heap.size w w' := by
 go_enter Tryz.func118, Tryz.ntmps118
 go_wp2
 go_ret
 exact ⟨rfl, Boxed.new _ _ _, xar _ _⟩
theorem qfv (n Bs : Nat) (l : List Cw) (v : Value) (w0 w : World) (hR : RwW w0 v l) (hlen : l.length <= 1048576) (hw : Below w0.heap.size w0 w) (hB : Bs < w0.heap.size) (hBs : w0.cell? ⟨Bs, 0, none⟩ = some v) :
 SeqStopsK Fence.wide n Tryz.prog 142 #[.pointer (some ⟨Bs, 0, none⟩)] (qxt (l := l)) (Below w0.heap.size) (fun xs => xs.map (fun x => x.1.1) = qnv l.length) (fun _ => True) l.length w := by
 intro L J Jx W hW hJ _ hY h0
 have hb0 : Below w0.heap.size w0 W := hw.trans (hW.mono hw.size)
 have HBW : Hid (∀ W', Below w0.heap.size w0 W' -> W'.cell? ⟨Bs, 0, none⟩ = some v) := xaa fun W' h => (h.cell (p := ⟨Bs, 0, none⟩) hB).trans hBs
 have HY := xaa hY
 have HR := xaa hR
 obtain ⟨A, cap, rfl⟩ := hR.form
 obtain ⟨m, hm⟩ : ∃ m, l.length = m := ⟨_, rfl⟩
 have HM := xaa hm
 rw [hm] at hlen HBW HR |-
 clear hY hR hm hW hB hBs hw hJ
 have hBW := HBW.out W hb0
 refine callsIn_of_wp Tryz.func142 rfl trivial ?_ rfl
 simp only [Tryz.ntmps142, List.size_toArray, List.length_cons, List.length_nil, Nat.reduceAdd, Nat.reduceSub, Array.replicate_succ, Array.replicate_zero, List.push_toArray, List.append_toArray, List.nil_append, List.cons_append]
 gi_wp2
 gi_loopw [3] (fun s3 wr => ∃ (k : Nat) (pre : List (NIW l)), s3 = .int .i64 ((k : Int) - 1) /\ k <= m /\ Hid (qnv m = pre.map (fun x => x.1.1) ++ qnv k) /\ J pre wr /\ Below w0.heap.size w0 wr)
  (fun s3 _ => (intOf s3 + 1).toNat)
 case atStart => exact ⟨m, [], by go_num, xat, xaa rfl, h0, hb0⟩
 case round =>
  obtain ⟨k, pre, rfl, hk, HI, hJs, hbr⟩ := hrel
  clear h0 hb0 hBW
  by_cases h1 : 0 < k
  ·obtain ⟨j, rfl⟩ : ∃ j, k = j + 1 := ⟨k - 1, by omega⟩
   have hjm : j < m := by omega
   have hjl : j < l.length := by rw [HM.out]; exact hjm
   obtain ⟨x, hx⟩ := qef hjl
   have hi := HI.out
   rw [qqk] at hi
   have hpl : pre.length < l.length := by
    have := congrArg List.length hi
    simp [qnv] at this
    rw [HM.out]
    omega
   obtain ⟨fn, tmps, assign, body, hy, hRd⟩ := HY.out pre ⟨(j, x), hx⟩ wr hJs hpl
   have HI' : Hid (qnv m = (pre ++ [(⟨(j, x), hx⟩ : NIW l)]).map (fun (x : NIW l) => x.1.1) ++ qnv j) := xaa (by rw [hi]; simp)
   dsimp only [qxt] at hy
   obtain ⟨ad, cap2, o, hv, _, ha, hLi⟩ := HR.out.get hbr hx
   rw [HM.out] at hv
   injection hv with hv1 hv2 hv3
   subst hv1 hv3
   have hz : ((j + 1 : Nat) : Int) - 1 = (j : Int) := by omega
   have hjz : (j : Int) < m := by omega
   rw [hz]
   have hBr := HBW.out wr hbr
   have HBR := xaa hbr
   clear HI hi HY hv2 hz hbr
   gi_wp2_with (refine qzw (fun _ => trivial) rfl (.tmp 15) rfl _ rfl x (ha ▸ hLi) ?_)
   refine ⟨fun h => (by cases h), hRd.mono ?_⟩
   rintro e w4 (⟨rfl, hJ4, hk4⟩ | ⟨rfl, hx4⟩)
   ·have hb4 := HBR.out.trans hk4
    gi_wp2
    go_roundw
    case rel => exact ⟨j, _, by go_num, by omega, HI', hJ4, hb4⟩
    case measure => simp [intOf]
   ·gi_wp2
    refine bodyPost_ret (results_none rfl _ _ _) rfl ?_
    exact ⟨⟨_, rfl⟩, .inr ⟨_, trivial, hx4⟩⟩
  ·obtain rfl : k = 0 := by omega
   have FIN : Hid (qnv m = pre.map (fun x => x.1.1)) := xaa (by rw [HI.out]; simp [qnv])
   clear HY HI
   gi_wp2
   go_end0
   exact ⟨⟨_, rfl⟩, .inl ⟨_, FIN.out.symm, hJs⟩⟩
theorem qg9 (n Bs : Nat) (l : List Cw) (v : Value) (w0 w : World) (hR : RwW w0 v l) (hlen : l.length <= 1048576) (hw : Below w0.heap.size w0 w) (hB : Bs < w0.heap.size) (hBs : w0.cell? ⟨Bs, 0, none⟩ = some v) :
 SeqStopsK Fence.wide n Tryz.prog 141 #[.pointer (some ⟨Bs, 0, none⟩)] (qxt (l := l)) (Below w0.heap.size) (fun xs => xs.map (fun x => x.1.1) = List.range l.length) (fun _ => True) l.length w := by
 intro L J Jx W hW hJ _ hY h0
 have hb0 : Below w0.heap.size w0 W := hw.trans (hW.mono hw.size)
 have hBW : W.cell? ⟨Bs, 0, none⟩ = some v := (hb0.cell (p := ⟨Bs, 0, none⟩) hB).trans hBs
 have HY := xaa hY
 have HR := xaa hR
 have HJ : Hid (∀ pre (X Y : World), J pre X -> Below X.heap.size X Y -> J pre Y) := xaa fun pre X Y h b => hJ pre X Y none h (grown_of b) (fun r e => by cases e)
 obtain ⟨A, cap, rfl⟩ := hR.form
 obtain ⟨m, hm⟩ : ∃ m, l.length = m := ⟨_, rfl⟩
 have HM := xaa hm
 rw [hm] at hlen hBW HR |-
 clear hY hR hm hW hB hBs hw hJ
 refine callsIn_of_wp Tryz.func141 rfl trivial ?_ rfl
 simp only [Tryz.ntmps141, List.size_toArray, List.length_cons, List.length_nil, Nat.reduceAdd, Nat.reduceSub, Array.replicate_succ, Array.replicate_zero, List.push_toArray, List.append_toArray, List.nil_append, List.cons_append]
 gi_wp2
 gi_loopw [7] (fun s7 wr => ∃ (k : Nat) (pre : List (NIW l)), s7 = .int .i64 (k : Int) /\ k <= m /\ Hid (pre.map (fun x => x.1.1) = List.range k) /\ J pre wr /\ Below w0.heap.size w0 wr)
  (fun s7 _ => m - (intOf s7).toNat)
 case atStart => exact ⟨0, [], by go_num, Nat.zero_le _, xaa rfl, h0, hb0⟩
 case round =>
  obtain ⟨k, pre, rfl, hk, HI, hJs, hbr⟩ := hrel
  clear h0 hb0 hBW
  by_cases h1 : k < m
  ·have hjl : k < l.length := by rw [HM.out]; exact h1
   obtain ⟨x, hx⟩ := qef hjl
   have hi := HI.out
   have hpl : pre.length < l.length := by
    have := congrArg List.length hi
    simp at this
    omega
   have HI' : Hid ((pre ++ [(⟨(k, x), hx⟩ : NIW l)]).map (fun (x : NIW l) => x.1.1) = List.range (k + 1)) := xaa (by rw [List.map_append, hi, List.range_succ]; rfl)
   obtain ⟨ad, cap2, o, hv, _, ha, hLi⟩ := HR.out.get hbr hx
   rw [HM.out] at hv
   injection hv with hv1 hv2 hv3
   subst hv1 hv3
   have hjz : (k : Int) < m := by omega
   have HBR := xaa hbr
   have HJS := xaa hJs
   clear HI hi hv2 hbr hJs
   gi_wp2_with (first
    | (refine qzw (fun _ => trivial) rfl (.tmp 10) rfl _ rfl x (ha ▸ hLi) ?_)
    | (refine alWIn (fun _ => trivial) rfl rfl ?_; intro w4 b4 B4)
    | (refine stWIn (fun _ => trivial) rfl (.tmp 4) (.tmp 11) rfl rfl _ rfl x rfl _ B4 ?_; intro w5 m5 B5; refine Mk.out ?_))
   constructor
   have b5 : Below wr.heap.size wr w5 := b4.trans (m5.below b4.size (fun k hk => by omega))
   have hJ5 := HJ.out pre wr w5 HJS.out b5
   have L5 := B5.lies
   obtain ⟨fn, tmps, assign, body, hy, hRd⟩ := HY.out pre ⟨(k, x), hx⟩ w5 hJ5 hpl
   dsimp only [qxt] at hy
   have hb5 := HBR.out.trans (b5.mono HBR.out.size)
   have HB5 := xaa hb5
   clear b4 B4 m5 B5 b5 hb5 HY
   gi_wp2_with (refine qzw (fun _ => trivial) rfl (.tmp 4) rfl _ rfl x L5 ?_)
   refine ⟨fun h => (by cases h), hRd.mono ?_⟩
   rintro e w6 (⟨rfl, hJ4, hk4⟩ | ⟨rfl, hx4⟩)
   ·have hb4 := HB5.out.trans hk4
    gi_wp2
    go_roundw
    case rel => exact ⟨k + 1, _, by go_num, by omega, HI', hJ4, hb4⟩
    case measure => simp [intOf]; omega
   ·gi_wp2
    refine bodyPost_ret (results_none rfl _ _ _) rfl ?_
    exact ⟨⟨_, rfl⟩, .inr ⟨_, trivial, hx4⟩⟩
  ·obtain rfl : k = m := by omega
   clear HY
   gi_wp2
   go_end0
   exact ⟨⟨_, rfl⟩, .inl ⟨_, HI.out, hJs⟩⟩
end Wl
namespace Wh
def stA (past : Cw -> Bool) (l : List Cw) (i : Nat) : Cw := (l.take i).foldl (fun b c => if past c then b else c) nb
theorem qtp (past : Cw -> Bool) (l : List Cw) : stA past l 0 = nb := rfl
theorem take_snoc' {α : Type} {l : List α} {i : Nat} {c : α} (h : l[i]? = some c) : l.take (i + 1) = l.take i ++ [c] := by
 rw [List.take_add_one, h]
 rfl
theorem ql0 {past : Cw -> Bool} {l : List Cw} {i : Nat} {c : Cw} (h : l[i]? = some c) : stA past l (i + 1) = if past c then stA past l i else c := by
 unfold stA
 rw [take_snoc' h, List.foldl_append]
 rfl
theorem nxt_at {past : Cw -> Bool} {l : List Cw} {i : Nat} {c : Cw} (h : l[i]? = some c) : nxt past (l.drop i) = if past c then nxt past (l.drop (i + 1)) else c := by
 rw [drop_at h]
 rfl
theorem qu1 {past : Cw -> Bool} {l : List Cw} {i : Nat} (h : l.length <= i) : nxt past (l.drop i) = nb := by
 rw [qmv h]
 rfl
def Pts (l : List Cw) (z : Int) (s : Cw) : Prop := (z = -1 /\ s = nb) \/ ∃ j : Nat, z = j /\ l[j]? = some s
def qph (f : Nat -> Int) (i : Nat) (v : Int) (j : Nat) : Int := if j = i then v else f j
def walkZ (past : Cw -> Bool) (l : List Cw) (us : List Nat) : (Nat -> Int) × Int := us.foldl (fun s i => (qph s.1 i s.2, if past (l.getD i nb) then s.2 else (i : Int))) ((fun _ => 0), -1)
theorem qda (past : Cw -> Bool) (l : List Cw) (us : List Nat) (i : Nat) : walkZ past l (us ++ [i]) = (qph (walkZ past l us).1 i (walkZ past l us).2, if past (l.getD i nb) then (walkZ past l us).2 else (i : Int)) := by
 unfold walkZ
 rw [List.foldl_append]
 rfl
theorem qfy (past : Cw -> Bool) (l : List Cw) : ∀ k, k <= l.length -> Pts l (walkZ past l (List.range k)).2 (stA past l k) /\ ∀ i, i < k -> Pts l ((walkZ past l (List.range k)).1 i) (stA past l i)
 | 0, _ => ⟨.inl ⟨rfl, rfl⟩, fun i hi => by omega⟩
 | k + 1, h => by
   obtain ⟨h1, h2⟩ := qfy past l k (by omega)
   have hk : l[k]? = some (l[k]'(by omega)) := xac _
   obtain ⟨c, hc⟩ : ∃ c, l[k]? = some c := ⟨_, hk⟩
   have hd : l.getD k nb = c := by rw [xal, hc]; rfl
   rw [List.range_succ, qda, ql0 hc, hd]
   refine ⟨?_, fun i hi => ?_⟩
   ·cases past c with
    | true => exact h1
    | false => exact .inr ⟨k, rfl, hc⟩
   ·show Pts l (qph _ k _ i) _
    unfold qph
    by_cases e : i = k
    ·subst e
     rw [if_pos rfl]
     exact h1
    ·rw [if_neg e]
     exact h2 i (by omega)
theorem qha (past : Cw -> Bool) (l : List Cw) : ∀ (N k : Nat), k + N = l.length -> Pts l (walkZ past l (((List.range l.length).drop k).reverse)).2 (nxt past (l.drop k)) /\ ∀ i, k <= i -> i < l.length -> Pts l ((walkZ past l (((List.range l.length).drop k).reverse)).1 i) (nxt past (l.drop (i + 1)))
 | 0, k, h => by
   rw [List.drop_eq_nil_of_le (by simp; omega), qu1 (by omega)]
   exact ⟨.inl ⟨rfl, rfl⟩, fun i h1 h2 => by omega⟩
 | N + 1, k, h => by
   obtain ⟨h1, h2⟩ := qha past l N (k + 1) (by omega)
   have hk : l[k]? = some (l[k]'(by omega)) := xac _
   obtain ⟨c, hc⟩ : ∃ c, l[k]? = some c := ⟨_, hk⟩
   have hd : l.getD k nb = c := by rw [xal, hc]; rfl
   have hr : ((List.range l.length).drop k).reverse = ((List.range l.length).drop (k + 1)).reverse ++ [k] := by
    have hlt : k < (List.range l.length).length := by simp; omega
    rw [List.drop_eq_getElem_cons hlt, List.reverse_cons]
    simp
   rw [hr, qda, hd, nxt_at hc]
   refine ⟨?_, fun i hi hl => ?_⟩
   ·cases past c with
    | true => exact h1
    | false => exact .inr ⟨k, rfl, hc⟩
   ·show Pts l (qph _ k _ i) _
    unfold qph
    by_cases e : i = k
    ·subst e
     rw [if_pos rfl]
     exact h1
    ·rw [if_neg e]
     exact h2 i (by omega) hl
theorem qi9 (past : Cw -> Bool) (l : List Cw) : ∀ i, i < l.length -> Pts l ((walkZ past l (List.range l.length)).1 i) (stA past l i) := (qfy past l l.length (xat)).2
theorem qi8 (past : Cw -> Bool) (l : List Cw) : ∀ i, i < l.length -> Pts l ((walkZ past l (List.range l.length).reverse).1 i) (nxt past (l.drop (i + 1))) := fun i hi => by
 have := (qha past l l.length 0 (by omega)).2 i (by omega) hi
 simpa using this
def pf (gn : Nat -> Bool) (l : List Cw) : Nat -> List Cw
 | 0 => []
 | k + 1 => pf gn l k ++ if gn k then [] else [l.getD k nb]
theorem qqz {gn : Nat -> Bool} {l : List Cw} {k : Nat} {c : Cw} (h : l[k]? = some c) : pf gn l (k + 1) = pf gn l k ++ if gn k then [] else [c] := by
 rw [pf, xal, h]
 rfl
theorem qmb (gn : Nat -> Bool) (l : List Cw) : ∀ k, (pf gn l k).length <= k
 | 0 => xat
 | k + 1 => by
   have := qmb gn l k
   rw [pf, List.length_append]
   split <;> simp <;> omega
def gnI (past : Cw -> Bool) (gone : Cw -> Cw -> Cw -> Bool) (l : List Cw) (i : Nat) : Bool := gone (stA past l i) (l.getD i nb) (nxt past (l.drop (i + 1)))
theorem qmo {past : Cw -> Bool} {gone : Cw -> Cw -> Cw -> Bool} {l : List Cw} {i : Nat} {c : Cw} (h : l[i]? = some c) : gnI past gone l i = gone (stA past l i) c (nxt past (l.drop (i + 1))) := by
 unfold gnI
 rw [xal, h]
 rfl
theorem qq0 (past : Cw -> Bool) (gone : Cw -> Cw -> Cw -> Bool) (l : List Cw) : ∀ k, k <= l.length -> pf (gnI past gone l) l k ++ filt past gone (stA past l k) (l.drop k) = filt past gone nb l
 | 0, _ => by rw [pf, qtp]; rfl
 | k + 1, h => by
   rw [<- qq0 past gone l k (by omega)]
   obtain ⟨c, hc⟩ : ∃ c, l[k]? = some c := ⟨_, xac (by omega)⟩
   rw [qqz hc, qmo hc, drop_at hc, filt, ql0 hc]
   split
   ·rw [List.append_nil]
   ·rw [List.append_assoc]
    rfl
theorem qjl (past : Cw -> Bool) (gone : Cw -> Cw -> Cw -> Bool) (l : List Cw) : pf (gnI past gone l) l l.length = filt past gone nb l := by
 have := qq0 past gone l l.length (xat)
 rw [qmv (xat)] at this
 simpa [filt] using this
def mt (t : Cw -> Cw) (l : List Cw) (k : Nat) : List Cw := (l.take k).map t ++ l.drop k
theorem qxg (t : Cw -> Cw) (l : List Cw) : mt t l l.length = l.map t := by simp [mt]
theorem qxf (t : Cw -> Cw) (l : List Cw) (k : Nat) : (mt t l k).length = l.length := by
 simp [mt]
 omega
theorem mt_at {t : Cw -> Cw} {l : List Cw} {k : Nat} {c : Cw} (h : l[k]? = some c) : (mt t l k)[k]? = some c := by
 have hk := (xah h).1
 unfold mt
 rw [List.getElem?_append_right (by simp; omega)]
 simp only [xao, List.length_take, Nat.min_eq_left (Nat.le_of_lt hk), Nat.sub_self, List.getElem?_drop, Nat.add_zero]
 exact h
theorem qrb {t : Cw -> Cw} {l : List Cw} {k : Nat} {c : Cw} (h : l[k]? = some c) : mt t l (k + 1) = (mt t l k).set k (t c) := by
 have hk := (xah h).1
 unfold mt
 have e : ((l.take k).map t).length = k := by simp; omega
 rw [take_snoc' h, List.map_append, drop_at h, List.set_append_right _ _ (by omega), e, Nat.sub_self]
 simp
end Wh
namespace Wl
open Go.Shelf
open Wh
structure NearAt (w : World) (gf gl : Nat) (l : List Cw) (f : Nat -> Cw) : Prop where
 lt1 : gf < w.heap.size
 lt2 : gl < w.heap.size
 ex : ∃ (v : Value) (gF cap : Nat) (F : Nat -> Int), w.cell? ⟨gf, 0, none⟩ = some (.slice (some ⟨gF, 0, none⟩) l.length cap) /\ gF < w.heap.size /\ w.cell? ⟨gl, 0, none⟩ = some v /\ RwW w v l /\ ∀ i, i < l.length -> w.cell? ⟨gF, i, none⟩ = some (.int .i64 (F i)) /\ Pts l (F i) (f i)
theorem NearAt.below {w w' : World} {gf gl : Nat} {l : List Cw} {f : Nat -> Cw} (h : NearAt w gf gl l f) (b : Below w.heap.size w w') : NearAt w' gf gl l f := by
 obtain ⟨h1, h2, v, gF, cap, F, h3, h4, h5, h6, h7⟩ := h
 refine ⟨Nat.lt_of_lt_of_le h1 b.size, Nat.lt_of_lt_of_le h2 b.size, v, gF, cap, F, (b.cell (p := ⟨gf, 0, none⟩) h1).trans h3, Nat.lt_of_lt_of_le h4 b.size, (b.cell (p := ⟨gl, 0, none⟩) h2).trans h5, h6.below b, fun i hi => ?_⟩
 exact ⟨(b.cell (p := ⟨gF, i, none⟩) h4).trans (h7 i hi).1, (h7 i hi).2⟩
theorem qg6 (l : List Cw) (f : Nat -> Cw) (gf gl i : Nat) (w : World) (h : NearAt w gf gl l f) (hi : i < l.length) :
 Calls Tryz.prog 140 #[.int .i64 (i : Int), .pointer (some ⟨gf, 0, none⟩), .pointer (some ⟨gl, 0, none⟩)] w fun e w' => e = .returned (.agg (cwA (f i))) /\ Below w.heap.size w w' := by
 obtain ⟨lt1, lt2, v, gF, cap, F, c1, lt3, c2, hR, hF⟩ := h
 obtain ⟨hc, hP⟩ := hF i hi
 obtain ⟨z, hz⟩ : ∃ z, F i = z := ⟨_, rfl⟩
 rw [hz] at hc hP
 have HR := xaa hR
 obtain ⟨n, hn⟩ : ∃ n, l.length = n := ⟨_, rfl⟩
 have HN := xaa hn
 rw [hn] at hi c1
 clear hF hR hn hz
 have hiz : (i : Int) < n := by omega
 rcases hP with ⟨rfl, hs⟩ | ⟨j, rfl, hj⟩
 ·rw [hs]
  clear hs
  go_enter Tryz.func140, Tryz.ntmps140
  go_wp2_with (first
   | (refine alWV rfl rfl ?_; intro w1 b1 B1; have q1 : w1.cell? ⟨gf, 0, none⟩ = some (.slice (some ⟨gF, 0, none⟩) n cap) := (b1.cell (p := ⟨gf, 0, none⟩) lt1).trans c1; have q2 : w1.cell? ⟨gF, i, none⟩ = some (.int .i64 (-1)) := (b1.cell (p := ⟨gF, i, none⟩) lt3).trans hc)
   | (refine qam (o := ⟨some 11, _, _, _, _, _⟩) (qaa rfl _) _ rfl (.agg (cwA nb)) _ (by kernel_rfl) ?_)
   | (refine stW rfl (.tmp 4) (.tmp 11) rfl rfl _ rfl nb rfl zCw B1 ?_; intro w2 m2 B2; refine Mk.out ?_))
  constructor
  go_wp2_with fail
  refine ⟨rfl, _, qbf rfl _ _ w.heap.size 116 _ _ rfl B2 uW rfl (iW _), rfl, b1.trans (m2.below b1.size fun k hk => by omega)⟩
 ·obtain ⟨s, hs⟩ : ∃ s, f i = s := ⟨_, rfl⟩
  rw [hs] at hj |-
  obtain ⟨ad, cap2, o, hv, hab, ha, hLi⟩ := HR.out.get (xas) hj
  rw [HN.out] at hv
  subst hv
  have hjl : j < n := by have := (xah hj).1; rw [HN.out] at this; exact this
  have hjz : (j : Int) < n := by omega
  have hm1 : ((j : Int) == -1) = false := by simp
  clear hj hs
  go_enter Tryz.func140, Tryz.ntmps140
  go_wp2_with (refine alWV rfl rfl ?_; intro w1 b1 B1; have q1 : w1.cell? ⟨gf, 0, none⟩ = some (.slice (some ⟨gF, 0, none⟩) n cap) := (b1.cell (p := ⟨gf, 0, none⟩) lt1).trans c1; have q2 : w1.cell? ⟨gF, i, none⟩ = some (.int .i64 (j : Int)) := (b1.cell (p := ⟨gF, i, none⟩) lt3).trans hc)
  have CC : Hid (∀ W, Below w1.heap.size w1 W -> W.cell? ⟨gf, 0, none⟩ = some (.slice (some ⟨gF, 0, none⟩) n cap) /\ W.cell? ⟨gF, i, none⟩ = some (.int .i64 (j : Int)) /\ W.cell? ⟨gl, 0, none⟩ = some (.slice (some ad) n cap2) /\ qar W (ad.add (j * 6)) (cwA s)) := xaa fun W h => by
   have hh := xaq b1 h
   exact ⟨(hh.cell (p := ⟨gf, 0, none⟩) lt1).trans c1, (hh.cell (p := ⟨gF, i, none⟩) lt3).trans hc, (hh.cell (p := ⟨gl, 0, none⟩) lt2).trans c2, (ha ▸ hLi).below hh⟩
  clear q1 q2 c1 c2 hc hLi ha
  refine qdn (by kernel_rfl) (fun W => Below w1.heap.size w1 W) (below_drewN (xas) 1) 7 (by rfl) (by kernel_rfl) (by kernel_rfl) (fun R hR => ?_)
  refine AllS.f_ (i := 0) CC.out ?_
  refine AllS.f_ (i := 1) CC.out ?_
  refine AllS.f_ (i := 2) CC.out ?_
  refine AllS.f_ (i := 3) CC.out ?_
  refine AllS.f_ (i := 4) CC.out ?_
  refine AllS.f_ (i := 5) CC.out ?_
  refine AllS.r_ (i := 6) (.agg (cwA s)) (fun W hSw => ?_) ?_
  ·(try dsimp only at hSw)
   obtain ⟨q1, q2, q3, q4⟩ := CC.out W hSw
   exact rdW (.tmp 17) rfl _ rfl s q4
  refine AllS.done (by kernel_rfl) (hR.out _ ?_) _
  clear hR R
  intro w2 b2
  have B2 := B1.kb b2
  refine qbh (by rw [xab]; rfl) rfl ?_
  refine qpo 116 (.tmp 4) (.tmp 18) rfl rfl _ rfl (cwA s) rfl _ _ B2 (iW _) rfl (oneW _) ?_
  intro w3 m3 B3
  go_wp2_with fail
  have b12 := xaq b1 b2
  refine ⟨rfl, _, qbf rfl _ _ w.heap.size 116 _ _ rfl B3 uW rfl (iW _), rfl, b12.trans (m3.below b12.size fun k hk => by omega)⟩
end Wl
end Go.Proofs.YtmceblkjbpbcoaaGreatDoor
