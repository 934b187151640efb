/- Contracts of white's functions that change a character in place (what becomes of what stays). Condition: the character lies at the pointer, in a block that is not frozen. -/
import Derived.Test.YtejcfhfmdijimaaDoorWhP
import Derived.Test.YtejcfhfmdijimaaDoorYRows
namespace Go.Proofs.YtejcfhfmdijimaaDoor
open Go.ChangeShapes Go.WideShapes Go.ChangeAt Go.RowKit
open Wh

/-- cur has xs at o -/
structure Has (cur : Array Value) (o : Nat) (xs : List Value) : Prop where
  all : ∀ (j : Nat) (v : Value), xs[j]? = some v → cur[o + j]? = some v
theorem Has.le {cur : Array Value} {o : Nat} {xs : List Value} (h : Has cur o xs) (hp : 0 < xs.length) : o + xs.length ≤ cur.size := by
  have h1 := h.all (xs.length - 1) _ (List.getElem?_eq_getElem (by omega))
  have := (Array.getElem?_eq_some_iff.1 h1).1
  omega
theorem spl_has {cur : Array Value} {o : Nat} {xs : List Value} (h : Has cur o xs) (hp : 0 < xs.length) : spl cur o xs = cur := by
  have hl := h.le hp
  apply Array.ext_getElem?
  intro i
  by_cases hi : i < o ∨ o + xs.length ≤ i
  · rw [spl_out _ _ _ hl i hi]
  · have e := spl_in cur o xs hl (i - o) (by omega)
    rw [show o + (i - o) = i by omega] at e
    have h2 := h.all (i - o) _ (List.getElem?_eq_getElem (by omega))
    rw [show o + (i - o) = i by omega] at h2
    rw [e, h2]
    exact List.getElem?_eq_getElem _
theorem set_has {cur : Array Value} {o j : Nat} {xs : List Value} {v : Value} (h : Has cur o xs) (hj : j < xs.length) : cur.setIfInBounds (o + j) v = spl cur o (xs.set j v) := by
  have hl := h.le (by omega)
  have hl2 : o + (xs.set j v).length ≤ cur.size := by rw [List.length_set]; exact hl
  apply Array.ext_getElem?
  intro i
  by_cases hi : i < o ∨ o + xs.length ≤ i
  · rw [spl_out _ _ _ hl2 i (by rw [List.length_set]; exact hi), Array.getElem?_setIfInBounds_ne (by omega)]
  · have e := spl_in cur o (xs.set j v) hl2 (i - o) (by rw [List.length_set]; omega)
    rw [show o + (i - o) = i by omega] at e
    rw [e]
    by_cases hij : i = o + j
    · subst hij
      rw [Array.getElem?_setIfInBounds_self_of_lt (by omega), show o + j - o = j by omega, List.getElem?_set_self hj]
    · rw [Array.getElem?_setIfInBounds_ne (by omega), List.getElem?_set_ne (by omega)]
      have h2 := h.all (i - o) _ (List.getElem?_eq_getElem (by omega))
      rw [show o + (i - o) = i by omega] at h2
      rw [h2]
      exact (List.getElem?_eq_getElem _).symm
theorem has_spl {cur : Array Value} {o : Nat} {xs ys : List Value} (h : Has cur o xs) (hp : 0 < xs.length) (hy : ys.length = xs.length) : Has (spl cur o ys) o ys :=
  ⟨fun j v hv => by
    rw [spl_in _ _ _ (by rw [hy]; exact h.le hp) j (List.getElem?_eq_some_iff.1 hv).1]
    exact hv⟩
theorem spl_spl {cur : Array Value} {o : Nat} {xs ys zs : List Value} (h : Has cur o xs) (hp : 0 < xs.length) (hy : ys.length = xs.length) (hz : zs.length = xs.length) : spl (spl cur o ys) o zs = spl cur o zs := by
  have hl := h.le hp
  have hs := spl_size cur o ys (by omega)
  apply Array.ext_getElem?
  intro i
  by_cases hi : i < o ∨ o + xs.length ≤ i
  · rw [spl_out _ _ _ (by omega) i (by omega), spl_out _ _ _ (by omega) i (by omega), spl_out _ _ _ (by omega) i (by omega)]
  · have e1 := spl_in (spl cur o ys) o zs (by omega) (i - o) (by omega)
    have e2 := spl_in cur o zs (by omega) (i - o) (by omega)
    rw [show o + (i - o) = i by omega] at e1 e2
    rw [e1, e2]
theorem set_has2 {cur : Array Value} {o j k : Nat} {xs : List Value} {u v : Value} (h : Has cur o xs) (hj : j < xs.length) (hk : k < xs.length) : (cur.setIfInBounds (o + j) u).setIfInBounds (o + k) v = spl cur o ((xs.set j u).set k v) := by
  rw [set_has h hj, set_has (has_spl h (by omega) (by simp)) (by simpa using hk), spl_spl h (by omega) (by simp) (by simp)]
theorem blk_castW {w : World} {g : Nat} {t : TypeId} {cs cs' : Array Value} (h : Blk w g t cs) (e : cs = cs') : Blk w g t cs' := e ▸ h
/-- what a change leaves -/
def Chg (g o : Nat) (cur : Array Value) (y : Cw) (w : World) (e : Ending) (w' : World) : Prop :=
  e = .returned (.tuple #[]) ∧ Mod (fun k => k = g) w w' ∧ Blk w' g 57 (spl cur o (cwA y).toList)
section
variable {g o : Nat} {cur : Array Value} {x : Cw} {w u : World}
theorem chg_same (hx : Has cur o (cwA x).toList) (d : Below w.heap.size w u) (B : Blk u g 57 cur) : Chg g o cur x w (.returned (.tuple #[])) u :=
  ⟨rfl, Mod.of_below d, blk_castW B (spl_has hx (by simp [cwA])).symm⟩
theorem chg_one (hx : Has cur o (cwA x).toList) (d : Below w.heap.size w u) (B : Blk u g 57 cur) {j : Nat} (hj : j < 6) {y : Cw} {v : Value} (hy : (cwA x).toList.set j v = (cwA y).toList) {k : Nat} (hk : k = o + j) : Chg g o cur y w (.returned (.tuple #[])) (u.setCell ⟨g, k, none⟩ v) := by
  subst hk
  refine ⟨rfl, Mod.setCell (S := fun k => k = g) (Mod.of_below d) (p := ⟨g, o + j, none⟩) (.inl rfl) _, blk_castW (B.set_ (o + j) v) ?_⟩
  rw [set_has hx (by simpa [cwA] using hj), hy]
end

theorem t5_no {x : Cw} (h : softW x = false) : t5 x = x := by unfold t5; rw [h]; rfl
theorem t5_yes {x : Cw} (h : softW x = true) : t5 x = { x with c := { x.c with r := 32 } } := by unfold t5; rw [h]; rfl
theorem t7_no {x : Cw} (h : colW x 9 = false) : t7 x = x := by unfold t7; rw [h]; rfl
theorem t7_yes {x : Cw} (h : colW x 9 = true) : t7 x = { x with c := { x.c with r := 32 } } := by unfold t7; rw [h]; rfl
theorem t6_no {x : Cw} (h : hardW x = false) : t6 x = x := by unfold t6; rw [h]; rfl
theorem t6_yes {x : Cw} (h : hardW x = true) : t6 x = { x with c := { x.c with r := 10, kind := 5 } } := by unfold t6; rw [h]; rfl
theorem t9_a {x : Cw} (h : isW x 9 = true) : t9 x = { x with c := { x.c with kind := 4 } } := by unfold t9; rw [h]; rfl
theorem t9_b {x : Cw} (h : isW x 9 = false) (h2 : colW x 32 = true) : t9 x = { x with c := { x.c with kind := 1 } } := by unfold t9; rw [h, h2]; rfl
theorem t9_c {x : Cw} (h : isW x 9 = false) (h2 : colW x 32 = false) (h3 : isW x 32 = true) (hw : x.w = 3) : t9 x = { x with c := { x.c with kind := 2 } } := by unfold t9; rw [h, h2, h3, hw]; rfl
theorem t9_d {x : Cw} (h : isW x 9 = false) (h2 : colW x 32 = false) (h3 : isW x 32 = true) (hw : ¬ x.w = 3) : t9 x = { x with c := { x.c with kind := 3 } } := by unfold t9; rw [h, h2, h3, decide_eq_false hw]; rfl
theorem t9_e {x : Cw} (h : isW x 9 = false) (h2 : colW x 32 = false) (h3 : isW x 32 = false) : t9 x = x := by unfold t9; rw [h, h2, h3]; rfl

set_option maxRecDepth 100000 in
set_option maxHeartbeats 4000000 in
theorem wt5_any (x : Cw) (g o : Nat) (cur : Array Value) (w : World) (hB : Blk w g 57 cur) (hx : Has cur o (cwA x).toList) :
    Calls Tryd.prog 45 #[.pointer (some ⟨g, o, none⟩)] w (Chg g o cur (t5 x) w) := by
  have L : Lies w ⟨g, o, none⟩ (cwA x) := hB.part o (fun j v hv => hx.all j v (by simpa using hv))
  have HX := Lib.hid hx
  have HB := Lib.hid hB
  obtain ⟨c1, h1⟩ : ∃ q, softW x = q := ⟨_, rfl⟩
  obtain ⟨y, hv⟩ : ∃ y, t5 x = y := ⟨_, rfl⟩
  rw [hv]
  have HY := Lib.hid hv
  have H1 := Lib.hid h1
  clear h1 hv hx hB
  go_enter Tryd.func45, Tryd.ntmps45
  go_wp2_with (refine ldW rfl (.tmp 3) rfl _ rfl x L ?_)
  refine (wsoft_any x _).mono ?_
  rw [H1.out]
  rintro e u ⟨rfl, d⟩
  have B : Blk u g 57 cur := HB.out.keep (S := fun _ => False) (Mod.of_below d) id
  cases c1
  · go_wp2_with fail
    go_end0
    obtain rfl := (t5_no H1.out).symm.trans HY.out
    exact chg_same HX.out d B
  · have c0 : u.cell? ⟨g, o, none⟩ = some (.int .i32 x.c.r) := (B.cell o).trans (HX.out.all 0 _ rfl)
    have f0 := B.frozen o
    go_wp2_with fail
    go_end0
    obtain rfl := (t5_yes H1.out).symm.trans HY.out
    exact chg_one HX.out d B (j := 0) (v := .int .i32 32) (by decide) rfl rfl
set_option maxRecDepth 100000 in
set_option maxHeartbeats 4000000 in
theorem wt7_any (x : Cw) (g o : Nat) (cur : Array Value) (w : World) (hB : Blk w g 57 cur) (hx : Has cur o (cwA x).toList) :
    Calls Tryd.prog 47 #[.pointer (some ⟨g, o, none⟩)] w (Chg g o cur (t7 x) w) := by
  have L : Lies w ⟨g, o, none⟩ (cwA x) := hB.part o (fun j v hv => hx.all j v (by simpa using hv))
  have HX := Lib.hid hx
  have HB := Lib.hid hB
  obtain ⟨c1, h1⟩ : ∃ q, colW x 9 = q := ⟨_, rfl⟩
  obtain ⟨y, hv⟩ : ∃ y, t7 x = y := ⟨_, rfl⟩
  rw [hv]
  have HY := Lib.hid hv
  have H1 := Lib.hid h1
  clear h1 hv hx hB
  go_enter Tryd.func47, Tryd.ntmps47
  go_wp2_with (refine ldW rfl (.tmp 3) rfl _ rfl x L ?_)
  refine (wcol_any x 9 _).mono ?_
  rw [H1.out]
  rintro e u ⟨rfl, d⟩
  have B : Blk u g 57 cur := HB.out.keep (S := fun _ => False) (Mod.of_below d) id
  cases c1
  · go_wp2_with fail
    go_end0
    obtain rfl := (t7_no H1.out).symm.trans HY.out
    exact chg_same HX.out d B
  · have c0 : u.cell? ⟨g, o, none⟩ = some (.int .i32 x.c.r) := (B.cell o).trans (HX.out.all 0 _ rfl)
    have f0 := B.frozen o
    go_wp2_with fail
    go_end0
    obtain rfl := (t7_yes H1.out).symm.trans HY.out
    exact chg_one HX.out d B (j := 0) (v := .int .i32 32) (by decide) rfl rfl
set_option maxRecDepth 100000 in
set_option maxHeartbeats 4000000 in
theorem wt6_any (x : Cw) (g o : Nat) (cur : Array Value) (w : World) (hB : Blk w g 57 cur) (hx : Has cur o (cwA x).toList) :
    Calls Tryd.prog 46 #[.pointer (some ⟨g, o, none⟩)] w (Chg g o cur (t6 x) w) := by
  have L : Lies w ⟨g, o, none⟩ (cwA x) := hB.part o (fun j v hv => hx.all j v (by simpa using hv))
  have HX := Lib.hid hx
  have HB := Lib.hid hB
  obtain ⟨c1, h1⟩ : ∃ q, hardW x = q := ⟨_, rfl⟩
  obtain ⟨y, hv⟩ : ∃ y, t6 x = y := ⟨_, rfl⟩
  rw [hv]
  have HY := Lib.hid hv
  have H1 := Lib.hid h1
  clear h1 hv hx hB
  go_enter Tryd.func46, Tryd.ntmps46
  go_wp2_with (refine ldW rfl (.tmp 3) rfl _ rfl x L ?_)
  refine (whard_any x _).mono ?_
  rw [H1.out]
  rintro e u ⟨rfl, d⟩
  have B : Blk u g 57 cur := HB.out.keep (S := fun _ => False) (Mod.of_below d) id
  cases c1
  · go_wp2_with fail
    go_end0
    obtain rfl := (t6_no H1.out).symm.trans HY.out
    exact chg_same HX.out d B
  · have c0 : u.cell? ⟨g, o, none⟩ = some (.int .i32 x.c.r) := (B.cell o).trans (HX.out.all 0 _ rfl)
    have c4 : u.cell? ⟨g, o + 4, none⟩ = some (.int .u8 x.c.kind) := (B.cell (o + 4)).trans (HX.out.all 4 _ rfl)
    have f0 := B.frozen o
    have f4 := B.frozen (o + 4)
    go_wp2_with fail
    go_end0
    obtain rfl := (t6_yes H1.out).symm.trans HY.out
    refine ⟨rfl, Mod.setCell (S := fun k => k = g) (Mod.setCell (S := fun k => k = g) (Mod.of_below d) (p := ⟨g, o, none⟩) (.inl rfl) _) (p := ⟨g, o + 4, none⟩) (.inl rfl) _, blk_castW ((B.set_ o _).set_ (o + 4) _) ?_⟩
    exact set_has2 (j := 0) (k := 4) HX.out (by simp [cwA]) (by simp [cwA])
set_option maxRecDepth 100000 in
set_option maxHeartbeats 8000000 in
theorem wt9_any (x : Cw) (g o : Nat) (cur : Array Value) (w : World) (hB : Blk w g 57 cur) (hx : Has cur o (cwA x).toList) :
    Calls Tryd.prog 50 #[.pointer (some ⟨g, o, none⟩)] w (Chg g o cur (t9 x) w) := by
  have L : Lies w ⟨g, o, none⟩ (cwA x) := hB.part o (fun j v hv => hx.all j v (by simpa using hv))
  have HX := Lib.hid hx
  have HB := Lib.hid hB
  obtain ⟨c1, h1⟩ : ∃ q, isW x 9 = q := ⟨_, rfl⟩
  obtain ⟨c2, h2⟩ : ∃ q, colW x 32 = q := ⟨_, rfl⟩
  obtain ⟨c3, h3⟩ : ∃ q, isW x 32 = q := ⟨_, rfl⟩
  obtain ⟨z, hz⟩ : ∃ q, x.w = q := ⟨_, rfl⟩
  obtain ⟨y, hv⟩ : ∃ y, t9 x = y := ⟨_, rfl⟩
  rw [hv]
  have HY := Lib.hid hv
  have H1 := Lib.hid h1
  have H2 := Lib.hid h2
  have H3 := Lib.hid h3
  have HZ := Lib.hid hz
  clear h1 h2 h3 hz hv hx hB
  go_enter Tryd.func50, Tryd.ntmps50
  go_wp2_with (refine ldW rfl (.tmp 4) rfl _ rfl x L ?_)
  refine (wis_any x 9 _).mono ?_
  rw [H1.out]
  rintro e u ⟨rfl, d⟩
  have B : Blk u g 57 cur := HB.out.keep (S := fun _ => False) (Mod.of_below d) id
  cases c1
  · have L2 : Lies u ⟨g, o, none⟩ (cwA x) := B.part o (fun j v hv => HX.out.all j v (by simpa using hv))
    go_wp2_with (refine ldW rfl (.tmp 13) rfl _ rfl x L2 ?_)
    refine (wcol_any x 32 _).mono ?_
    rw [H2.out]
    rintro e u2 ⟨rfl, d2⟩
    have B2 : Blk u2 g 57 cur := B.keep (S := fun _ => False) (Mod.of_below d2) id
    have t2 := below_seq d d2
    cases c2
    · have L3 : Lies u2 ⟨g, o, none⟩ (cwA x) := B2.part o (fun j v hv => HX.out.all j v (by simpa using hv))
      go_wp2_with (refine ldW rfl (.tmp 22) rfl _ rfl x L3 ?_)
      refine (wis_any x 32 _).mono ?_
      rw [H3.out]
      rintro e u3 ⟨rfl, d3⟩
      have B3 : Blk u3 g 57 cur := B2.keep (S := fun _ => False) (Mod.of_below d3) id
      have t3 := below_seq t2 d3
      have L4 : Lies u3 ⟨g, o, none⟩ (cwA x) := B3.part o (fun j v hv => HX.out.all j v (by simpa using hv))
      have c5 : u3.cell? ⟨g, o + 5, none⟩ = some (.int .u8 z) := (B3.cell (o + 5)).trans ((HX.out.all 5 _ rfl).trans (by rw [← HZ.out]))
      cases c3
      · go_wp2_with (refine ldW rfl (.tmp 38) rfl _ rfl x L4 ?_)
        refine (wis_any x 32 _).mono ?_
        rw [H3.out]
        rintro e u4 ⟨rfl, d4⟩
        have B4 : Blk u4 g 57 cur := B3.keep (S := fun _ => False) (Mod.of_below d4) id
        go_wp2_with fail
        go_end0
        obtain rfl := (t9_e H1.out H2.out H3.out).symm.trans HY.out
        exact chg_same HX.out (below_seq t3 d4) B4
      · by_cases h3 : z = 3
        · subst h3
          have c4 : u3.cell? ⟨g, o + 4, none⟩ = some (.int .u8 x.c.kind) := (B3.cell (o + 4)).trans (HX.out.all 4 _ rfl)
          have f4 := B3.frozen (o + 4)
          go_wp2_with fail
          go_end0
          obtain rfl := (t9_c H1.out H2.out H3.out HZ.out).symm.trans HY.out
          exact chg_one HX.out t3 B3 (j := 4) (v := .int .u8 2) (by decide) rfl rfl
        · have e3 : (z == 3) = false := by simpa using h3
          have hd : decide (z = 3) = false := by simpa using h3
          clear hd
          go_wp2_with (refine ldW rfl (.tmp 38) rfl _ rfl x L4 ?_)
          refine (wis_any x 32 _).mono ?_
          rw [H3.out]
          rintro e u4 ⟨rfl, d4⟩
          have B4 : Blk u4 g 57 cur := B3.keep (S := fun _ => False) (Mod.of_below d4) id
          have c4 : u4.cell? ⟨g, o + 4, none⟩ = some (.int .u8 x.c.kind) := (B4.cell (o + 4)).trans (HX.out.all 4 _ rfl)
          have f4 := B4.frozen (o + 4)
          go_wp2_with fail
          go_end0
          obtain rfl := (t9_d H1.out H2.out H3.out (by rw [HZ.out]; exact h3)).symm.trans HY.out
          exact chg_one HX.out (below_seq t3 d4) B4 (j := 4) (v := .int .u8 3) (by decide) rfl rfl
    · have c4 : u2.cell? ⟨g, o + 4, none⟩ = some (.int .u8 x.c.kind) := (B2.cell (o + 4)).trans (HX.out.all 4 _ rfl)
      have f4 := B2.frozen (o + 4)
      go_wp2_with fail
      go_end0
      obtain rfl := (t9_b H1.out H2.out).symm.trans HY.out
      exact chg_one HX.out t2 B2 (j := 4) (v := .int .u8 1) (by decide) rfl rfl
  · have c4 : u.cell? ⟨g, o + 4, none⟩ = some (.int .u8 x.c.kind) := (B.cell (o + 4)).trans (HX.out.all 4 _ rfl)
    have f4 := B.frozen (o + 4)
    go_wp2_with fail
    go_end0
    obtain rfl := (t9_a H1.out).symm.trans HY.out
    exact chg_one HX.out d B (j := 4) (v := .int .u8 4) (by decide) rfl rfl
end Go.Proofs.YtejcfhfmdijimaaDoor
