/- Contract of the laws' own 'reads': what is read is the document's, and the reader is as its row. -/
import Derived.Test.YtfhceblmjahgjaaPkT4
import Derived.Test.YtfhceblmjahgjaaPkSame
namespace Go.Proofs.Ytfhceblmjahgjaa
open Go.ChangeShapes Go.WideShapes Go.ChangeAt Go.RowKit

/-- a row in a block of its own and a value in a slot are returned -/
theorem res_row2 {fn : Func} {u p : Tmp} (h : fn.results = #[.cell p 39, .tmp u]) (tmps : Array Value) (w : World) (g : Nat) (x y : Value)
    (hp : tmps.getD p undef = .pointer (some ⟨g, 0, none⟩)) (hb : Blk w g 39 #[x, y]) :
    (results fn tmps).run Try.prog w = .ok (.tuple #[.agg #[x, y], tmps.getD u undef]) w := by
  have hp' : tmps[p]?.getD undef = .pointer (some ⟨g, 0, none⟩) := by simpa using hp
  have hb' : w.heap[g]? = some (.cells #[x, y] 39 (0, 0)) := hb
  simp [results, h, hp', asAddr, run_loadVar_row w g 39 39 #[x, y] (0, 0) _ hb' Try.underlying39 rfl rowSize]

/-- the row that is left is returned, and true; the reader has the same -/
def RdsPost (w : World) (p : Nat) (q : Pk.Left) (e : Ending) (w' : World) : Prop := (∃ s', e = .returned (.tuple #[rowV q s', .bool true]) ∧ rdCells q s' ∧ s'.size ≤ 1000000000) ∧ Rdx w' p q ∧ Mod (At p) w w'

/-- what holds behind the switch -/
def Mid (w : World) (p : Nat) (q2 : Pk.Left) (wx : World) : Prop :=
  ∃ s2, Blk wx w.heap.size 39 #[.string s2, .bool q2.isSome] ∧ Blk wx (w.heap.size + 1) 39 #[.string ⟨#[]⟩, .bool false] ∧ rdCells q2 s2 ∧ s2.size ≤ 1000000000 ∧ Rdx wx p q2 ∧ Mod (At p) w wx

theorem cells_eq {q : Pk.Left} {s t : ByteArray} (h : rdCells q s) (k : rdCells q t) : s = t := by
  cases q with
  | none =>
    have h1 : s = ByteArray.empty := h
    have h2 : t = ByteArray.empty := k
    rw [h1, h2]
  | some l =>
    have h1 : bs s = l := h
    have h2 : bs t = l := k
    exact bs_inj _ _ (h1.trans h2.symm)

/-- behind the reading, the taking, and the storing of what is left -/
theorem mid_of {w w3 w4 : World} {p : Nat} {q q2 : Pk.Left} {s s4 : ByteArray} (o : Obj) (hp : p < w.heap.size) (hx3 : Rdx w3 p q2) (hm3 : Mod (At p) (W2 w q s) w3) (b4 : Below w3.heap.size w3 w4) (hq4 : rdCells q2 s4) (hl4 : s4.size ≤ 1000000000) :
    Mid w p q2 (((w4.setCell ⟨w.heap.size, 0, none⟩ (.string s4)).setCell ⟨w.heap.size, 1, none⟩ (.bool q2.isSome)).alloc o) := by
  have m0 : Mod (At p) w w3 := ((Mod.of_below (W2.below w q s)) : Mod (At p) w _).trans hm3
  have m1 : Mod (fun k => k = p ∨ k = w.heap.size) w3 (((w4.setCell ⟨w.heap.size, 0, none⟩ (.string s4)).setCell ⟨w.heap.size, 1, none⟩ (.bool q2.isSome)).alloc o) :=
    (((Mod.of_below b4 : Mod (fun k => k = p ∨ k = w.heap.size) w3 w4).setCell (p := ⟨w.heap.size, 0, none⟩) (.inl (.inr rfl)) _).setCell (p := ⟨w.heap.size, 1, none⟩) (.inl (.inr rfl)) _).alloc o
  have a3 : Blk w3 w.heap.size 39 #[.string s, .bool q.isSome] := (W2.arg w q s).keep hm3 (by show ¬ w.heap.size = p; omega)
  have r3 : Blk w3 (w.heap.size + 1) 39 #[.string ⟨#[]⟩, .bool false] := (W2.res w q s).keep hm3 (by show ¬ w.heap.size + 1 = p; omega)
  refine ⟨s4, (two_set (a3.keep (S := fun _ => False) (Mod.of_below b4) id)).alloc o, r3.keep m1 (by omega), hq4, hl4, ?_, ?_⟩
  · refine (hx3.below b4).keep (S := At w.heap.size) ((mod_at (mod_at (Mod.refl _ _) 0 _) 1 _).alloc o) (by show ¬ p = w.heap.size; omega)
  · exact m0.seq m1 (fun k hk => by
      rcases hk with hk | hk
      · exact .inl hk
      · exact .inr (by omega))


set_option linter.unusedSimpArgs false in
set_option maxRecDepth 100000 in
set_option maxHeartbeats 8000000 in
theorem reads_any (p : Nat) (q : Pk.Left) (s : ByteArray) (k : Nat) (w : World) (h : Rdx w p q) (hq : rdCells q s) (hs : s.size ≤ 1000000000) (hk : k ≤ 255) :
    Calls Try.prog 16 #[ptr p, rowV q s, .int .u8 k] w (RdsPost w p (Pk.rd (k % 7) q).2) := by
  have hp : p < w.heap.size := h.lt
  have HX := Lib.hid (h.below (W2.below w q s))
  have HQ := Lib.hid (And.intro hq hs)
  obtain ⟨c7, hc7⟩ : ∃ c7, k % 7 = c7 := ⟨_, rfl⟩
  rw [hc7]
  have hc7l : c7 < 7 := by omega
  have e7 : (k : Int) % 7 = (c7 : Int) := by omega
  have A3 : Hid (∀ w3, Mod (At p) (W2 w q s) w3 → Blk w3 w.heap.size 39 #[.string s, .bool q.isSome]) := fun w3 m => (W2.arg w q s).keep m (by show ¬ w.heap.size = p; omega)
  clear h hq hs hc7
  go_enter Try.func16, Try.ntmps16
  go_upto_block 0 with fail
  go_cut [8, 31] (fun s8 s31 wx => s8 = .bool true ∧ Mid w p (Pk.rd c7 q).2 wx)
  case first =>
    have hcases : c7 = 0 ∨ c7 = 1 ∨ c7 = 2 ∨ c7 = 3 ∨ c7 = 4 ∨ c7 = 5 ∨ c7 = 6 := by omega
    clear hc7l
    rcases hcases with rfl | rfl | rfl | rfl | rfl | rfl | rfl
    · have C := Lib.hid (rnum_any p q _ HX.out)
      have CT := Lib.hid (fun w3 => takeNum_any q s w3 HQ.out.2 HQ.out.1)
      have hrd : (Pk.rd 0 q).2 = (Pk.rNum q).2 := rfl
      generalize Pk.rNum q = X at *
      obtain ⟨x1, q2⟩ := X
      simp only at C CT hrd
      have HRD := Lib.hid hrd
      clear hrd
      go_wp2_with fail
      refine C.out.mono ?_
      rintro e w3 ⟨rfl, hx3, hm3⟩
      have HA3 := Lib.hid (A3.out w3 hm3)
      have c0 : w3.cell? ⟨w.heap.size, 0, none⟩ = some (.string s) := HA3.out.cell 0
      have c1 : w3.cell? ⟨w.heap.size, 1, none⟩ = some (.bool q.isSome) := HA3.out.cell 1
      go_wp2_with fail
      refine (CT.out w3).mono ?_
      rintro e w4 ⟨⟨s4, rfl, hq4, hl4⟩, b4⟩
      have HA4 := Lib.hid (HA3.out.keep (S := fun _ => False) (Mod.of_below b4) id)
      have d0 : w4.cell? ⟨w.heap.size, 0, none⟩ = some (.string s) := HA4.out.cell 0
      have d1 : w4.cell? ⟨w.heap.size, 1, none⟩ = some (.bool q.isSome) := HA4.out.cell 1
      have f0 := HA4.out.frozen 0
      have f1 := HA4.out.frozen 1
      have hz4 : w.heap.size < w4.heap.size := HA4.out.lt
      have HM := Lib.hid (mid_of (q := q) (s := s) (.cells #[.string s4, .bool q2.isSome] 39) hp hx3 hm3 b4 hq4 hl4)
      go_wp2_with fail
      go_meet
      exact ⟨by simp, by rw [HRD.out]; exact HM.out⟩
    · have C := Lib.hid (rint_any p q _ HX.out)
      have CT := Lib.hid (fun w3 => takeInt_any q s w3 HQ.out.2 HQ.out.1)
      have hrd : (Pk.rd 1 q).2 = (Pk.rInt q).2 := rfl
      generalize Pk.rInt q = X at *
      obtain ⟨x1, q2⟩ := X
      simp only at C CT hrd
      have HRD := Lib.hid hrd
      clear hrd
      go_wp2_with fail
      refine C.out.mono ?_
      rintro e w3 ⟨rfl, hx3, hm3⟩
      have HA3 := Lib.hid (A3.out w3 hm3)
      have c0 : w3.cell? ⟨w.heap.size, 0, none⟩ = some (.string s) := HA3.out.cell 0
      have c1 : w3.cell? ⟨w.heap.size, 1, none⟩ = some (.bool q.isSome) := HA3.out.cell 1
      go_wp2_with fail
      refine (CT.out w3).mono ?_
      rintro e w4 ⟨⟨s4, rfl, hq4, hl4⟩, b4⟩
      have HA4 := Lib.hid (HA3.out.keep (S := fun _ => False) (Mod.of_below b4) id)
      have d0 : w4.cell? ⟨w.heap.size, 0, none⟩ = some (.string s) := HA4.out.cell 0
      have d1 : w4.cell? ⟨w.heap.size, 1, none⟩ = some (.bool q.isSome) := HA4.out.cell 1
      have f0 := HA4.out.frozen 0
      have f1 := HA4.out.frozen 1
      have hz4 : w.heap.size < w4.heap.size := HA4.out.lt
      have HM := Lib.hid (mid_of (q := q) (s := s) (.cells #[.string s4, .bool q2.isSome] 39) hp hx3 hm3 b4 hq4 hl4)
      go_wp2_with fail
      go_meet
      exact ⟨by simp, by rw [HRD.out]; exact HM.out⟩
    · have C := Lib.hid (rtruth_any p q _ HX.out)
      have CT := Lib.hid (fun w3 => takeTruth_any q s w3 HQ.out.2 HQ.out.1)
      have hrd : (Pk.rd 2 q).2 = (Pk.rTruth q).2 := rfl
      generalize Pk.rTruth q = X at *
      obtain ⟨x1, q2⟩ := X
      simp only at C CT hrd
      have HRD := Lib.hid hrd
      clear hrd
      go_wp2_with fail
      refine C.out.mono ?_
      rintro e w3 ⟨rfl, hx3, hm3⟩
      have HA3 := Lib.hid (A3.out w3 hm3)
      have c0 : w3.cell? ⟨w.heap.size, 0, none⟩ = some (.string s) := HA3.out.cell 0
      have c1 : w3.cell? ⟨w.heap.size, 1, none⟩ = some (.bool q.isSome) := HA3.out.cell 1
      go_wp2_with fail
      refine (CT.out w3).mono ?_
      rintro e w4 ⟨⟨s4, rfl, hq4, hl4⟩, b4⟩
      have HA4 := Lib.hid (HA3.out.keep (S := fun _ => False) (Mod.of_below b4) id)
      have d0 : w4.cell? ⟨w.heap.size, 0, none⟩ = some (.string s) := HA4.out.cell 0
      have d1 : w4.cell? ⟨w.heap.size, 1, none⟩ = some (.bool q.isSome) := HA4.out.cell 1
      have f0 := HA4.out.frozen 0
      have f1 := HA4.out.frozen 1
      have hz4 : w.heap.size < w4.heap.size := HA4.out.lt
      have HM := Lib.hid (mid_of (q := q) (s := s) (.cells #[.string s4, .bool q2.isSome] 39) hp hx3 hm3 b4 hq4 hl4)
      go_wp2_with fail
      go_meet
      exact ⟨by simp, by rw [HRD.out]; exact HM.out⟩
    · have C := Lib.hid (rtext_any p q _ HX.out)
      have CT := Lib.hid (fun w3 => takeText_any q s w3 HQ.out.2 HQ.out.1)
      have hrd : (Pk.rd 3 q).2 = (Pk.rText q).2 := rfl
      generalize Pk.rText q = X at *
      obtain ⟨x1, q2⟩ := X
      simp only at C CT hrd
      have HRD := Lib.hid hrd
      clear hrd
      go_wp2_with fail
      refine C.out.mono ?_
      rintro e w3 ⟨⟨sx, rfl, hsx, hsl⟩, hx3, hm3⟩
      have HSX := Lib.hid hsx
      clear hsx
      have HA3 := Lib.hid (A3.out w3 hm3)
      have c0 : w3.cell? ⟨w.heap.size, 0, none⟩ = some (.string s) := HA3.out.cell 0
      have c1 : w3.cell? ⟨w.heap.size, 1, none⟩ = some (.bool q.isSome) := HA3.out.cell 1
      go_wp2_with fail
      refine (CT.out w3).mono ?_
      rintro e w4 ⟨⟨sy, s4, rfl, hsy, hsyl, hq4, hl4⟩, b4⟩
      obtain rfl : sx = sy := bs_inj _ _ (HSX.out.trans hsy.symm)
      clear hsy
      have HA4 := Lib.hid (HA3.out.keep (S := fun _ => False) (Mod.of_below b4) id)
      have d0 : w4.cell? ⟨w.heap.size, 0, none⟩ = some (.string s) := HA4.out.cell 0
      have d1 : w4.cell? ⟨w.heap.size, 1, none⟩ = some (.bool q.isSome) := HA4.out.cell 1
      have f0 := HA4.out.frozen 0
      have f1 := HA4.out.frozen 1
      have hz4 : w.heap.size < w4.heap.size := HA4.out.lt
      have HM := Lib.hid (mid_of (q := q) (s := s) (.cells #[.string s4, .bool q2.isSome] 39) hp hx3 hm3 b4 hq4 hl4)
      go_wp2_with fail
      go_meet
      exact ⟨by simp, by rw [HRD.out]; exact HM.out⟩
    · have C := Lib.hid (rnums_any p q _ HX.out)
      have CT := Lib.hid (fun w3 => takeNums_any q s w3 HQ.out.2 HQ.out.1)
      have hrd : (Pk.rd 4 q).2 = (Pk.rList Pk.rNum q).2 := rfl
      generalize Pk.rList Pk.rNum q = X at *
      obtain ⟨x1, q2⟩ := X
      simp only at C CT hrd
      have HRD := Lib.hid hrd
      clear hrd
      go_wp2_with fail
      refine C.out.mono ?_
      rintro e w3 ⟨⟨v3, ys, rfl, ho, hy, hl3⟩, hx3, hm3⟩
      have HO := Lib.hid ho
      have HY := Lib.hid hy
      clear ho hy
      have HA3 := Lib.hid (A3.out w3 hm3)
      have c0 : w3.cell? ⟨w.heap.size, 0, none⟩ = some (.string s) := HA3.out.cell 0
      have c1 : w3.cell? ⟨w.heap.size, 1, none⟩ = some (.bool q.isSome) := HA3.out.cell 1
      go_wp2_with fail
      refine (CT.out w3).mono ?_
      rintro e w4 ⟨⟨v4, zs, s4, rfl, ho4, hz, hl5, hq4, hl4⟩, b4⟩
      have HO4 := Lib.hid ho4
      have HZ := Lib.hid hz
      clear ho4 hz
      have HA4 := Lib.hid (HA3.out.keep (S := fun _ => False) (Mod.of_below b4) id)
      have d0 : w4.cell? ⟨w.heap.size, 0, none⟩ = some (.string s) := HA4.out.cell 0
      have d1 : w4.cell? ⟨w.heap.size, 1, none⟩ = some (.bool q.isSome) := HA4.out.cell 1
      have f0 := HA4.out.frozen 0
      have f1 := HA4.out.frozen 1
      have hz4 : w.heap.size < w4.heap.size := HA4.out.lt
      have HM := Lib.hid (mid_of (q := q) (s := s) (.cells #[.string s4, .bool q2.isSome] 39) hp hx3 hm3 b4 hq4 hl4)
      have HS : Hid (Calls Try.prog 50 #[v3, v4] (((w4.setCell ⟨w.heap.size, 0, none⟩ (.string s4)).setCell ⟨w.heap.size, 1, none⟩ (.bool q2.isSome)).alloc (.cells #[.string s4, .bool q2.isSome] 39)) (TPost (((w4.setCell ⟨w.heap.size, 0, none⟩ (.string s4)).setCell ⟨w.heap.size, 1, none⟩ (.bool q2.isSome)).alloc (.cells #[.string s4, .bool q2.isSome] 39)) (ys = zs))) := by
        have m4 : Mod (At w.heap.size) w4 (((w4.setCell ⟨w.heap.size, 0, none⟩ (.string s4)).setCell ⟨w.heap.size, 1, none⟩ (.bool q2.isSome)).alloc (.cells #[.string s4, .bool q2.isSome] 39)) := (mod_at (mod_at (Mod.refl _ _) 0 _) 1 _).alloc _
        have r1 : Row (fun k => k < (W2 w q s).heap.size) w4 v3 (ys.map fN) := (Row.of_own HO.out).below b4
        have r2 : Row (fun k => k < w3.heap.size) w4 v4 (zs.map fN) := Row.of_own HO4.out
        have hA := HA3.out.lt
        exact same_num _ _ v3 v4 ys zs _ (r1.keep m4 (fun k _ hk => by have : k = w.heap.size := hk; rw [W2.size]; omega)) (r2.keep m4 (fun k _ hk => by have : k = w.heap.size := hk; omega)) hl3 (by omega)
      have HEQ : Hid (ys = zs) := by have h1 := HY.out; have h2 := HZ.out; rw [List.map_id'] at h1 h2; exact h1.trans h2.symm
      go_wp2_with fail
      refine HS.out.mono ?_
      rintro e w5 ⟨⟨bb, rfl, hbb⟩, d5⟩
      obtain rfl := hbb HEQ.out
      have HM5 : Hid (Mid w p q2 w5) := by
        obtain ⟨n5, rfl⟩ := d5
        obtain ⟨s2, g1, g2, g3, g4, ⟨s6, g5, g6⟩, g7⟩ := HM.out
        exact ⟨s2, g1.drewN _, g2.drewN _, g3, g4, ⟨s6, g5.drewN _, g6⟩, g7.drewN _⟩
      clear d5 hbb
      go_wp2_with fail
      go_meet
      exact ⟨rfl, by rw [HRD.out]; exact HM5.out⟩
    · have C := Lib.hid (rints_any p q _ HX.out)
      have CT := Lib.hid (fun w3 => takeInts_any q s w3 HQ.out.2 HQ.out.1)
      have hrd : (Pk.rd 5 q).2 = (Pk.rList Pk.rInt q).2 := rfl
      generalize Pk.rList Pk.rInt q = X at *
      obtain ⟨x1, q2⟩ := X
      simp only at C CT hrd
      have HRD := Lib.hid hrd
      clear hrd
      go_wp2_with fail
      refine C.out.mono ?_
      rintro e w3 ⟨⟨v3, ys, rfl, ho, hy, hl3⟩, hx3, hm3⟩
      have HO := Lib.hid ho
      have HY := Lib.hid hy
      clear ho hy
      have HA3 := Lib.hid (A3.out w3 hm3)
      have c0 : w3.cell? ⟨w.heap.size, 0, none⟩ = some (.string s) := HA3.out.cell 0
      have c1 : w3.cell? ⟨w.heap.size, 1, none⟩ = some (.bool q.isSome) := HA3.out.cell 1
      go_wp2_with fail
      refine (CT.out w3).mono ?_
      rintro e w4 ⟨⟨v4, zs, s4, rfl, ho4, hz, hl5, hq4, hl4⟩, b4⟩
      have HO4 := Lib.hid ho4
      have HZ := Lib.hid hz
      clear ho4 hz
      have HA4 := Lib.hid (HA3.out.keep (S := fun _ => False) (Mod.of_below b4) id)
      have d0 : w4.cell? ⟨w.heap.size, 0, none⟩ = some (.string s) := HA4.out.cell 0
      have d1 : w4.cell? ⟨w.heap.size, 1, none⟩ = some (.bool q.isSome) := HA4.out.cell 1
      have f0 := HA4.out.frozen 0
      have f1 := HA4.out.frozen 1
      have hz4 : w.heap.size < w4.heap.size := HA4.out.lt
      have HM := Lib.hid (mid_of (q := q) (s := s) (.cells #[.string s4, .bool q2.isSome] 39) hp hx3 hm3 b4 hq4 hl4)
      have HS : Hid (Calls Try.prog 52 #[v3, v4] (((w4.setCell ⟨w.heap.size, 0, none⟩ (.string s4)).setCell ⟨w.heap.size, 1, none⟩ (.bool q2.isSome)).alloc (.cells #[.string s4, .bool q2.isSome] 39)) (TPost (((w4.setCell ⟨w.heap.size, 0, none⟩ (.string s4)).setCell ⟨w.heap.size, 1, none⟩ (.bool q2.isSome)).alloc (.cells #[.string s4, .bool q2.isSome] 39)) (ys = zs))) := by
        have m4 : Mod (At w.heap.size) w4 (((w4.setCell ⟨w.heap.size, 0, none⟩ (.string s4)).setCell ⟨w.heap.size, 1, none⟩ (.bool q2.isSome)).alloc (.cells #[.string s4, .bool q2.isSome] 39)) := (mod_at (mod_at (Mod.refl _ _) 0 _) 1 _).alloc _
        have r1 : Row (fun k => k < (W2 w q s).heap.size) w4 v3 (ys.map fI) := (Row.of_own HO.out).below b4
        have r2 : Row (fun k => k < w3.heap.size) w4 v4 (zs.map fI) := Row.of_own HO4.out
        have hA := HA3.out.lt
        exact same_int _ _ v3 v4 ys zs _ (r1.keep m4 (fun k _ hk => by have : k = w.heap.size := hk; rw [W2.size]; omega)) (r2.keep m4 (fun k _ hk => by have : k = w.heap.size := hk; omega)) hl3 (by omega)
      have HEQ : Hid (ys = zs) := by have h1 := HY.out; have h2 := HZ.out; rw [List.map_id'] at h1 h2; exact h1.trans h2.symm
      go_wp2_with fail
      refine HS.out.mono ?_
      rintro e w5 ⟨⟨bb, rfl, hbb⟩, d5⟩
      obtain rfl := hbb HEQ.out
      have HM5 : Hid (Mid w p q2 w5) := by
        obtain ⟨n5, rfl⟩ := d5
        obtain ⟨s2, g1, g2, g3, g4, ⟨s6, g5, g6⟩, g7⟩ := HM.out
        exact ⟨s2, g1.drewN _, g2.drewN _, g3, g4, ⟨s6, g5.drewN _, g6⟩, g7.drewN _⟩
      clear d5 hbb
      go_wp2_with fail
      go_meet
      exact ⟨rfl, by rw [HRD.out]; exact HM5.out⟩
    · have C := Lib.hid (rtexts_any p q _ HX.out)
      have CT := Lib.hid (fun w3 => takeTexts_any q s w3 HQ.out.2 HQ.out.1)
      have hrd : (Pk.rd 6 q).2 = (Pk.rList Pk.rText q).2 := rfl
      generalize Pk.rList Pk.rText q = X at *
      obtain ⟨x1, q2⟩ := X
      simp only at C CT hrd
      have HRD := Lib.hid hrd
      clear hrd
      go_wp2_with fail
      refine C.out.mono ?_
      rintro e w3 ⟨⟨v3, ys, rfl, ho, hy, hl3⟩, hx3, hm3⟩
      have HO := Lib.hid ho
      have HY := Lib.hid hy
      clear ho hy
      have HA3 := Lib.hid (A3.out w3 hm3)
      have c0 : w3.cell? ⟨w.heap.size, 0, none⟩ = some (.string s) := HA3.out.cell 0
      have c1 : w3.cell? ⟨w.heap.size, 1, none⟩ = some (.bool q.isSome) := HA3.out.cell 1
      go_wp2_with fail
      refine (CT.out w3).mono ?_
      rintro e w4 ⟨⟨v4, zs, s4, rfl, ho4, hz, hl5, hq4, hl4⟩, b4⟩
      have HO4 := Lib.hid ho4
      have HZ := Lib.hid hz
      clear ho4 hz
      have HA4 := Lib.hid (HA3.out.keep (S := fun _ => False) (Mod.of_below b4) id)
      have d0 : w4.cell? ⟨w.heap.size, 0, none⟩ = some (.string s) := HA4.out.cell 0
      have d1 : w4.cell? ⟨w.heap.size, 1, none⟩ = some (.bool q.isSome) := HA4.out.cell 1
      have f0 := HA4.out.frozen 0
      have f1 := HA4.out.frozen 1
      have hz4 : w.heap.size < w4.heap.size := HA4.out.lt
      have HM := Lib.hid (mid_of (q := q) (s := s) (.cells #[.string s4, .bool q2.isSome] 39) hp hx3 hm3 b4 hq4 hl4)
      have HS : Hid (Calls Try.prog 54 #[v3, v4] (((w4.setCell ⟨w.heap.size, 0, none⟩ (.string s4)).setCell ⟨w.heap.size, 1, none⟩ (.bool q2.isSome)).alloc (.cells #[.string s4, .bool q2.isSome] 39)) (TPost (((w4.setCell ⟨w.heap.size, 0, none⟩ (.string s4)).setCell ⟨w.heap.size, 1, none⟩ (.bool q2.isSome)).alloc (.cells #[.string s4, .bool q2.isSome] 39)) (ys = zs))) := by
        have m4 : Mod (At w.heap.size) w4 (((w4.setCell ⟨w.heap.size, 0, none⟩ (.string s4)).setCell ⟨w.heap.size, 1, none⟩ (.bool q2.isSome)).alloc (.cells #[.string s4, .bool q2.isSome] 39)) := (mod_at (mod_at (Mod.refl _ _) 0 _) 1 _).alloc _
        have r1 : Row (fun k => k < (W2 w q s).heap.size) w4 v3 (ys.map fS) := (Row.of_own HO.out).below b4
        have r2 : Row (fun k => k < w3.heap.size) w4 v4 (zs.map fS) := Row.of_own HO4.out
        have hA := HA3.out.lt
        exact same_text _ _ v3 v4 ys zs _ (r1.keep m4 (fun k _ hk => by have : k = w.heap.size := hk; rw [W2.size]; omega)) (r2.keep m4 (fun k _ hk => by have : k = w.heap.size := hk; omega)) hl3 (by omega)
      have HEQ : Hid (ys = zs) := (List.map_inj_right (fun a b e => bs_inj a b e)).1 (HY.out.trans HZ.out.symm)
      go_wp2_with fail
      refine HS.out.mono ?_
      rintro e w5 ⟨⟨bb, rfl, hbb⟩, d5⟩
      obtain rfl := hbb HEQ.out
      have HM5 : Hid (Mid w p q2 w5) := by
        obtain ⟨n5, rfl⟩ := d5
        obtain ⟨s2, g1, g2, g3, g4, ⟨s6, g5, g6⟩, g7⟩ := HM.out
        exact ⟨s2, g1.drewN _, g2.drewN _, g3, g4, ⟨s6, g5.drewN _, g6⟩, g7.drewN _⟩
      clear d5 hbb
      go_wp2_with fail
      go_meet
      exact ⟨rfl, by rw [HRD.out]; exact HM5.out⟩
  case rest =>
    obtain ⟨rfl, hM⟩ := hcut
    obtain ⟨s2, gA, gR, gq, gl, gX, gM⟩ := hM
    have HX2 := Lib.hid gX
    have HMM := Lib.hid gM
    obtain ⟨s5, hr5, _⟩ := gX
    obtain rfl : s5 = s2 := cells_eq hr5.left gq
    generalize (Pk.rd c7 q).2 = q2 at *
    have HR := Lib.hid hr5
    have HGR := Lib.hid gR
    have HGQ := Lib.hid (And.intro gq gl)
    have c0 : wc.cell? ⟨w.heap.size, 0, none⟩ = some (.string s5) := gA.cell 0
    have c1 : wc.cell? ⟨w.heap.size, 1, none⟩ = some (.bool q2.isSome) := gA.cell 1
    have q0 : wc.cell? ⟨w.heap.size + 1, 0, none⟩ = some (.string ⟨#[]⟩) := gR.cell 0
    have q1 : wc.cell? ⟨w.heap.size + 1, 1, none⟩ = some (.bool false) := gR.cell 1
    have f0 := gR.frozen 0
    have f1 := gR.frozen 1
    have fin : Hid (∀ W, (W = ((wc.setCell ⟨w.heap.size + 1, 0, none⟩ (.string s5)).setCell ⟨w.heap.size + 1, 1, none⟩ (.bool q2.isSome)).drew) → Blk W (w.heap.size + 1) 39 #[.string s5, .bool q2.isSome] ∧ Rdx W p q2 ∧ Mod (At p) w W) := fun W e => by
      have m0 : Mod (At (w.heap.size + 1)) wc W := by rw [e]; exact (mod_at (mod_at (Mod.refl _ _) 0 _) 1 _).drew
      refine ⟨by rw [e]; exact (two_set HGR.out).drewN 1, HX2.out.keep m0 (by show ¬ p = w.heap.size + 1; omega), HMM.out.seq m0 (fun k hk => .inr (by have : k = w.heap.size + 1 := hk; omega))⟩
    clear gA gR gq gl gM hr5
    have HRd : Hid (Rd wc.drew p q2 s5) := HR.out.drewN 1
    have CF := Lib.hid (rfine_any p q2 s5 _ HRd.out)
    have CL := Lib.hid (rleft_any p q2 s5 _ HRd.out)
    have CE := Lib.hid (rend_any p q2 s5 _ HRd.out)
    cases q2 with
    | none =>
      have es : s5 = ByteArray.empty := HGQ.out.1
      subst es
      rw [show endOf none = 5 from rfl] at CE
      have CF2 : Hid (Calls Try.prog 18 #[ptr p] wc.drew fun e w' => e = .returned (.bool false) ∧ wc.drew = w') := CF.out
      replace CF := CF2
      clear CF2
      replace c1 : wc.cell? ⟨w.heap.size, 1, none⟩ = some (.bool false) := c1
      go_wp2_with fail
      refine wp_region_noPanic ?_
      refine wp_region_held_drew (S := fun w' => w'.cell? ⟨w.heap.size, 0, none⟩ = some (.string ByteArray.empty) ∧ w'.cell? ⟨w.heap.size, 1, none⟩ = some (.bool false)) (by kernel_rfl) (⟨c0, c1⟩) (fun hHeld => ?_)
      refine wpAnyH_take (i := 0) (v := ?_) (by rw [List.getElem?_toArray]; rfl) (by kernel_rfl) (by kernel_rfl) (by kernel_rfl) (fun _ _ _ h => h) (Or.inl ⟨by rfl, ?_⟩) (by assumption) ?_
      rotate_left
      · intro w hSw
        (try dsimp only at hSw)
        go_simp
        (try with_reducible rfl)
      rotate_left
      (try simp only [Act.put, List.setIfInBounds_toArray, List.set_cons_zero, List.set_cons_succ])
      refine wpAnyH_take (i := 1) (v := ?_) (by rw [List.getElem?_toArray]; rfl) (by kernel_rfl) (by kernel_rfl) (by kernel_rfl) (fun _ _ _ h => h) (Or.inl ⟨by rfl, ?_⟩) (by assumption) ?_
      rotate_left
      · intro w hSw
        (try dsimp only at hSw)
        go_simp
        (try with_reducible rfl)
      rotate_left
      (try simp only [Act.put, List.setIfInBounds_toArray, List.set_cons_zero, List.set_cons_succ])
      refine wpAnyH_take (i := 2) (v := ?_) (by rw [List.getElem?_toArray]; rfl) (by kernel_rfl) (by kernel_rfl) (by kernel_rfl) (fun _ _ _ h => h) (Or.inl ⟨by rfl, ?_⟩) (by assumption) ?_
      rotate_left
      · intro w hSw
        (try dsimp only at hSw)
        go_simp
        (try with_reducible rfl)
      rotate_left
      (try simp only [Act.put, List.setIfInBounds_toArray, List.set_cons_zero, List.set_cons_succ])
      refine wpAnyH_take (i := 3) (v := ?_) (by rw [List.getElem?_toArray]; rfl) (by kernel_rfl) (by kernel_rfl) (by kernel_rfl) (fun _ _ _ h => h) (Or.inl ⟨by rfl, ?_⟩) (by assumption) ?_
      rotate_left
      · intro w hSw
        (try dsimp only at hSw)
        go_simp
        (try with_reducible rfl)
      rotate_left
      (try simp only [Act.put, List.setIfInBounds_toArray, List.set_cons_zero, List.set_cons_succ])
      refine wpAnyH_take (i := 5) (v := ?_) (by rw [List.getElem?_toArray]; rfl) (by kernel_rfl) (by kernel_rfl) (by kernel_rfl) (fun _ _ _ h => h) (Or.inl ⟨by rfl, ?_⟩) (by assumption) ?_
      rotate_left
      · intro w hSw
        (try dsimp only at hSw)
        go_simp
        (try with_reducible rfl)
      rotate_left
      (try simp only [Act.put, List.setIfInBounds_toArray, List.set_cons_zero, List.set_cons_succ])
      refine wpAnyH_take (i := 6) (v := ?_) (by rw [List.getElem?_toArray]; rfl) (by kernel_rfl) (by kernel_rfl) (by kernel_rfl) (fun _ _ _ h => h) (Or.inl ⟨by rfl, ?_⟩) (by assumption) ?_
      rotate_left
      · intro w hSw
        (try dsimp only at hSw)
        go_simp
        (try with_reducible rfl)
      rotate_left
      (try simp only [Act.put, List.setIfInBounds_toArray, List.set_cons_zero, List.set_cons_succ])
      refine wpAnyH_ready (rs := [4]) (by kernel_rfl) (by simp) ?_
      refine AllReadyH.cons (by rw [List.getElem?_toArray]; rfl) (fun K hK => ?_) AllReadyH.nil
      go_simp
      refine (CF.out).mono ?_; rintro e w' ⟨rfl, rfl⟩
      refine hK.out _ _ ?_ (fun hHeld => ?_)
      · assumption
      clear hK K
      (try simp only [Act.put, List.setIfInBounds_toArray, List.set_cons_zero, List.set_cons_succ])
      refine wpAnyH_take (i := 7) (v := ?_) (by rw [List.getElem?_toArray]; rfl) (by kernel_rfl) (by kernel_rfl) (by kernel_rfl) (fun _ _ _ h => h) (Or.inl ⟨by rfl, ?_⟩) (by assumption) ?_
      rotate_left
      · intro w hSw
        (try dsimp only at hSw)
        go_simp
        (try with_reducible rfl)
      rotate_left
      (try simp only [Act.put, List.setIfInBounds_toArray, List.set_cons_zero, List.set_cons_succ])
      refine wpAnyH_take (i := 8) (v := ?_) (by rw [List.getElem?_toArray]; rfl) (by kernel_rfl) (by kernel_rfl) (by kernel_rfl) (fun _ _ _ h => h) (Or.inl ⟨by rfl, ?_⟩) (by assumption) ?_
      rotate_left
      · intro w hSw
        (try dsimp only at hSw)
        go_simp
        (try with_reducible rfl)
      rotate_left
      (try simp only [Act.put, List.setIfInBounds_toArray, List.set_cons_zero, List.set_cons_succ])
      refine wpAnyH_take (i := 9) (v := ?_) (by rw [List.getElem?_toArray]; rfl) (by kernel_rfl) (by kernel_rfl) (by kernel_rfl) (fun _ _ _ h => h) (Or.inl ⟨by rfl, ?_⟩) (by assumption) ?_
      rotate_left
      · intro w hSw
        (try dsimp only at hSw)
        go_simp
        (try with_reducible rfl)
      rotate_left
      (try simp only [Act.put, List.setIfInBounds_toArray, List.set_cons_zero, List.set_cons_succ])
      refine wpAnyH_take (i := 10) (v := ?_) (by rw [List.getElem?_toArray]; rfl) (by kernel_rfl) (by kernel_rfl) (by kernel_rfl) (fun _ _ _ h => h) (Or.inl ⟨by rfl, ?_⟩) (by assumption) ?_
      rotate_left
      · intro w hSw
        (try dsimp only at hSw)
        go_simp
        (try with_reducible rfl)
      rotate_left
      (try simp only [Act.put, List.setIfInBounds_toArray, List.set_cons_zero, List.set_cons_succ])
      refine wpAnyH_take (i := 12) (v := ?_) (by rw [List.getElem?_toArray]; rfl) (by kernel_rfl) (by kernel_rfl) (by kernel_rfl) (fun _ _ _ h => h) (Or.inl ⟨by rfl, ?_⟩) (by assumption) ?_
      rotate_left
      · intro w hSw
        (try dsimp only at hSw)
        go_simp
        (try with_reducible rfl)
      rotate_left
      (try simp only [Act.put, List.setIfInBounds_toArray, List.set_cons_zero, List.set_cons_succ])
      refine wpAnyH_take (i := 13) (v := ?_) (by rw [List.getElem?_toArray]; rfl) (by kernel_rfl) (by kernel_rfl) (by kernel_rfl) (fun _ _ _ h => h) (Or.inl ⟨by rfl, ?_⟩) (by assumption) ?_
      rotate_left
      · intro w hSw
        (try dsimp only at hSw)
        go_simp
        (try with_reducible rfl)
      rotate_left
      (try simp only [Act.put, List.setIfInBounds_toArray, List.set_cons_zero, List.set_cons_succ])
      refine wpAnyH_take (i := 14) (v := ?_) (by rw [List.getElem?_toArray]; rfl) (by kernel_rfl) (by kernel_rfl) (by kernel_rfl) (fun _ _ _ h => h) (Or.inl ⟨by rfl, ?_⟩) (by assumption) ?_
      rotate_left
      · intro w hSw
        (try dsimp only at hSw)
        go_simp
        (try with_reducible rfl)
      rotate_left
      (try simp only [Act.put, List.setIfInBounds_toArray, List.set_cons_zero, List.set_cons_succ])
      refine wpAnyH_ready (rs := [11]) (by kernel_rfl) (by simp) ?_
      refine AllReadyH.cons (by rw [List.getElem?_toArray]; rfl) (fun K hK => ?_) AllReadyH.nil
      go_simp
      refine (CL.out).mono ?_; rintro e w' ⟨rfl, rfl⟩
      refine hK.out _ _ ?_ (fun hHeld => ?_)
      · assumption
      clear hK K
      (try simp only [Act.put, List.setIfInBounds_toArray, List.set_cons_zero, List.set_cons_succ])
      refine wpAnyH_take (i := 15) (v := ?_) (by rw [List.getElem?_toArray]; rfl) (by kernel_rfl) (by kernel_rfl) (by kernel_rfl) (fun _ _ _ h => h) (Or.inl ⟨by rfl, ?_⟩) (by assumption) ?_
      rotate_left
      · intro w hSw
        (try dsimp only at hSw)
        go_simp
        (try with_reducible rfl)
      rotate_left
      (try simp only [Act.put, List.setIfInBounds_toArray, List.set_cons_zero, List.set_cons_succ])
      refine wpAnyH_take (i := 16) (v := ?_) (by rw [List.getElem?_toArray]; rfl) (by kernel_rfl) (by kernel_rfl) (by kernel_rfl) (fun _ _ _ h => h) (Or.inl ⟨by rfl, ?_⟩) (by assumption) ?_
      rotate_left
      · intro w hSw
        (try dsimp only at hSw)
        go_simp
        (try with_reducible rfl)
      rotate_left
      (try simp only [Act.put, List.setIfInBounds_toArray, List.set_cons_zero, List.set_cons_succ])
      refine wpAnyH_take (i := 17) (v := ?_) (by rw [List.getElem?_toArray]; rfl) (by kernel_rfl) (by kernel_rfl) (by kernel_rfl) (fun _ _ _ h => h) (Or.inl ⟨by rfl, ?_⟩) (by assumption) ?_
      rotate_left
      · intro w hSw
        (try dsimp only at hSw)
        go_simp
        (try with_reducible rfl)
      rotate_left
      (try simp only [Act.put, List.setIfInBounds_toArray, List.set_cons_zero, List.set_cons_succ])
      refine wpAnyH_take (i := 18) (v := ?_) (by rw [List.getElem?_toArray]; rfl) (by kernel_rfl) (by kernel_rfl) (by kernel_rfl) (fun _ _ _ h => h) (Or.inl ⟨by rfl, ?_⟩) (by assumption) ?_
      rotate_left
      · intro w hSw
        (try dsimp only at hSw)
        go_simp
        (try with_reducible rfl)
      rotate_left
      (try simp only [Act.put, List.setIfInBounds_toArray, List.set_cons_zero, List.set_cons_succ])
      refine wpAnyH_take (i := 21) (v := ?_) (by rw [List.getElem?_toArray]; rfl) (by kernel_rfl) (by kernel_rfl) (by kernel_rfl) (fun _ _ _ h => h) (Or.inl ⟨by rfl, ?_⟩) (by assumption) ?_
      rotate_left
      · intro w hSw
        (try dsimp only at hSw)
        go_simp
        (try with_reducible rfl)
      rotate_left
      (try simp only [Act.put, List.setIfInBounds_toArray, List.set_cons_zero, List.set_cons_succ])
      refine wpAnyH_take (i := 22) (v := ?_) (by rw [List.getElem?_toArray]; rfl) (by kernel_rfl) (by kernel_rfl) (by kernel_rfl) (fun _ _ _ h => h) (Or.inl ⟨by rfl, ?_⟩) (by assumption) ?_
      rotate_left
      · intro w hSw
        (try dsimp only at hSw)
        go_simp
        (try with_reducible rfl)
      rotate_left
      (try simp only [Act.put, List.setIfInBounds_toArray, List.set_cons_zero, List.set_cons_succ])
      refine wpAnyH_ready (rs := [19]) (by kernel_rfl) (by simp) ?_
      refine AllReadyH.cons (by rw [List.getElem?_toArray]; rfl) (fun K hK => ?_) AllReadyH.nil
      go_simp
      refine (CE.out).mono ?_; rintro e w' ⟨rfl, rfl⟩
      refine hK.out _ _ ?_ (fun hHeld => ?_)
      · assumption
      clear hK K
      (try simp only [Act.put, List.setIfInBounds_toArray, List.set_cons_zero, List.set_cons_succ])
      refine wpAnyH_take (i := 20) (v := ?_) (by rw [List.getElem?_toArray]; rfl) (by kernel_rfl) (by kernel_rfl) (by kernel_rfl) (fun _ _ _ h => h) (Or.inl ⟨by rfl, ?_⟩) (by assumption) ?_
      rotate_left
      · intro w hSw
        (try dsimp only at hSw)
        go_simp
        (try with_reducible rfl)
      rotate_left
      (try simp only [Act.put, List.setIfInBounds_toArray, List.set_cons_zero, List.set_cons_succ])
      refine wpAnyH_take (i := 23) (v := ?_) (by rw [List.getElem?_toArray]; rfl) (by kernel_rfl) (by kernel_rfl) (by kernel_rfl) (fun _ _ _ h => h) (Or.inl ⟨by rfl, ?_⟩) (by assumption) ?_
      rotate_left
      · intro w hSw
        (try dsimp only at hSw)
        go_simp
        (try with_reducible rfl)
      rotate_left
      (try simp only [Act.put, List.setIfInBounds_toArray, List.set_cons_zero, List.set_cons_succ])
      refine wpAnyH_take (i := 24) (v := undef) (by rw [List.getElem?_toArray]; rfl) (by kernel_rfl) (by kernel_rfl) (by kernel_rfl) (fun _ _ _ h => h) (Or.inr ⟨by kernel_rfl, rfl⟩) (by assumption) ?_
      (try simp only [Act.put, List.setIfInBounds_toArray, List.set_cons_zero, List.set_cons_succ])
      refine wpAnyH_take (i := 25) (v := undef) (by rw [List.getElem?_toArray]; rfl) (by kernel_rfl) (by kernel_rfl) (by kernel_rfl) (fun _ _ _ h => h) (Or.inr ⟨by kernel_rfl, rfl⟩) (by assumption) ?_
      (try simp only [Act.put, List.setIfInBounds_toArray, List.set_cons_zero, List.set_cons_succ])
      refine wpAnyH_take (i := 26) (v := undef) (by rw [List.getElem?_toArray]; rfl) (by kernel_rfl) (by kernel_rfl) (by kernel_rfl) (fun _ _ _ h => h) (Or.inr ⟨by kernel_rfl, rfl⟩) (by assumption) ?_
      (try simp only [Act.put, List.setIfInBounds_toArray, List.set_cons_zero, List.set_cons_succ])
      refine wpAnyH_take (i := 27) (v := undef) (by rw [List.getElem?_toArray]; rfl) (by kernel_rfl) (by kernel_rfl) (by kernel_rfl) (fun _ _ _ h => h) (Or.inr ⟨by kernel_rfl, rfl⟩) (by assumption) ?_
      (try simp only [Act.put, List.setIfInBounds_toArray, List.set_cons_zero, List.set_cons_succ])
      refine wpAnyH_take (i := 28) (v := ?_) (by rw [List.getElem?_toArray]; rfl) (by kernel_rfl) (by kernel_rfl) (by kernel_rfl) (fun _ _ _ h => h) (Or.inl ⟨by rfl, ?_⟩) (by assumption) ?_
      rotate_left
      · intro w hSw
        (try dsimp only at hSw)
        go_simp
        (try with_reducible rfl)
      rotate_left
      (try simp only [Act.put, List.setIfInBounds_toArray, List.set_cons_zero, List.set_cons_succ])
      refine wpAnyH_take (i := 29) (v := ?_) (by rw [List.getElem?_toArray]; rfl) (by kernel_rfl) (by kernel_rfl) (by kernel_rfl) (fun _ _ _ h => h) (Or.inl ⟨by rfl, ?_⟩) (by assumption) ?_
      rotate_left
      · intro w hSw
        (try dsimp only at hSw)
        go_simp
        (try with_reducible rfl)
      rotate_left
      (try simp only [Act.put, List.setIfInBounds_toArray, List.set_cons_zero, List.set_cons_succ])
      refine wpAnyH_take (i := 30) (v := ?_) (by rw [List.getElem?_toArray]; rfl) (by kernel_rfl) (by kernel_rfl) (by kernel_rfl) (fun _ _ _ h => h) (Or.inl ⟨by rfl, ?_⟩) (by assumption) ?_
      rotate_left
      · intro w hSw
        (try dsimp only at hSw)
        go_simp
        (try with_reducible rfl)
      rotate_left
      (try simp only [Act.put, List.setIfInBounds_toArray, List.set_cons_zero, List.set_cons_succ])
      refine wpAnyH_ready (rs := [31]) (by kernel_rfl) (by simp) ?_
      refine AllReadyH.cons (by rw [List.getElem?_toArray]; rfl) (fun K hK => ?_) AllReadyH.nil
      go_simp
      refine hK.out _ _ ?_ (fun hHeld => ?_)
      · go_keep
      clear hK K
      (try simp only [Act.put, List.setIfInBounds_toArray, List.set_cons_zero, List.set_cons_succ])
      refine wpAnyH_take (i := 32) (v := ?_) (by rw [List.getElem?_toArray]; rfl) (by kernel_rfl) (by kernel_rfl) (by kernel_rfl) (fun _ _ _ h => h) (Or.inl ⟨by rfl, ?_⟩) (by assumption) ?_
      rotate_left
      · intro w hSw
        (try dsimp only at hSw)
        go_simp
        (try with_reducible rfl)
      rotate_left
      (try simp only [Act.put, List.setIfInBounds_toArray, List.set_cons_zero, List.set_cons_succ])
      refine wpAnyH_done (by kernel_rfl) ?_ _
      refine NoPanic.normal ?_
      all_goals
        go_wp2_with fail
        (try simp only [Exit.inBlock, Exit.then])
        obtain ⟨k1, k2, k3⟩ := fin.out _ rfl
        refine ⟨rfl, _, res_row2 rfl _ _ (w.heap.size + 1) (.string ByteArray.empty) (.bool false) rfl k1, ?_⟩
        exact ⟨⟨_, rfl, HGQ.out.1, HGQ.out.2⟩, k2, k3⟩
    | some l =>
      by_cases h0 : s5.size = 0
      · obtain rfl := bs_nil s5 h0
        have el : l = [] := HGQ.out.1.symm
        rw [show endOf (some l) = 0 by rw [el]; rfl] at CE
        clear h0 el
        go_wp2_with fail
        go_region_held3 (fun w' => w'.cell? ⟨w.heap.size, 0, none⟩ = some (.string ByteArray.empty) ∧ w'.cell? ⟨w.heap.size, 1, none⟩ = some (.bool true)) (go_keep) (first
          | (go_at_call 18; refine (CF.out).mono ?_; rintro e w' ⟨rfl, rfl⟩)
          | (go_at_call 20; refine (CL.out).mono ?_; rintro e w' ⟨rfl, rfl⟩)
          | (go_at_call 19; refine (CE.out).mono ?_; rintro e w' ⟨rfl, rfl⟩))
        all_goals
          go_wp2_with fail
          (try simp only [Exit.inBlock, Exit.then])
          obtain ⟨k1, k2, k3⟩ := fin.out _ rfl
          refine ⟨rfl, _, res_row2 rfl _ _ (w.heap.size + 1) (.string ByteArray.empty) (.bool true) rfl k1, ?_⟩
          exact ⟨⟨_, rfl, HGQ.out.1, HGQ.out.2⟩, k2, k3⟩
      · have hz : ((s5.size : Int) == 0) = false := beq_eq_false_iff_ne.2 (by omega)
        have ee : endOf (some l) = 5 := by
          have e1 : bs s5 = l := HGQ.out.1
          cases l with
          | nil => exact absurd (by rw [← bs_len, e1]; rfl) h0
          | cons a r => rfl
        rw [ee] at CE
        clear h0 ee
        go_wp2_with fail
        go_region_held3 (fun w' => w'.cell? ⟨w.heap.size, 0, none⟩ = some (.string s5) ∧ w'.cell? ⟨w.heap.size, 1, none⟩ = some (.bool true)) (go_keep) (first
          | (go_at_call 18; refine (CF.out).mono ?_; rintro e w' ⟨rfl, rfl⟩)
          | (go_at_call 20; refine (CL.out).mono ?_; rintro e w' ⟨rfl, rfl⟩)
          | (go_at_call 19; refine (CE.out).mono ?_; rintro e w' ⟨rfl, rfl⟩))
        all_goals
          go_wp2_with fail
          (try simp only [Exit.inBlock, Exit.then])
          obtain ⟨k1, k2, k3⟩ := fin.out _ rfl
          refine ⟨rfl, _, res_row2 rfl _ _ (w.heap.size + 1) (.string s5) (.bool true) rfl k1, ?_⟩
          exact ⟨⟨_, rfl, HGQ.out.1, HGQ.out.2⟩, k2, k3⟩
end Go.Proofs.Ytfhceblmjahgjaa
