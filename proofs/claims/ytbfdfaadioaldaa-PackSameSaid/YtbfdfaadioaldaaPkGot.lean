/- Contract of the laws' own 'got': a thing that is read as it was written is told so. -/
import Derived.Test.YtbfdfaadioaldaaPkIt
import Derived.Test.YtbfdfaadioaldaaPkR4
import Derived.Test.YtbfdfaadioaldaaPkSame
import Derived.Deep.RegionHeld3
namespace Go.Proofs.Ytbfdfaadioaldaa
open Go.ChangeShapes Go.WideShapes Go.ChangeAt Go.RowKit

/-- some truth is told, which is true if what is read is x; the reader has what is left -/
def GotPost (w : World) (p : Nat) (r : Pk.It × Pk.Left) (x : Pk.It) (e : Ending) (w' : World) : Prop := (∃ b : Bool, e = .returned (.bool b) ∧ (r.1 = x → b = true)) ∧ Rdx w' p r.2 ∧ Mod (At p) w w'

theorem Itm.kind (x : Itm) : x.it.kind = x.k % 7 := by
  unfold Itm.it
  have : x.k % 7 < 7 := Nat.mod_lt _ (by omega)
  split
  · simp only [Pk.It.kind]; omega
  · split
    · simp only [Pk.It.kind]; omega
    · split
      · simp only [Pk.It.kind]; omega
      · split
        · simp only [Pk.It.kind]; omega
        · split
          · simp only [Pk.It.kind]; omega
          · split
            · simp only [Pk.It.kind]; omega
            · simp only [Pk.It.kind]; omega

set_option maxRecDepth 100000 in
set_option maxHeartbeats 2000000 in
theorem got_1 (p : Nat) (q : Pk.Left) (x : Itm) (w : World) (h : Rdx w p q) (hx : x.Ok) (hin : x.In (At p) w) (hk : x.k % 7 = 1) :
    Calls Try.prog 17 #[ptr p, x.val] w (GotPost w p (Pk.rd (x.k % 7) q) x.it) := by
  have hit : x.it = .int x.z := by unfold Itm.it; simp only [hk]; rfl
  have hrd : Pk.rd (x.k % 7) q = (.int (Pk.rInt q).1, (Pk.rInt q).2) := by rw [hk]; rfl
  rw [hit, hrd]
  have HM1 : Hid (Mod (At p) w (w.alloc (.cells x.cells 33)).drew) := ((Mod.refl _ _).alloc _).drew
  have hx1 : Rdx (w.alloc (.cells x.cells 33)).drew p q := h.keep (S := fun _ => False) (((Mod.refl _ _).alloc _).drew) (fun h => h)
  have hin1 : x.In (At p) (w.alloc (.cells x.cells 33)).drew := hin.keep (T := fun _ => False) (((Mod.refl _ _).alloc _).drew) (fun _ _ h => h.elim)
  have C := Lib.hid (rint_any p q _ hx1)
  generalize Pk.rInt q = R at *
  obtain ⟨r1, q2⟩ := R
  have hp : p < w.heap.size := h.lt
  have HK : Hid (∀ w3, Mod (At p) (w.alloc (.cells x.cells 33)).drew w3 → w3.cell? ⟨w.heap.size, 2, none⟩ = some (.int .i64 x.z)) := fun w3 m => by
    have hb : Blk (w.alloc (.cells x.cells 33)).drew w.heap.size 33 x.cells := (Blk.new _ _ _).drewN 1
    exact (hb.keep m (by show ¬ w.heap.size = p; omega)).cell 2
  have hkk := hx.k
  obtain ⟨k, n, z, b, s, vl, vm, vt, l, m, t⟩ := x
  simp only [Itm.val, Itm.cells] at *
  have e7 : (k : Int) % 7 = 1 := by omega
  clear h hx hin hx1 hin1 hk hit hrd
  go_enter Try.func17, Try.ntmps17
  go_wp2_with fail
  go_region_held3 (fun w' => w'.cell? ⟨w.heap.size, 2, none⟩ = some (.int .i64 z)) (go_keep) (first
    | (go_at_call 21; refine C.out.mono ?_; rintro e w3 ⟨rfl, hx3, hm3⟩; have hc3 := HK.out w3 hm3))
  all_goals
    go_wp2_with fail
    go_ret
    refine ⟨⟨_, rfl, fun he => ?_⟩, hx3, HM1.out.trans hm3⟩
    injection he with he
    subst he
    simp

set_option maxRecDepth 100000 in
set_option maxHeartbeats 2000000 in
theorem got_2 (p : Nat) (q : Pk.Left) (x : Itm) (w : World) (h : Rdx w p q) (hx : x.Ok) (hin : x.In (At p) w) (hk : x.k % 7 = 2) :
    Calls Try.prog 17 #[ptr p, x.val] w (GotPost w p (Pk.rd (x.k % 7) q) x.it) := by
  have hit : x.it = .truth x.b := by unfold Itm.it; simp only [hk]; rfl
  have hrd : Pk.rd (x.k % 7) q = (.truth (Pk.rTruth q).1, (Pk.rTruth q).2) := by rw [hk]; rfl
  rw [hit, hrd]
  have HM1 : Hid (Mod (At p) w (w.alloc (.cells x.cells 33)).drew) := ((Mod.refl _ _).alloc _).drew
  have hx1 : Rdx (w.alloc (.cells x.cells 33)).drew p q := h.keep (S := fun _ => False) (((Mod.refl _ _).alloc _).drew) (fun h => h)
  have hin1 : x.In (At p) (w.alloc (.cells x.cells 33)).drew := hin.keep (T := fun _ => False) (((Mod.refl _ _).alloc _).drew) (fun _ _ h => h.elim)
  have C := Lib.hid (rtruth_any p q _ hx1)
  generalize Pk.rTruth q = R at *
  obtain ⟨r1, q2⟩ := R
  have hp : p < w.heap.size := h.lt
  have HK : Hid (∀ w3, Mod (At p) (w.alloc (.cells x.cells 33)).drew w3 → w3.cell? ⟨w.heap.size, 3, none⟩ = some (.bool x.b)) := fun w3 m => by
    have hb : Blk (w.alloc (.cells x.cells 33)).drew w.heap.size 33 x.cells := (Blk.new _ _ _).drewN 1
    exact (hb.keep m (by show ¬ w.heap.size = p; omega)).cell 3
  have hkk := hx.k
  obtain ⟨k, n, z, b, s, vl, vm, vt, l, m, t⟩ := x
  simp only [Itm.val, Itm.cells] at *
  have e7 : (k : Int) % 7 = 2 := by omega
  clear h hx hin hx1 hin1 hk hit hrd
  go_enter Try.func17, Try.ntmps17
  go_wp2_with fail
  go_region_held3 (fun w' => w'.cell? ⟨w.heap.size, 3, none⟩ = some (.bool b)) (go_keep) (first
    | (go_at_call 22; refine C.out.mono ?_; rintro e w3 ⟨rfl, hx3, hm3⟩; have hc3 := HK.out w3 hm3))
  all_goals
    go_wp2_with fail
    go_ret
    refine ⟨⟨_, rfl, fun he => ?_⟩, hx3, HM1.out.trans hm3⟩
    injection he with he
    subst he
    simp

set_option maxRecDepth 100000 in
set_option maxHeartbeats 2000000 in
theorem got_3 (p : Nat) (q : Pk.Left) (x : Itm) (w : World) (h : Rdx w p q) (hx : x.Ok) (hin : x.In (At p) w) (hk : x.k % 7 = 3) :
    Calls Try.prog 17 #[ptr p, x.val] w (GotPost w p (Pk.rd (x.k % 7) q) x.it) := by
  have hit : x.it = .text (bs x.s) := by unfold Itm.it; simp only [hk]; rfl
  have hrd : Pk.rd (x.k % 7) q = (.text (Pk.rText q).1, (Pk.rText q).2) := by rw [hk]; rfl
  rw [hit, hrd]
  have HM1 : Hid (Mod (At p) w (w.alloc (.cells x.cells 33)).drew) := ((Mod.refl _ _).alloc _).drew
  have hx1 : Rdx (w.alloc (.cells x.cells 33)).drew p q := h.keep (S := fun _ => False) (((Mod.refl _ _).alloc _).drew) (fun h => h)
  have hin1 : x.In (At p) (w.alloc (.cells x.cells 33)).drew := hin.keep (T := fun _ => False) (((Mod.refl _ _).alloc _).drew) (fun _ _ h => h.elim)
  have C := Lib.hid (rtext_any p q _ hx1)
  generalize Pk.rText q = R at *
  obtain ⟨r1, q2⟩ := R
  have hp : p < w.heap.size := h.lt
  have HK : Hid (∀ w3, Mod (At p) (w.alloc (.cells x.cells 33)).drew w3 → w3.cell? ⟨w.heap.size, 4, none⟩ = some (.string x.s)) := fun w3 m => by
    have hb : Blk (w.alloc (.cells x.cells 33)).drew w.heap.size 33 x.cells := (Blk.new _ _ _).drewN 1
    exact (hb.keep m (by show ¬ w.heap.size = p; omega)).cell 4
  have hkk := hx.k
  obtain ⟨k, n, z, b, s, vl, vm, vt, l, m, t⟩ := x
  simp only [Itm.val, Itm.cells] at *
  have e7 : (k : Int) % 7 = 3 := by omega
  clear h hx hin hx1 hin1 hk hit hrd
  go_enter Try.func17, Try.ntmps17
  go_wp2_with fail
  go_region_held3 (fun w' => w'.cell? ⟨w.heap.size, 4, none⟩ = some (.string s)) (go_keep) (first
    | (go_at_call 23; refine C.out.mono ?_; rintro e w3 ⟨⟨s3, rfl, hs3, hl3⟩, hx3, hm3⟩; have HS3 := Lib.hid hs3; clear hs3; have hc3 := HK.out w3 hm3))
  all_goals
    go_wp2_with fail
    go_ret
    refine ⟨⟨_, rfl, fun he => ?_⟩, hx3, HM1.out.trans hm3⟩
    injection he with he
    have e2 : s3 = s := bs_inj _ _ (HS3.out.trans he)
    subst e2
    simp

set_option maxRecDepth 100000 in
set_option maxHeartbeats 2000000 in
theorem got_4 (p : Nat) (q : Pk.Left) (x : Itm) (w : World) (h : Rdx w p q) (hx : x.Ok) (hin : x.In (At p) w) (hk : x.k % 7 = 4) :
    Calls Try.prog 17 #[ptr p, x.val] w (GotPost w p (Pk.rd (x.k % 7) q) x.it) := by
  have hit : x.it = .nums x.l := by unfold Itm.it; simp only [hk]; rfl
  have hrd : Pk.rd (x.k % 7) q = (.nums (Pk.rList Pk.rNum q).1, (Pk.rList Pk.rNum q).2) := by rw [hk]; rfl
  rw [hit, hrd]
  have HM1 : Hid (Mod (At p) w (w.alloc (.cells x.cells 33)).drew) := ((Mod.refl _ _).alloc _).drew
  have hx1 : Rdx (w.alloc (.cells x.cells 33)).drew p q := h.keep (S := fun _ => False) (((Mod.refl _ _).alloc _).drew) (fun h => h)
  have hin1 : x.In (At p) (w.alloc (.cells x.cells 33)).drew := hin.keep (T := fun _ => False) (((Mod.refl _ _).alloc _).drew) (fun _ _ h => h.elim)
  have C := Lib.hid (rnums_any p q _ hx1)
  generalize Pk.rList Pk.rNum q = R at *
  obtain ⟨r1, q2⟩ := R
  have hp : p < w.heap.size := h.lt
  have HK : Hid (∀ w3, Mod (At p) (w.alloc (.cells x.cells 33)).drew w3 → w3.cell? ⟨w.heap.size, 5, none⟩ = some (x.vl)) := fun w3 m => by
    have hb : Blk (w.alloc (.cells x.cells 33)).drew w.heap.size 33 x.cells := (Blk.new _ _ _).drewN 1
    exact (hb.keep m (by show ¬ w.heap.size = p; omega)).cell 5
  have HS : Hid (∀ (w3 : World) (v3 : Value) (ys : List Nat), Mod (At p) (w.alloc (.cells x.cells 33)).drew w3 → w3.ownsRow (w.alloc (.cells x.cells 33)).drew.heap.size 28 1 v3 ys.length (ys.map fN) → ys.length ≤ 1000000000 →
      Calls Try.prog 50 #[v3, x.vl] w3 (TPost w3 (ys = x.l))) := fun w3 v3 ys m ho hl =>
    same_num _ (At p) v3 (x.vl) ys (x.l) w3 (Row.of_own ho) (hin1.l.keep m (fun _ _ hk => hk)) hl (by have := hx.l1; omega)
  have hkk := hx.k
  obtain ⟨k, n, z, b, s, vl, vm, vt, l, m, t⟩ := x
  simp only [Itm.val, Itm.cells] at *
  have e7 : (k : Int) % 7 = 4 := by omega
  clear h hx hin hx1 hin1 hk hit hrd
  go_enter Try.func17, Try.ntmps17
  go_wp2_with fail
  go_region_held3 (fun w' => w'.cell? ⟨w.heap.size, 5, none⟩ = some (vl)) (go_keep) (first
    | (go_at_call 24; refine C.out.mono ?_; rintro e w3 ⟨⟨v3, ys, rfl, ho, hy, hl3⟩, hx3, hm3⟩; have hc3 := HK.out w3 hm3; have C3 := Lib.hid (HS.out w3 v3 ys hm3 ho hl3); have HY := Lib.hid hy; have HO := Lib.hid ho; clear ho hy)
    | (go_at_call 50; refine C3.out.mono ?_; rintro e w4 ⟨⟨bb, rfl, hbb⟩, d4⟩; have hc4 := (d4.cell' ⟨w.heap.size, 5, none⟩).trans hc3))
  all_goals
    go_wp2_with fail
    go_ret
    refine ⟨⟨bb, rfl, fun he => hbb ?_⟩, hx3.below (Drawn.below (Below.refl _ _) d4), (HM1.out.trans hm3).seq (T := fun _ => False) (Mod.of_below (Drawn.below (Below.refl _ _) d4)) (fun _ h => h.elim)⟩
    injection he with he
    have := HY.out
    rw [List.map_id'] at this
    exact this.trans he

set_option maxRecDepth 100000 in
set_option maxHeartbeats 2000000 in
theorem got_5 (p : Nat) (q : Pk.Left) (x : Itm) (w : World) (h : Rdx w p q) (hx : x.Ok) (hin : x.In (At p) w) (hk : x.k % 7 = 5) :
    Calls Try.prog 17 #[ptr p, x.val] w (GotPost w p (Pk.rd (x.k % 7) q) x.it) := by
  have hit : x.it = .ints x.m := by unfold Itm.it; simp only [hk]; rfl
  have hrd : Pk.rd (x.k % 7) q = (.ints (Pk.rList Pk.rInt q).1, (Pk.rList Pk.rInt q).2) := by rw [hk]; rfl
  rw [hit, hrd]
  have HM1 : Hid (Mod (At p) w (w.alloc (.cells x.cells 33)).drew) := ((Mod.refl _ _).alloc _).drew
  have hx1 : Rdx (w.alloc (.cells x.cells 33)).drew p q := h.keep (S := fun _ => False) (((Mod.refl _ _).alloc _).drew) (fun h => h)
  have hin1 : x.In (At p) (w.alloc (.cells x.cells 33)).drew := hin.keep (T := fun _ => False) (((Mod.refl _ _).alloc _).drew) (fun _ _ h => h.elim)
  have C := Lib.hid (rints_any p q _ hx1)
  generalize Pk.rList Pk.rInt q = R at *
  obtain ⟨r1, q2⟩ := R
  have hp : p < w.heap.size := h.lt
  have HK : Hid (∀ w3, Mod (At p) (w.alloc (.cells x.cells 33)).drew w3 → w3.cell? ⟨w.heap.size, 6, none⟩ = some (x.vm)) := fun w3 m => by
    have hb : Blk (w.alloc (.cells x.cells 33)).drew w.heap.size 33 x.cells := (Blk.new _ _ _).drewN 1
    exact (hb.keep m (by show ¬ w.heap.size = p; omega)).cell 6
  have HS : Hid (∀ (w3 : World) (v3 : Value) (ys : List Int), Mod (At p) (w.alloc (.cells x.cells 33)).drew w3 → w3.ownsRow (w.alloc (.cells x.cells 33)).drew.heap.size 2 1 v3 ys.length (ys.map fI) → ys.length ≤ 1000000000 →
      Calls Try.prog 52 #[v3, x.vm] w3 (TPost w3 (ys = x.m))) := fun w3 v3 ys m ho hl =>
    same_int _ (At p) v3 (x.vm) ys (x.m) w3 (Row.of_own ho) (hin1.m.keep m (fun _ _ hk => hk)) hl (by have := hx.m1; omega)
  have hkk := hx.k
  obtain ⟨k, n, z, b, s, vl, vm, vt, l, m, t⟩ := x
  simp only [Itm.val, Itm.cells] at *
  have e7 : (k : Int) % 7 = 5 := by omega
  clear h hx hin hx1 hin1 hk hit hrd
  go_enter Try.func17, Try.ntmps17
  go_wp2_with fail
  go_region_held3 (fun w' => w'.cell? ⟨w.heap.size, 6, none⟩ = some (vm)) (go_keep) (first
    | (go_at_call 25; refine C.out.mono ?_; rintro e w3 ⟨⟨v3, ys, rfl, ho, hy, hl3⟩, hx3, hm3⟩; have hc3 := HK.out w3 hm3; have C3 := Lib.hid (HS.out w3 v3 ys hm3 ho hl3); have HY := Lib.hid hy; have HO := Lib.hid ho; clear ho hy)
    | (go_at_call 52; refine C3.out.mono ?_; rintro e w4 ⟨⟨bb, rfl, hbb⟩, d4⟩; have hc4 := (d4.cell' ⟨w.heap.size, 6, none⟩).trans hc3))
  all_goals
    go_wp2_with fail
    go_ret
    refine ⟨⟨bb, rfl, fun he => hbb ?_⟩, hx3.below (Drawn.below (Below.refl _ _) d4), (HM1.out.trans hm3).seq (T := fun _ => False) (Mod.of_below (Drawn.below (Below.refl _ _) d4)) (fun _ h => h.elim)⟩
    injection he with he
    have := HY.out
    rw [List.map_id'] at this
    exact this.trans he

set_option maxRecDepth 100000 in
set_option maxHeartbeats 2000000 in
theorem got_6 (p : Nat) (q : Pk.Left) (x : Itm) (w : World) (h : Rdx w p q) (hx : x.Ok) (hin : x.In (At p) w) (hk : x.k % 7 = 6) :
    Calls Try.prog 17 #[ptr p, x.val] w (GotPost w p (Pk.rd (x.k % 7) q) x.it) := by
  have hit : x.it = .texts (x.t.map bs) := by unfold Itm.it; simp only [hk]; rfl
  have hrd : Pk.rd (x.k % 7) q = (.texts (Pk.rList Pk.rText q).1, (Pk.rList Pk.rText q).2) := by rw [hk]; rfl
  rw [hit, hrd]
  have HM1 : Hid (Mod (At p) w (w.alloc (.cells x.cells 33)).drew) := ((Mod.refl _ _).alloc _).drew
  have hx1 : Rdx (w.alloc (.cells x.cells 33)).drew p q := h.keep (S := fun _ => False) (((Mod.refl _ _).alloc _).drew) (fun h => h)
  have hin1 : x.In (At p) (w.alloc (.cells x.cells 33)).drew := hin.keep (T := fun _ => False) (((Mod.refl _ _).alloc _).drew) (fun _ _ h => h.elim)
  have C := Lib.hid (rtexts_any p q _ hx1)
  generalize Pk.rList Pk.rText q = R at *
  obtain ⟨r1, q2⟩ := R
  have hp : p < w.heap.size := h.lt
  have HK : Hid (∀ w3, Mod (At p) (w.alloc (.cells x.cells 33)).drew w3 → w3.cell? ⟨w.heap.size, 7, none⟩ = some (x.vt)) := fun w3 m => by
    have hb : Blk (w.alloc (.cells x.cells 33)).drew w.heap.size 33 x.cells := (Blk.new _ _ _).drewN 1
    exact (hb.keep m (by show ¬ w.heap.size = p; omega)).cell 7
  have HS : Hid (∀ (w3 : World) (v3 : Value) (ys : List ByteArray), Mod (At p) (w.alloc (.cells x.cells 33)).drew w3 → w3.ownsRow (w.alloc (.cells x.cells 33)).drew.heap.size 9 1 v3 ys.length (ys.map fS) → ys.length ≤ 1000000000 →
      Calls Try.prog 54 #[v3, x.vt] w3 (TPost w3 (ys = x.t))) := fun w3 v3 ys m ho hl =>
    same_text _ (At p) v3 (x.vt) ys (x.t) w3 (Row.of_own ho) (hin1.t.keep m (fun _ _ hk => hk)) hl (by have := hx.t1; omega)
  have hkk := hx.k
  obtain ⟨k, n, z, b, s, vl, vm, vt, l, m, t⟩ := x
  simp only [Itm.val, Itm.cells] at *
  have e7 : (k : Int) % 7 = 6 := by omega
  clear h hx hin hx1 hin1 hk hit hrd
  go_enter Try.func17, Try.ntmps17
  go_wp2_with fail
  go_region_held3 (fun w' => w'.cell? ⟨w.heap.size, 7, none⟩ = some (vt)) (go_keep) (first
    | (go_at_call 26; refine C.out.mono ?_; rintro e w3 ⟨⟨v3, ys, rfl, ho, hy, hl3⟩, hx3, hm3⟩; have hc3 := HK.out w3 hm3; have C3 := Lib.hid (HS.out w3 v3 ys hm3 ho hl3); have HY := Lib.hid hy; have HO := Lib.hid ho; clear ho hy)
    | (go_at_call 54; refine C3.out.mono ?_; rintro e w4 ⟨⟨bb, rfl, hbb⟩, d4⟩; have hc4 := (d4.cell' ⟨w.heap.size, 7, none⟩).trans hc3))
  all_goals
    go_wp2_with fail
    go_ret
    refine ⟨⟨bb, rfl, fun he => hbb ?_⟩, hx3.below (Drawn.below (Below.refl _ _) d4), (HM1.out.trans hm3).seq (T := fun _ => False) (Mod.of_below (Drawn.below (Below.refl _ _) d4)) (fun _ h => h.elim)⟩
    injection he with he
    exact (List.map_inj_right (fun a b e => bs_inj a b e)).1 (HY.out.trans he)

set_option maxRecDepth 100000 in
set_option maxHeartbeats 2000000 in
theorem got_0 (p : Nat) (q : Pk.Left) (x : Itm) (w : World) (h : Rdx w p q) (hx : x.Ok) (hin : x.In (At p) w) (hk : x.k % 7 = 0) :
    Calls Try.prog 17 #[ptr p, x.val] w (GotPost w p (Pk.rd (x.k % 7) q) x.it) := by
  have hit : x.it = .num x.n := by unfold Itm.it; simp only [hk]; rfl
  have hrd : Pk.rd (x.k % 7) q = (.num (Pk.rNum q).1, (Pk.rNum q).2) := by rw [hk]; rfl
  rw [hit, hrd]
  have HM1 : Hid (Mod (At p) w (w.alloc (.cells x.cells 33)).drew) := ((Mod.refl _ _).alloc _).drew
  have hx1 : Rdx (w.alloc (.cells x.cells 33)).drew p q := h.keep (S := fun _ => False) (((Mod.refl _ _).alloc _).drew) (fun h => h)
  have hin1 : x.In (At p) (w.alloc (.cells x.cells 33)).drew := hin.keep (T := fun _ => False) (((Mod.refl _ _).alloc _).drew) (fun _ _ h => h.elim)
  have C := Lib.hid (rnum_any p q _ hx1)
  generalize Pk.rNum q = R at *
  obtain ⟨r1, q2⟩ := R
  have hp : p < w.heap.size := h.lt
  have HK : Hid (∀ w3, Mod (At p) (w.alloc (.cells x.cells 33)).drew w3 → w3.cell? ⟨w.heap.size, 1, none⟩ = some (.int .u64 x.n)) := fun w3 m => by
    have hb : Blk (w.alloc (.cells x.cells 33)).drew w.heap.size 33 x.cells := (Blk.new _ _ _).drewN 1
    exact (hb.keep m (by show ¬ w.heap.size = p; omega)).cell 1
  have hkk := hx.k
  obtain ⟨k, n, z, b, s, vl, vm, vt, l, m, t⟩ := x
  simp only [Itm.val, Itm.cells] at *
  have e7 : (k : Int) % 7 = 0 := by omega
  clear h hx hin hx1 hin1 hk hit hrd
  go_enter Try.func17, Try.ntmps17
  go_wp2_with fail
  go_region_held3 (fun w' => w'.cell? ⟨w.heap.size, 1, none⟩ = some (.int .u64 n)) (go_keep) (first
    | (go_at_call 27; refine C.out.mono ?_; rintro e w3 ⟨rfl, hx3, hm3⟩; have hc3 := HK.out w3 hm3))
  all_goals
    go_wp2_with fail
    go_ret
    refine ⟨⟨_, rfl, fun he => ?_⟩, hx3, HM1.out.trans hm3⟩
    injection he with he
    subst he
    simp

theorem got_any (p : Nat) (q : Pk.Left) (x : Itm) (w : World) (h : Rdx w p q) (hx : x.Ok) (hin : x.In (At p) w) :
    Calls Try.prog 17 #[ptr p, x.val] w (GotPost w p (Pk.rd (x.k % 7) q) x.it) := by
  have hc : x.k % 7 = 0 ∨ x.k % 7 = 1 ∨ x.k % 7 = 2 ∨ x.k % 7 = 3 ∨ x.k % 7 = 4 ∨ x.k % 7 = 5 ∨ x.k % 7 = 6 := by omega
  rcases hc with hk | hk | hk | hk | hk | hk | hk
  · exact got_0 p q x w h hx hin hk
  · exact got_1 p q x w h hx hin hk
  · exact got_2 p q x w h hx hin hk
  · exact got_3 p q x w h hx hin hk
  · exact got_4 p q x w h hx hin hk
  · exact got_5 p q x w h hx hin hk
  · exact got_6 p q x w h hx hin hk
end Go.Proofs.Ytbfdfaadioaldaa
