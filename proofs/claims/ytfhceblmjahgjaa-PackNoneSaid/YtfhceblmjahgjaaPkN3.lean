/- Contract of the laws' own 'writes' at a writer that is none: it answers the document's bytes, and changes nothing. -/
import Derived.Test.YtfhceblmjahgjaaPkN2
import Derived.Test.YtfhceblmjahgjaaPkIt
namespace Go.Proofs.Ytfhceblmjahgjaa
open Go.ChangeShapes Go.WideShapes Go.ChangeAt Go.RowKit

/-- some text is returned, and nothing old has changed -/
def NwPost (w : World) (e : Ending) (w' : World) : Prop := (∃ s, e = .returned (.string s)) ∧ Below w.heap.size w w'

set_option maxRecDepth 100000 in
set_option maxHeartbeats 2000000 in
theorem nwrites_1 (v : Value) (x : Itm) (w : World) (h : NoWr w v) (hx : x.Ok) (S : Nat → Prop) (hin : x.In S w) (hk : x.k % 7 = 1) :
    Calls Try.prog 13 #[v, x.val] w (NwPost w) := by
  have he : x.enc = Pk.int x.z := by unfold Itm.enc Itm.it; simp only [hk]; rfl
  have hlen := x.enc_le hx
  rw [he] at hlen
  have hin2 : x.In S (w.alloc (.cells x.cells 33)) := hin.alloc _
  have h2 : NoWr (w.alloc (.cells x.cells 33)) v := h.below (below_alloc _ _)
  have C1 := Lib.hid (nwint v x.z _ h2)
  have C2 : Hid (Calls Try.prog 38 #[.int .i64 x.z] (w.alloc (.cells x.cells 33)) (BPost (w.alloc (.cells x.cells 33)) (Pk.int x.z))) := by
    exact fint_any x.z _ hx.z
  have HW : Hid (Below w.heap.size w (w.alloc (.cells x.cells 33))) := below_alloc _ _
  have hkk := hx.k
  obtain ⟨k, n, z, b, s, vl, vm, vt, l, m, t⟩ := x
  simp only [Itm.val, Itm.cells] at *
  have e7 : (k : Int) % 7 = 1 := by omega
  clear h hx hin hin2 he hk hlen h2
  go_enter Try.func13, Try.ntmps13
  go_wp2_with fail
  refine C1.out.mono ?_
  rintro e w1 ⟨rfl, rfl⟩
  go_wp2_with fail
  refine C2.out.mono ?_
  rintro e w2 ⟨⟨s2, rfl, _⟩, b2⟩
  go_wp2_with fail
  go_ret
  exact ⟨⟨_, rfl⟩, below_seq HW.out b2⟩

set_option maxRecDepth 100000 in
set_option maxHeartbeats 2000000 in
theorem nwrites_2 (v : Value) (x : Itm) (w : World) (h : NoWr w v) (hx : x.Ok) (S : Nat → Prop) (hin : x.In S w) (hk : x.k % 7 = 2) :
    Calls Try.prog 13 #[v, x.val] w (NwPost w) := by
  have he : x.enc = Pk.truth x.b := by unfold Itm.enc Itm.it; simp only [hk]; rfl
  have hlen := x.enc_le hx
  rw [he] at hlen
  have hin2 : x.In S (w.alloc (.cells x.cells 33)) := hin.alloc _
  have h2 : NoWr (w.alloc (.cells x.cells 33)) v := h.below (below_alloc _ _)
  have C1 := Lib.hid (nwtruth v x.b _ h2)
  have C2 : Hid (Calls Try.prog 39 #[.bool x.b] (w.alloc (.cells x.cells 33)) (BPost (w.alloc (.cells x.cells 33)) (Pk.truth x.b))) := by
    exact ftruth_any x.b _
  have HW : Hid (Below w.heap.size w (w.alloc (.cells x.cells 33))) := below_alloc _ _
  have hkk := hx.k
  obtain ⟨k, n, z, b, s, vl, vm, vt, l, m, t⟩ := x
  simp only [Itm.val, Itm.cells] at *
  have e7 : (k : Int) % 7 = 2 := by omega
  clear h hx hin hin2 he hk hlen h2
  go_enter Try.func13, Try.ntmps13
  go_wp2_with fail
  refine C1.out.mono ?_
  rintro e w1 ⟨rfl, rfl⟩
  go_wp2_with fail
  refine C2.out.mono ?_
  rintro e w2 ⟨⟨s2, rfl, _⟩, b2⟩
  go_wp2_with fail
  go_ret
  exact ⟨⟨_, rfl⟩, below_seq HW.out b2⟩

set_option maxRecDepth 100000 in
set_option maxHeartbeats 2000000 in
theorem nwrites_3 (v : Value) (x : Itm) (w : World) (h : NoWr w v) (hx : x.Ok) (S : Nat → Prop) (hin : x.In S w) (hk : x.k % 7 = 3) :
    Calls Try.prog 13 #[v, x.val] w (NwPost w) := by
  have he : x.enc = txt x.s := by unfold Itm.enc Itm.it; simp only [hk]; rfl
  have hlen := x.enc_le hx
  rw [he] at hlen
  have hin2 : x.In S (w.alloc (.cells x.cells 33)) := hin.alloc _
  have h2 : NoWr (w.alloc (.cells x.cells 33)) v := h.below (below_alloc _ _)
  have C1 := Lib.hid (nwtext v x.s _ h2)
  have C2 : Hid (Calls Try.prog 40 #[.string x.s] (w.alloc (.cells x.cells 33)) (BPost (w.alloc (.cells x.cells 33)) (txt x.s))) := by
    exact ftext_any x.s _ (by have := hx.s1; omega)
  have HW : Hid (Below w.heap.size w (w.alloc (.cells x.cells 33))) := below_alloc _ _
  have hkk := hx.k
  obtain ⟨k, n, z, b, s, vl, vm, vt, l, m, t⟩ := x
  simp only [Itm.val, Itm.cells] at *
  have e7 : (k : Int) % 7 = 3 := by omega
  clear h hx hin hin2 he hk hlen h2
  go_enter Try.func13, Try.ntmps13
  go_wp2_with fail
  refine C1.out.mono ?_
  rintro e w1 ⟨rfl, rfl⟩
  go_wp2_with fail
  refine C2.out.mono ?_
  rintro e w2 ⟨⟨s2, rfl, _⟩, b2⟩
  go_wp2_with fail
  go_ret
  exact ⟨⟨_, rfl⟩, below_seq HW.out b2⟩

set_option maxRecDepth 100000 in
set_option maxHeartbeats 2000000 in
theorem nwrites_4 (v : Value) (x : Itm) (w : World) (h : NoWr w v) (hx : x.Ok) (S : Nat → Prop) (hin : x.In S w) (hk : x.k % 7 = 4) :
    Calls Try.prog 13 #[v, x.val] w (NwPost w) := by
  have he : x.enc = Pk.list Pk.num x.l := by unfold Itm.enc Itm.it; simp only [hk]; rfl
  have hlen := x.enc_le hx
  rw [he] at hlen
  have hin2 : x.In S (w.alloc (.cells x.cells 33)) := hin.alloc _
  have h2 : NoWr (w.alloc (.cells x.cells 33)) v := h.below (below_alloc _ _)
  have C1 := Lib.hid (nwnums v x.vl x.l _ h2 S hin2.l (by have := hx.l1; omega))
  have C2 : Hid (Calls Try.prog 41 #[x.vl] (w.alloc (.cells x.cells 33)) (BPost (w.alloc (.cells x.cells 33)) (Pk.list Pk.num x.l))) := by
    exact fnums_any S x.vl x.l _ hin2.l hx.l (by have := hx.l1; omega) (by omega)
  have HW : Hid (Below w.heap.size w (w.alloc (.cells x.cells 33))) := below_alloc _ _
  have hkk := hx.k
  obtain ⟨k, n, z, b, s, vl, vm, vt, l, m, t⟩ := x
  simp only [Itm.val, Itm.cells] at *
  have e7 : (k : Int) % 7 = 4 := by omega
  clear h hx hin hin2 he hk hlen h2
  go_enter Try.func13, Try.ntmps13
  go_wp2_with fail
  refine C1.out.mono ?_
  rintro e w1 ⟨rfl, rfl⟩
  go_wp2_with fail
  refine C2.out.mono ?_
  rintro e w2 ⟨⟨s2, rfl, _⟩, b2⟩
  go_wp2_with fail
  go_ret
  exact ⟨⟨_, rfl⟩, below_seq HW.out b2⟩

set_option maxRecDepth 100000 in
set_option maxHeartbeats 2000000 in
theorem nwrites_5 (v : Value) (x : Itm) (w : World) (h : NoWr w v) (hx : x.Ok) (S : Nat → Prop) (hin : x.In S w) (hk : x.k % 7 = 5) :
    Calls Try.prog 13 #[v, x.val] w (NwPost w) := by
  have he : x.enc = Pk.list Pk.int x.m := by unfold Itm.enc Itm.it; simp only [hk]; rfl
  have hlen := x.enc_le hx
  rw [he] at hlen
  have hin2 : x.In S (w.alloc (.cells x.cells 33)) := hin.alloc _
  have h2 : NoWr (w.alloc (.cells x.cells 33)) v := h.below (below_alloc _ _)
  have C1 := Lib.hid (nwints v x.vm x.m _ h2 S hin2.m (by have := hx.m1; omega))
  have C2 : Hid (Calls Try.prog 42 #[x.vm] (w.alloc (.cells x.cells 33)) (BPost (w.alloc (.cells x.cells 33)) (Pk.list Pk.int x.m))) := by
    exact fints_any S x.vm x.m _ hin2.m hx.m (by have := hx.m1; omega) (by omega)
  have HW : Hid (Below w.heap.size w (w.alloc (.cells x.cells 33))) := below_alloc _ _
  have hkk := hx.k
  obtain ⟨k, n, z, b, s, vl, vm, vt, l, m, t⟩ := x
  simp only [Itm.val, Itm.cells] at *
  have e7 : (k : Int) % 7 = 5 := by omega
  clear h hx hin hin2 he hk hlen h2
  go_enter Try.func13, Try.ntmps13
  go_wp2_with fail
  refine C1.out.mono ?_
  rintro e w1 ⟨rfl, rfl⟩
  go_wp2_with fail
  refine C2.out.mono ?_
  rintro e w2 ⟨⟨s2, rfl, _⟩, b2⟩
  go_wp2_with fail
  go_ret
  exact ⟨⟨_, rfl⟩, below_seq HW.out b2⟩

set_option maxRecDepth 100000 in
set_option maxHeartbeats 2000000 in
theorem nwrites_6 (v : Value) (x : Itm) (w : World) (h : NoWr w v) (hx : x.Ok) (S : Nat → Prop) (hin : x.In S w) (hk : x.k % 7 = 6) :
    Calls Try.prog 13 #[v, x.val] w (NwPost w) := by
  have he : x.enc = Pk.list txt x.t := by unfold Itm.enc Itm.it; simp only [hk]; exact list_txt _
  have hlen := x.enc_le hx
  rw [he] at hlen
  have hin2 : x.In S (w.alloc (.cells x.cells 33)) := hin.alloc _
  have h2 : NoWr (w.alloc (.cells x.cells 33)) v := h.below (below_alloc _ _)
  have C1 := Lib.hid (nwtexts v x.vt x.t _ h2 S hin2.t (by have := hx.t1; omega))
  have C2 : Hid (Calls Try.prog 43 #[x.vt] (w.alloc (.cells x.cells 33)) (BPost (w.alloc (.cells x.cells 33)) (Pk.list txt x.t))) := by
    exact ftexts_any S x.vt x.t _ hin2.t (fun _ _ => trivial) (by have := hx.t1; omega) (by omega)
  have HW : Hid (Below w.heap.size w (w.alloc (.cells x.cells 33))) := below_alloc _ _
  have hkk := hx.k
  obtain ⟨k, n, z, b, s, vl, vm, vt, l, m, t⟩ := x
  simp only [Itm.val, Itm.cells] at *
  have e7 : (k : Int) % 7 = 6 := by omega
  clear h hx hin hin2 he hk hlen h2
  go_enter Try.func13, Try.ntmps13
  go_wp2_with fail
  refine C1.out.mono ?_
  rintro e w1 ⟨rfl, rfl⟩
  go_wp2_with fail
  refine C2.out.mono ?_
  rintro e w2 ⟨⟨s2, rfl, _⟩, b2⟩
  go_wp2_with fail
  go_ret
  exact ⟨⟨_, rfl⟩, below_seq HW.out b2⟩

set_option maxRecDepth 100000 in
set_option maxHeartbeats 2000000 in
theorem nwrites_0 (v : Value) (x : Itm) (w : World) (h : NoWr w v) (hx : x.Ok) (S : Nat → Prop) (hin : x.In S w) (hk : x.k % 7 = 0) :
    Calls Try.prog 13 #[v, x.val] w (NwPost w) := by
  have he : x.enc = Pk.num x.n := by unfold Itm.enc Itm.it; simp only [hk]; rfl
  have hlen := x.enc_le hx
  rw [he] at hlen
  have hin2 : x.In S (w.alloc (.cells x.cells 33)) := hin.alloc _
  have h2 : NoWr (w.alloc (.cells x.cells 33)) v := h.below (below_alloc _ _)
  have C1 := Lib.hid (nwnum v (x.n : Int) _ h2)
  have C2 : Hid (Calls Try.prog 44 #[.int .u64 x.n] (w.alloc (.cells x.cells 33)) (BPost (w.alloc (.cells x.cells 33)) (Pk.num x.n))) := by
    exact fnum_any x.n _ hx.n
  have HW : Hid (Below w.heap.size w (w.alloc (.cells x.cells 33))) := below_alloc _ _
  have hkk := hx.k
  obtain ⟨k, n, z, b, s, vl, vm, vt, l, m, t⟩ := x
  simp only [Itm.val, Itm.cells] at *
  have e7 : (k : Int) % 7 = 0 := by omega
  clear h hx hin hin2 he hk hlen h2
  go_enter Try.func13, Try.ntmps13
  go_wp2_with fail
  refine C1.out.mono ?_
  rintro e w1 ⟨rfl, rfl⟩
  go_wp2_with fail
  refine C2.out.mono ?_
  rintro e w2 ⟨⟨s2, rfl, _⟩, b2⟩
  go_wp2_with fail
  go_ret
  exact ⟨⟨_, rfl⟩, below_seq HW.out b2⟩

theorem nwrites_any (v : Value) (x : Itm) (w : World) (h : NoWr w v) (hx : x.Ok) (S : Nat → Prop) (hin : x.In S w) :
    Calls Try.prog 13 #[v, x.val] w (NwPost w) := by
  have hc : x.k % 7 = 0 ∨ x.k % 7 = 1 ∨ x.k % 7 = 2 ∨ x.k % 7 = 3 ∨ x.k % 7 = 4 ∨ x.k % 7 = 5 ∨ x.k % 7 = 6 := by omega
  rcases hc with hk | hk | hk | hk | hk | hk | hk
  · exact nwrites_0 v x w h hx S hin hk
  · exact nwrites_1 v x w h hx S hin hk
  · exact nwrites_2 v x w h hx S hin hk
  · exact nwrites_3 v x w h hx S hin hk
  · exact nwrites_4 v x w h hx S hin hk
  · exact nwrites_5 v x w h hx S hin hk
  · exact nwrites_6 v x w h hx S hin hk
end Go.Proofs.Ytfhceblmjahgjaa
