/- The walk of the law PackNone: it answers true. -/
import Derived.Test.YtfhceblmjahgjaaPkN4
import Derived.Test.YtfhceblmjahgjaaPkHead
import Derived.Test.YtfhceblmjahgjaaPkGreat
import Derived.StillTailTactics
namespace Go.Proofs.Ytfhceblmjahgjaa.packNone
open Go.ChangeShapes Go.WideShapes Go.ChangeAt Go.RowKit

theorem own : ownKnob Try.prog.godebug = none := by kernel_rfl
theorem laidOut : laidOutB Try.prog = true := by kernel_rfl
abbrev F := 7
/-- the Item's block -/
abbrev O (x : Itm) : Obj := .cells x.cells 33

theorem its_one (x : Itm) (w : World) (hin : x.In (fun _ => False) w) : Its (fun _ => False) ((w.alloc (O x)).alloc (O x)) (.slice (some ⟨w.heap.size + 1, 0, none⟩) 1 1) [x] := by
  refine ⟨.inr ⟨⟨w.heap.size + 1, 0, none⟩, 1, rfl, .inr ⟨by simp, id⟩, fun i hi j c hc => ?_⟩, fun y hy => ?_⟩
  · have hi0 : i = 0 := by simp at hi; omega
    subst hi0
    have e : (⟨w.heap.size + 1, 0, none⟩ : Addr).add (0 * 8 + j) = ⟨w.heap.size + 1, j, none⟩ := by unfold Addr.add; split <;> simp_all
    have hb := Blk.new (w.alloc (O x)) 33 x.cells
    have hs : (w.alloc (O x)).heap.size = w.heap.size + 1 := by simp
    rw [hs] at hb
    rw [e]
    exact (hb.cell j).trans hc
  · have : y = x := by simpa using hy
    subst this
    exact (hin.alloc _).alloc _

/-- what stays through the rounds -/
structure Inv (p q : Nat) (x : Itm) (w wr : World) : Prop where
  low : Below p w wr
  item : Blk wr p 33 x.cells
  ins : x.In (fun _ => False) wr
  wz : Blk wr q 53 #[.bool false, .slice none 0 0]
  ws : Blk wr (q + 1) 25 #[.pointer none, .pointer (some ⟨q, 0, none⟩)]
  rz : Blk wr (q + 1 + 1) 56 #[.bool false, .bool false, .string ⟨#[]⟩]
  rs : Blk wr (q + 1 + 1 + 1) 36 #[.pointer none, .pointer (some ⟨q + 1 + 1, 0, none⟩)]
theorem Inv.below {p q : Nat} {x : Itm} {w wr w' : World} (h : Inv p q x w wr) (b : Below wr.heap.size wr w') : Inv p q x w w' := by
  have k : ∀ {g t cs}, Blk wr g t cs → Blk w' g t cs := fun hb => hb.keep (S := fun _ => False) (Mod.of_below b) id
  exact ⟨h.low.trans (b.mono (by have := h.item.lt; omega)), k h.item, h.ins.below b, k h.wz, k h.ws, k h.rz, k h.rs⟩

set_option maxRecDepth 100000 in
set_option maxHeartbeats 8000000 in
theorem walk (x : Itm) (hx : x.Raw) (k : Nat) (hk : k ≤ 255) (w : World) (hin : x.In (fun _ => False) w) :
    Calls Try.prog F #[x.val, .int .u8 (k : Int)] w fun e w' => e = .returned (.bool true) ∧ Below w.heap.size w w' := by
  have G := Lib.hid (great_any (its_one x w hin) (by simp) (fun y hy => (show y = x by simpa using hy) ▸ hx))
  have HX := Lib.hid hx
  have HIN := Lib.hid ((hin.alloc (O x)).alloc (O x))
  have HB0 : Hid (Below w.heap.size w ((w.alloc (O x)).alloc (O x))) := below_seq (below_alloc _ _) (below_alloc _ _)
  obtain ⟨X, hXX⟩ : ∃ X, x = X := ⟨_, rfl⟩
  obtain ⟨k0, n, z, b, s, vl, vm, vt, l, m, t⟩ := x
  simp only [Itm.val, Itm.cells, O] at *
  clear hx hin
  go_enter Try.func7, Try.ntmps7
  go_wp2_with fail
  refine G.out.mono ?_
  rintro e w3 ⟨⟨g, rfl, hg⟩, d3⟩
  have HB3 : Hid (Below w.heap.size w w3) := Drawn.below HB0.out d3
  have HP3 : Hid (Blk w3 w.heap.size 33 #[.int .u8 k0, .int .u64 n, .int .i64 z, .bool b, .string s, vl, vm, vt]) := by
    obtain ⟨n3, rfl⟩ := d3
    exact ((Blk.new w _ _).alloc _).drewN n3
  have HI3 : Hid (X.In (fun _ => False) w3) := by
    have h := HIN.out
    rw [hXX] at h
    obtain ⟨n3, rfl⟩ := d3
    exact h.keep (T := fun _ => False) ((Mod.refl _ _).drewN n3) (fun _ _ h => h.elim)
  have HOK : Hid (g = false → X.Ok) := fun h => by
    have h1 := Small.ok (hg h) (fun y hy => (show y = _ by simpa using hy) ▸ HX.out)
    rw [← hXX]
    exact h1 _ (by simp)
  have HXX := Lib.hid hXX
  clear hg d3 G HIN HB0 HX hXX
  cases g
  · have HINV : Hid (Inv w.heap.size w3.heap.size X w ((((w3.alloc (.cells #[.bool false, .slice none 0 0] 53)).alloc (.cells #[.pointer none, .pointer (some ⟨w3.heap.size, 0, none⟩)] 25)).alloc (.cells #[.bool false, .bool false, .string ⟨#[]⟩] 56)).alloc (.cells #[.pointer none, .pointer (some ⟨w3.heap.size + 1 + 1, 0, none⟩)] 36))) := by
      have hX : X.cells = #[.int .u8 k0, .int .u64 n, .int .i64 z, .bool b, .string s, vl, vm, vt] := by rw [← HXX.out]; rfl
      have b1 := Blk.new w3 53 #[.bool false, .slice none 0 0]
      have b2 := Blk.new (w3.alloc (.cells #[.bool false, .slice none 0 0] 53)) 25 #[.pointer none, .pointer (some ⟨w3.heap.size, 0, none⟩)]
      have b3 := Blk.new ((w3.alloc (.cells #[.bool false, .slice none 0 0] 53)).alloc (.cells #[.pointer none, .pointer (some ⟨w3.heap.size, 0, none⟩)] 25)) 56 #[.bool false, .bool false, .string ⟨#[]⟩]
      have b4 := Blk.new (((w3.alloc (.cells #[.bool false, .slice none 0 0] 53)).alloc (.cells #[.pointer none, .pointer (some ⟨w3.heap.size, 0, none⟩)] 25)).alloc (.cells #[.bool false, .bool false, .string ⟨#[]⟩] 56)) 36 #[.pointer none, .pointer (some ⟨w3.heap.size + 1 + 1, 0, none⟩)]
      simp only [World.size_alloc] at b2 b3 b4
      refine ⟨?_, ?_, ?_, ((b1.alloc _).alloc _).alloc _, (b2.alloc _).alloc _, b3.alloc _, b4⟩
      · have hs := HB3.out.size
        exact (((HB3.out.alloc hs _).alloc (by simp; omega) _).alloc (by simp; omega) _).alloc (by simp; omega) _
      · rw [hX]
        exact (((HP3.out.alloc _).alloc _).alloc _).alloc _
      · exact (((HI3.out.alloc _).alloc _).alloc _).alloc _
    have hok := HOK.out rfl
    have HOKK := Lib.hid hok
    clear HB3 HP3 HI3 HOK hok
    go_wp2_with fail
    go_loopg [9] 2 (fun g s9 wx => ∃ i : Nat, s9 = .int .i64 i ∧ i ≤ 2 ∧ g = 2 - i ∧ Hid (Inv w.heap.size w3.heap.size X w wx))
    case atStart => exact ⟨0, rfl, by omega, rfl, HINV.out⟩
    case round =>
      clear HINV
      obtain ⟨i, rfl, hi, rfl, HI⟩ := hrel
      have hc : i = 0 ∨ i = 1 ∨ i = 2 := by omega
      rcases hc with rfl | rfl | rfl
      · have hItem : Blk wr w.heap.size 33 #[.int .u8 k0, .int .u64 n, .int .i64 z, .bool b, .string s, vl, vm, vt] := by
          have := HI.out.item
          rw [← HXX.out] at this
          exact this
        have HNW : NoWr wr (.pointer none) := .inl rfl
        have HNR : NoRd wr (.pointer none) := .inl rfl
        have lw : wr.cell? ⟨w3.heap.size + 1, 0, none⟩ = some (.pointer none) := HI.out.ws.cell 0
        have C1 : Hid (∀ W, Below wr.heap.size wr W → Calls Try.prog 13 #[.pointer none, .agg #[.int .u8 k0, .int .u64 n, .int .i64 z, .bool b, .string s, vl, vm, vt]] W (NwPost W)) := fun W hW => by
          have := nwrites_any (.pointer none) X W (HNW.below hW) HOKK.out _ (HI.out.ins.below hW)
          rw [← HXX.out] at this
          exact this
        have c0 : wr.cell? ⟨w.heap.size, 0, none⟩ = some (.int .u8 k0) := hItem.cell 0
        have c1 : wr.cell? ⟨w.heap.size, 1, none⟩ = some (.int .u64 n) := hItem.cell 1
        have c2 : wr.cell? ⟨w.heap.size, 2, none⟩ = some (.int .i64 z) := hItem.cell 2
        have c3 : wr.cell? ⟨w.heap.size, 3, none⟩ = some (.bool b) := hItem.cell 3
        have c4 : wr.cell? ⟨w.heap.size, 4, none⟩ = some (.string s) := hItem.cell 4
        have c5 : wr.cell? ⟨w.heap.size, 5, none⟩ = some vl := hItem.cell 5
        have c6 : wr.cell? ⟨w.heap.size, 6, none⟩ = some vm := hItem.cell 6
        have c7 : wr.cell? ⟨w.heap.size, 7, none⟩ = some vt := hItem.cell 7
        have HW := Lib.hid HNW
        have HR := Lib.hid HNR
        clear hItem HNW HNR
        go_wp2_with fail
        go_still_tail 5, (by kernel_rfl)
        go_wp2_with fail
        have bd : Below wr.heap.size wr wr.drew := below_drewN (Below.refl _ _) 1
        change Calls _ _ _ wr.drew _
        refine (C1.out _ bd).mono ?_
        rintro e w5 ⟨⟨sx, rfl⟩, b5⟩
        have HB5 : Hid (Below wr.heap.size wr w5) := (below_drewN (Below.refl _ _) 1).trans b5
        have HI5 := Lib.hid (HI.out.below HB5.out)
        have lr : w5.cell? ⟨w3.heap.size + 1 + 1 + 1, 0, none⟩ = some (.pointer none) := HI5.out.rs.cell 0
        have C2 := Lib.hid (nreads_any (.pointer none) k w5 (HR.out.below HB5.out) hk)
        clear b5 lw c0 c1 c2 c3 c4 c5 c6 c7 C1 HI
        go_wp2_with fail
        refine C2.out.mono ?_
        rintro e w6 ⟨rfl, b6⟩
        have HB6 : Hid (Below wr.heap.size wr w6) := below_seq HB5.out b6
        have HI6 := Lib.hid (HI5.out.below b6)
        have lw : w6.cell? ⟨w3.heap.size + 1, 0, none⟩ = some (.pointer none) := HI6.out.ws.cell 0
        have lr6 : w6.cell? ⟨w3.heap.size + 1 + 1 + 1, 0, none⟩ = some (.pointer none) := HI6.out.rs.cell 0
        have C3 : Hid (∀ W, Below w6.heap.size w6 W → Calls Try.prog 14 #[.pointer none] W fun e w' => e = .returned (.string ⟨#[]⟩) ∧ W = w') := fun W hW => nwbytes _ W ((HW.out.below HB6.out).below hW)
        have C4 : Hid (∀ W, Below w6.heap.size w6 W → Calls Try.prog 19 #[.pointer none] W fun e w' => e = .returned (.int .i64 1) ∧ W = w') := fun W hW => nrend _ W ((HR.out.below HB6.out).below hW)
        have C5 : Hid (∀ W, Below w6.heap.size w6 W → Calls Try.prog 18 #[.pointer none] W fun e w' => e = .returned (.bool false) ∧ W = w') := fun W hW => nrfine _ W ((HR.out.below HB6.out).below hW)
        have C6 : Hid (∀ W, Below w6.heap.size w6 W → Calls Try.prog 20 #[.pointer none] W fun e w' => e = .returned (.int .i64 0) ∧ W = w') := fun W hW => nrleft _ W ((HR.out.below HB6.out).below hW)
        have hz6 : w3.heap.size + 1 + 1 + 1 < w6.heap.size := HI6.out.rs.lt
        have hz7 : w3.heap.size + 1 < w6.heap.size := HI6.out.ws.lt
        clear b6 lr HI5 C2
        go_wp2_with fail
        refine (C3.out _ (below_alloc _ _)).mono ?_
        rintro e w' ⟨rfl, rfl⟩
        go_wp2_with fail
        refine (C4.out _ (below_alloc _ _)).mono ?_
        rintro e w' ⟨rfl, rfl⟩
        go_wp2_with fail
        refine (C5.out _ (below_alloc _ _)).mono ?_
        rintro e w' ⟨rfl, rfl⟩
        go_wp2_with fail
        refine (C6.out _ (below_alloc _ _)).mono ?_
        rintro e w' ⟨rfl, rfl⟩
        go_wp2_with fail
        go_roundg (2 - (0 + 1))
        case measure => omega
        case rel => exact ⟨0 + 1, by go_num, by omega, rfl, HI6.out.below (below_alloc _ _)⟩
      · have hItem : Blk wr w.heap.size 33 #[.int .u8 k0, .int .u64 n, .int .i64 z, .bool b, .string s, vl, vm, vt] := by
          have := HI.out.item
          rw [← HXX.out] at this
          exact this
        have HNW : NoWr wr (.pointer (some ⟨w3.heap.size, 0, none⟩)) := .inr ⟨_, rfl, HI.out.wz.cell 0⟩
        have HNR : NoRd wr (.pointer (some ⟨w3.heap.size + 1 + 1, 0, none⟩)) := .inr ⟨_, rfl, HI.out.rz.cell 0⟩
        have lw : wr.cell? ⟨w3.heap.size + 1, 1, none⟩ = some (.pointer (some ⟨w3.heap.size, 0, none⟩)) := HI.out.ws.cell 1
        have C1 : Hid (∀ W, Below wr.heap.size wr W → Calls Try.prog 13 #[.pointer (some ⟨w3.heap.size, 0, none⟩), .agg #[.int .u8 k0, .int .u64 n, .int .i64 z, .bool b, .string s, vl, vm, vt]] W (NwPost W)) := fun W hW => by
          have := nwrites_any (.pointer (some ⟨w3.heap.size, 0, none⟩)) X W (HNW.below hW) HOKK.out _ (HI.out.ins.below hW)
          rw [← HXX.out] at this
          exact this
        have c0 : wr.cell? ⟨w.heap.size, 0, none⟩ = some (.int .u8 k0) := hItem.cell 0
        have c1 : wr.cell? ⟨w.heap.size, 1, none⟩ = some (.int .u64 n) := hItem.cell 1
        have c2 : wr.cell? ⟨w.heap.size, 2, none⟩ = some (.int .i64 z) := hItem.cell 2
        have c3 : wr.cell? ⟨w.heap.size, 3, none⟩ = some (.bool b) := hItem.cell 3
        have c4 : wr.cell? ⟨w.heap.size, 4, none⟩ = some (.string s) := hItem.cell 4
        have c5 : wr.cell? ⟨w.heap.size, 5, none⟩ = some vl := hItem.cell 5
        have c6 : wr.cell? ⟨w.heap.size, 6, none⟩ = some vm := hItem.cell 6
        have c7 : wr.cell? ⟨w.heap.size, 7, none⟩ = some vt := hItem.cell 7
        have HW := Lib.hid HNW
        have HR := Lib.hid HNR
        clear hItem HNW HNR
        go_wp2_with fail
        go_still_tail 5, (by kernel_rfl)
        go_wp2_with fail
        have bd : Below wr.heap.size wr wr.drew := below_drewN (Below.refl _ _) 1
        change Calls _ _ _ wr.drew _
        refine (C1.out _ bd).mono ?_
        rintro e w5 ⟨⟨sx, rfl⟩, b5⟩
        have HB5 : Hid (Below wr.heap.size wr w5) := (below_drewN (Below.refl _ _) 1).trans b5
        have HI5 := Lib.hid (HI.out.below HB5.out)
        have lr : w5.cell? ⟨w3.heap.size + 1 + 1 + 1, 1, none⟩ = some (.pointer (some ⟨w3.heap.size + 1 + 1, 0, none⟩)) := HI5.out.rs.cell 1
        have C2 := Lib.hid (nreads_any (.pointer (some ⟨w3.heap.size + 1 + 1, 0, none⟩)) k w5 (HR.out.below HB5.out) hk)
        clear b5 lw c0 c1 c2 c3 c4 c5 c6 c7 C1 HI
        go_wp2_with fail
        refine C2.out.mono ?_
        rintro e w6 ⟨rfl, b6⟩
        have HB6 : Hid (Below wr.heap.size wr w6) := below_seq HB5.out b6
        have HI6 := Lib.hid (HI5.out.below b6)
        have lw : w6.cell? ⟨w3.heap.size + 1, 1, none⟩ = some (.pointer (some ⟨w3.heap.size, 0, none⟩)) := HI6.out.ws.cell 1
        have lr6 : w6.cell? ⟨w3.heap.size + 1 + 1 + 1, 1, none⟩ = some (.pointer (some ⟨w3.heap.size + 1 + 1, 0, none⟩)) := HI6.out.rs.cell 1
        have C3 : Hid (∀ W, Below w6.heap.size w6 W → Calls Try.prog 14 #[.pointer (some ⟨w3.heap.size, 0, none⟩)] W fun e w' => e = .returned (.string ⟨#[]⟩) ∧ W = w') := fun W hW => nwbytes _ W ((HW.out.below HB6.out).below hW)
        have C4 : Hid (∀ W, Below w6.heap.size w6 W → Calls Try.prog 19 #[.pointer (some ⟨w3.heap.size + 1 + 1, 0, none⟩)] W fun e w' => e = .returned (.int .i64 1) ∧ W = w') := fun W hW => nrend _ W ((HR.out.below HB6.out).below hW)
        have C5 : Hid (∀ W, Below w6.heap.size w6 W → Calls Try.prog 18 #[.pointer (some ⟨w3.heap.size + 1 + 1, 0, none⟩)] W fun e w' => e = .returned (.bool false) ∧ W = w') := fun W hW => nrfine _ W ((HR.out.below HB6.out).below hW)
        have C6 : Hid (∀ W, Below w6.heap.size w6 W → Calls Try.prog 20 #[.pointer (some ⟨w3.heap.size + 1 + 1, 0, none⟩)] W fun e w' => e = .returned (.int .i64 0) ∧ W = w') := fun W hW => nrleft _ W ((HR.out.below HB6.out).below hW)
        have hz6 : w3.heap.size + 1 + 1 + 1 < w6.heap.size := HI6.out.rs.lt
        have hz7 : w3.heap.size + 1 < w6.heap.size := HI6.out.ws.lt
        clear b6 lr HI5 C2
        go_wp2_with fail
        refine (C3.out _ (below_alloc _ _)).mono ?_
        rintro e w' ⟨rfl, rfl⟩
        go_wp2_with fail
        refine (C4.out _ (below_alloc _ _)).mono ?_
        rintro e w' ⟨rfl, rfl⟩
        go_wp2_with fail
        refine (C5.out _ (below_alloc _ _)).mono ?_
        rintro e w' ⟨rfl, rfl⟩
        go_wp2_with fail
        refine (C6.out _ (below_alloc _ _)).mono ?_
        rintro e w' ⟨rfl, rfl⟩
        go_wp2_with fail
        go_roundg (2 - (1 + 1))
        case measure => omega
        case rel => exact ⟨1 + 1, by go_num, by omega, rfl, HI6.out.below (below_alloc _ _)⟩
      · go_wp2_with fail
        refine (head_any _).mono ?_
        rintro e w4 ⟨rfl, b4⟩
        go_wp2_with fail
        go_ret
        exact ⟨rfl, (HI.out.below b4).low⟩
  · go_wp2_with fail
    refine (head_any _).mono ?_
    rintro e w4 ⟨rfl, b4⟩
    go_wp2_with fail
    go_ret
    exact ⟨rfl, HB3.out.trans (b4.mono HB3.out.size)⟩
end Go.Proofs.Ytfhceblmjahgjaa.packNone
