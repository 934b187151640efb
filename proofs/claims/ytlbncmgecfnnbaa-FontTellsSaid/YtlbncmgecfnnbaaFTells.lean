/- The walk of FontTells: it returns true. Conditions: the numbers fit their kinds, the ranges lie in memory. -/
import Derived.Test.YtlbncmgecfnnbaaF6
namespace Go.Proofs.Ytlbncmgecfnnbaa
open Go.ChangeShapes Go.WideShapes Go.ChangeAt Go.RowKit

set_option maxRecDepth 100000 in
set_option maxHeartbeats 4000000 in
theorem ftells_any (F : Fnt) (s r : Int) (w : World) (hF : F.In w) (hw : F.Wf) (hs : W64 s) :
    Calls Try.prog 3 #[F.val, .int .i64 s, .int .i32 r] w fun e w' => e = .returned (.bool true) ∧ Below w.heap.size w w' := by
  obtain ⟨b, hb⟩ : ∃ b, decide (F.rs.length ≤ 300) = b := ⟨_, rfl⟩
  have CS : Hid (∀ W, Below w.heap.size w W → Calls Try.prog 7 #[F.val] W fun e w' => e = .returned (.bool b) ∧ Below W.heap.size W w') := fun W hW => small_any F W (hF.below hW) b hb
  have C1 : Hid (∀ W, Below w.heap.size w W → Calls Try.prog 9 #[F.val] W fun e w' => e = .returned (.int .i64 F.chk) ∧ Below W.heap.size W w') := fun W hW => fcheck_any F W (hF.below hW) hw
  have C2 : Hid (∀ W, Below w.heap.size w W → Calls Try.prog 10 #[F.val] W fun e w' => e = .returned (.int .i64 F.chk) ∧ Below W.heap.size W w') := fun W hW => rcheck_any F W (hF.below hW) hw
  have C3 : Hid (∀ W, Below w.heap.size w W → Calls Try.prog 11 #[F.val, .int .i64 s, .int .i32 r] W fun e w' => e = .returned (.int .i64 (atI (fnd F.o r F.rs) s)) ∧ Below W.heap.size W w') := fun W hW => fadv_any F s r W (hF.below hW) hw hs
  have C4 : Hid (∀ W, Below w.heap.size w W → Calls Try.prog 12 #[F.val, .int .i64 s, .int .i32 r] W fun e w' => e = .returned (.int .i64 (atI (fnd F.o r F.rs) s)) ∧ Below W.heap.size W w') := fun W hW => radv_any F s r W (hF.below hW) hw hs
  have A0 : Hid (∀ W : World, Calls Try.prog 13 #[F.val, .int .i64 s] W fun e w' => e = .returned (.int .i64 (atI F.a s)) ∧ Below W.heap.size W w') := fun W => fup_any F s W hw hs
  have A1 : Hid (∀ W : World, Calls Try.prog 15 #[F.val, .int .i64 s] W fun e w' => e = .returned (.int .i64 (atI F.d s)) ∧ Below W.heap.size W w') := fun W => fdown_any F s W hw hs
  have A2 : Hid (∀ W : World, Calls Try.prog 16 #[F.val, .int .i64 s] W fun e w' => e = .returned (.int .i64 (atI F.g s)) ∧ Below W.heap.size W w') := fun W => fgap_any F s W hw hs
  have A3 : Hid (∀ W : World, Calls Try.prog 17 #[F.val, .int .i64 s] W fun e w' => e = .returned (.int .i64 (atI F.x s)) ∧ Below W.heap.size W w') := fun W => fxh_any F s W hw hs
  have R0 : Hid (∀ W : World, Calls Try.prog 14 #[.int .i64 F.a, .int .i64 s] W fun e w' => e = .returned (.int .i64 (atI F.a s)) ∧ Below W.heap.size W w') := fun W => rat_any F.a s W hw.a hs
  have R1 : Hid (∀ W : World, Calls Try.prog 14 #[.int .i64 F.d, .int .i64 s] W fun e w' => e = .returned (.int .i64 (atI F.d s)) ∧ Below W.heap.size W w') := fun W => rat_any F.d s W hw.d hs
  have R2 : Hid (∀ W : World, Calls Try.prog 14 #[.int .i64 F.g, .int .i64 s] W fun e w' => e = .returned (.int .i64 (atI F.g s)) ∧ Below W.heap.size W w') := fun W => rat_any F.g s W hw.g hs
  have R3 : Hid (∀ W : World, Calls Try.prog 14 #[.int .i64 F.x, .int .i64 s] W fun e w' => e = .returned (.int .i64 (atI F.x s)) ∧ Below W.heap.size W w') := fun W => rat_any F.x s W hw.x hs
  have HH : Hid (∀ W : World, Calls Try.prog 8 #[] W fun e w' => e = .returned (.bool true) ∧ Below W.heap.size W w') := fhead_any
  obtain ⟨z, hz⟩ : ∃ z, F.chk = z := ⟨_, rfl⟩
  rw [hz] at C1 C2
  obtain ⟨y, hy⟩ : ∃ y, atI (fnd F.o r F.rs) s = y := ⟨_, rfl⟩
  rw [hy] at C3 C4
  obtain ⟨y0, hy0⟩ : ∃ y, atI F.a s = y := ⟨_, rfl⟩
  rw [hy0] at A0 R0
  obtain ⟨y1, hy1⟩ : ∃ y, atI F.d s = y := ⟨_, rfl⟩
  rw [hy1] at A1 R1
  obtain ⟨y2, hy2⟩ : ∃ y, atI F.g s = y := ⟨_, rfl⟩
  rw [hy2] at A2 R2
  obtain ⟨y3, hy3⟩ : ∃ y, atI F.x s = y := ⟨_, rfl⟩
  rw [hy3] at A3 R3
  have HBA : Hid (Below w.heap.size w (w.alloc (.cells F.cells 24))) := below_alloc _ _
  have HBX : Hid (Blk (w.alloc (.cells F.cells 24)) w.heap.size 24 F.cells) := Blk.new _ _ _
  clear hb hz hy hy0 hy1 hy2 hy3 hF hw hs
  obtain ⟨Fa, Fd, Fg, Fx, Fo, Fv, Frs⟩ := F
  simp only [Fnt.val, Fnt.cells] at *
  go_enter Try.func3, Try.ntmps3
  go_wp2_with fail
  refine (CS.out _ HBA.out).mono ?_
  rintro e w1 ⟨rfl, b1⟩
  have bel : Below w.heap.size w w1 := below_seq HBA.out b1
  have HX : Hid (Blk w1 w.heap.size 24 #[.int .i64 Fa, .int .i64 Fd, .int .i64 Fg, .int .i64 Fx, .int .i64 Fo, Fv]) := HBX.out.keep (S := fun _ => False) (Mod.of_below b1) id
  clear b1 HBA HBX CS
  cases b with
  | false =>
    go_wp2_with fail
    refine (HH.out _).mono ?_
    rintro e w2 ⟨rfl, b2⟩
    go_wp2_with fail
    go_ret
    exact ⟨rfl, bel.trans (b2.mono bel.size)⟩
  | true =>
    have K : Hid (∀ W, Below w1.heap.size w1 W → (W.cell? ⟨w.heap.size, 0, none⟩ = some (.int .i64 Fa) ∧ W.cell? ⟨w.heap.size, 1, none⟩ = some (.int .i64 Fd) ∧ W.cell? ⟨w.heap.size, 2, none⟩ = some (.int .i64 Fg) ∧ W.cell? ⟨w.heap.size, 3, none⟩ = some (.int .i64 Fx) ∧ W.cell? ⟨w.heap.size, 4, none⟩ = some (.int .i64 Fo) ∧ W.cell? ⟨w.heap.size, 5, none⟩ = some (Fv))) := fun W hW => by
      have h := HX.out.keep (S := fun _ => False) (Mod.of_below hW) id
      exact ⟨h.cell 0, h.cell 1, h.cell 2, h.cell 3, h.cell 4, h.cell 5⟩
    have HBel := Lib.hid bel
    go_wp2_with fail
    refine region_go (by kernel_rfl) (fun R hR => ?_)
    refine AllS.take (i := 0) (v := ?_) (by rw [List.getElem?_toArray]; rfl) (by kernel_rfl) (by kernel_rfl) (by kernel_rfl) (KeepsIf.read (by rfl) ?_) ?_
    rotate_left
    · intro w hSw
      obtain ⟨k0, k1, k2, k3, k4, k5⟩ := K.out w hSw
      go_simp
      (try with_reducible rfl)
    rotate_left
    (try simp only [Act.put, List.setIfInBounds_toArray, List.set_cons_zero, List.set_cons_succ])
    refine AllS.take (i := 1) (v := .int .i64 z) (by rw [List.getElem?_toArray]; rfl) (by kernel_rfl) (by kernel_rfl) (by kernel_rfl) (KeepsIf.call 9 #[.agg #[.int .i64 Fa, .int .i64 Fd, .int .i64 Fg, .int .i64 Fx, .int .i64 Fo, Fv]] (by kernel_rfl) (fun w => ?_) (fun w hSw => ?_)) ?_
    · go_simp
    · exact (C1.out w (HBel.out.trans (hSw.mono HBel.out.size))).mono (fun e w' h => ⟨h.1, below_seq hSw h.2⟩)
    (try simp only [Act.put, List.setIfInBounds_toArray, List.set_cons_zero, List.set_cons_succ])
    refine AllS.take (i := 2) (v := ?_) (by rw [List.getElem?_toArray]; rfl) (by kernel_rfl) (by kernel_rfl) (by kernel_rfl) (KeepsIf.read (by rfl) ?_) ?_
    rotate_left
    · intro w hSw
      obtain ⟨k0, k1, k2, k3, k4, k5⟩ := K.out w hSw
      go_simp
      (try with_reducible rfl)
    rotate_left
    (try simp only [Act.put, List.setIfInBounds_toArray, List.set_cons_zero, List.set_cons_succ])
    refine AllS.take (i := 3) (v := .int .i64 z) (by rw [List.getElem?_toArray]; rfl) (by kernel_rfl) (by kernel_rfl) (by kernel_rfl) (KeepsIf.call 10 #[.agg #[.int .i64 Fa, .int .i64 Fd, .int .i64 Fg, .int .i64 Fx, .int .i64 Fo, Fv]] (by kernel_rfl) (fun w => ?_) (fun w hSw => ?_)) ?_
    · go_simp
    · exact (C2.out w (HBel.out.trans (hSw.mono HBel.out.size))).mono (fun e w' h => ⟨h.1, below_seq hSw h.2⟩)
    (try simp only [Act.put, List.setIfInBounds_toArray, List.set_cons_zero, List.set_cons_succ])
    refine AllS.take (i := 4) (v := ?_) (by rw [List.getElem?_toArray]; rfl) (by kernel_rfl) (by kernel_rfl) (by kernel_rfl) (KeepsIf.read (by rfl) ?_) ?_
    rotate_left
    · intro w hSw
      go_simp
      (try with_reducible rfl)
    rotate_left
    (try simp only [Act.put, List.setIfInBounds_toArray, List.set_cons_zero, List.set_cons_succ])
    refine AllS.take (i := 5) (v := ?_) (by rw [List.getElem?_toArray]; rfl) (by kernel_rfl) (by kernel_rfl) (by kernel_rfl) (KeepsIf.read (by rfl) ?_) ?_
    rotate_left
    · intro w hSw
      go_simp
      (try with_reducible rfl)
    rotate_left
    (try simp only [Act.put, List.setIfInBounds_toArray, List.set_cons_zero, List.set_cons_succ])
    refine AllS.take (i := 6) (v := ?_) (by rw [List.getElem?_toArray]; rfl) (by kernel_rfl) (by kernel_rfl) (by kernel_rfl) (KeepsIf.read (by rfl) ?_) ?_
    rotate_left
    · intro w hSw
      obtain ⟨k0, k1, k2, k3, k4, k5⟩ := K.out w hSw
      go_simp
      (try with_reducible rfl)
    rotate_left
    (try simp only [Act.put, List.setIfInBounds_toArray, List.set_cons_zero, List.set_cons_succ])
    refine AllS.take (i := 7) (v := ?_) (by rw [List.getElem?_toArray]; rfl) (by kernel_rfl) (by kernel_rfl) (by kernel_rfl) (KeepsIf.read (by rfl) ?_) ?_
    rotate_left
    · intro w hSw
      go_simp
      (try with_reducible rfl)
    rotate_left
    (try simp only [Act.put, List.setIfInBounds_toArray, List.set_cons_zero, List.set_cons_succ])
    refine AllS.take (i := 8) (v := ?_) (by rw [List.getElem?_toArray]; rfl) (by kernel_rfl) (by kernel_rfl) (by kernel_rfl) (KeepsIf.read (by rfl) ?_) ?_
    rotate_left
    · intro w hSw
      go_simp
      (try with_reducible rfl)
    rotate_left
    (try simp only [Act.put, List.setIfInBounds_toArray, List.set_cons_zero, List.set_cons_succ])
    refine AllS.take (i := 9) (v := .int .i64 y) (by rw [List.getElem?_toArray]; rfl) (by kernel_rfl) (by kernel_rfl) (by kernel_rfl) (KeepsIf.call 11 #[.agg #[.int .i64 Fa, .int .i64 Fd, .int .i64 Fg, .int .i64 Fx, .int .i64 Fo, Fv], .int .i64 s, .int .i32 r] (by kernel_rfl) (fun w => ?_) (fun w hSw => ?_)) ?_
    · go_simp
    · exact (C3.out w (HBel.out.trans (hSw.mono HBel.out.size))).mono (fun e w' h => ⟨h.1, below_seq hSw h.2⟩)
    (try simp only [Act.put, List.setIfInBounds_toArray, List.set_cons_zero, List.set_cons_succ])
    refine AllS.take (i := 10) (v := ?_) (by rw [List.getElem?_toArray]; rfl) (by kernel_rfl) (by kernel_rfl) (by kernel_rfl) (KeepsIf.read (by rfl) ?_) ?_
    rotate_left
    · intro w hSw
      obtain ⟨k0, k1, k2, k3, k4, k5⟩ := K.out w hSw
      go_simp
      (try with_reducible rfl)
    rotate_left
    (try simp only [Act.put, List.setIfInBounds_toArray, List.set_cons_zero, List.set_cons_succ])
    refine AllS.take (i := 11) (v := ?_) (by rw [List.getElem?_toArray]; rfl) (by kernel_rfl) (by kernel_rfl) (by kernel_rfl) (KeepsIf.read (by rfl) ?_) ?_
    rotate_left
    · intro w hSw
      go_simp
      (try with_reducible rfl)
    rotate_left
    (try simp only [Act.put, List.setIfInBounds_toArray, List.set_cons_zero, List.set_cons_succ])
    refine AllS.take (i := 12) (v := ?_) (by rw [List.getElem?_toArray]; rfl) (by kernel_rfl) (by kernel_rfl) (by kernel_rfl) (KeepsIf.read (by rfl) ?_) ?_
    rotate_left
    · intro w hSw
      go_simp
      (try with_reducible rfl)
    rotate_left
    (try simp only [Act.put, List.setIfInBounds_toArray, List.set_cons_zero, List.set_cons_succ])
    refine AllS.take (i := 13) (v := .int .i64 y) (by rw [List.getElem?_toArray]; rfl) (by kernel_rfl) (by kernel_rfl) (by kernel_rfl) (KeepsIf.call 12 #[.agg #[.int .i64 Fa, .int .i64 Fd, .int .i64 Fg, .int .i64 Fx, .int .i64 Fo, Fv], .int .i64 s, .int .i32 r] (by kernel_rfl) (fun w => ?_) (fun w hSw => ?_)) ?_
    · go_simp
    · exact (C4.out w (HBel.out.trans (hSw.mono HBel.out.size))).mono (fun e w' h => ⟨h.1, below_seq hSw h.2⟩)
    (try simp only [Act.put, List.setIfInBounds_toArray, List.set_cons_zero, List.set_cons_succ])
    refine AllS.take (i := 14) (v := ?_) (by rw [List.getElem?_toArray]; rfl) (by kernel_rfl) (by kernel_rfl) (by kernel_rfl) (KeepsIf.read (by rfl) ?_) ?_
    rotate_left
    · intro w hSw
      go_simp
      (try with_reducible rfl)
    rotate_left
    (try simp only [Act.put, List.setIfInBounds_toArray, List.set_cons_zero, List.set_cons_succ])
    refine AllS.take (i := 15) (v := ?_) (by rw [List.getElem?_toArray]; rfl) (by kernel_rfl) (by kernel_rfl) (by kernel_rfl) (KeepsIf.read (by rfl) ?_) ?_
    rotate_left
    · intro w hSw
      go_simp
      (try with_reducible rfl)
    rotate_left
    (try simp only [Act.put, List.setIfInBounds_toArray, List.set_cons_zero, List.set_cons_succ])
    refine AllS.take (i := 16) (v := ?_) (by rw [List.getElem?_toArray]; rfl) (by kernel_rfl) (by kernel_rfl) (by kernel_rfl) (KeepsIf.read (by rfl) ?_) ?_
    rotate_left
    · intro w hSw
      go_simp
      (try with_reducible rfl)
    rotate_left
    (try simp only [Act.put, List.setIfInBounds_toArray, List.set_cons_zero, List.set_cons_succ])
    refine AllS.take (i := 17) (v := ?_) (by rw [List.getElem?_toArray]; rfl) (by kernel_rfl) (by kernel_rfl) (by kernel_rfl) (KeepsIf.read (by rfl) ?_) ?_
    rotate_left
    · intro w hSw
      obtain ⟨k0, k1, k2, k3, k4, k5⟩ := K.out w hSw
      go_simp
      (try with_reducible rfl)
    rotate_left
    (try simp only [Act.put, List.setIfInBounds_toArray, List.set_cons_zero, List.set_cons_succ])
    refine AllS.take (i := 18) (v := ?_) (by rw [List.getElem?_toArray]; rfl) (by kernel_rfl) (by kernel_rfl) (by kernel_rfl) (KeepsIf.read (by rfl) ?_) ?_
    rotate_left
    · intro w hSw
      go_simp
      (try with_reducible rfl)
    rotate_left
    (try simp only [Act.put, List.setIfInBounds_toArray, List.set_cons_zero, List.set_cons_succ])
    refine AllS.take (i := 19) (v := .int .i64 y0) (by rw [List.getElem?_toArray]; rfl) (by kernel_rfl) (by kernel_rfl) (by kernel_rfl) (KeepsIf.call 13 #[.agg #[.int .i64 Fa, .int .i64 Fd, .int .i64 Fg, .int .i64 Fx, .int .i64 Fo, Fv], .int .i64 s] (by kernel_rfl) (fun w => ?_) (fun w hSw => ?_)) ?_
    · go_simp
    · exact (A0.out w).mono (fun e w' h => ⟨h.1, below_seq hSw h.2⟩)
    (try simp only [Act.put, List.setIfInBounds_toArray, List.set_cons_zero, List.set_cons_succ])
    refine AllS.take (i := 20) (v := ?_) (by rw [List.getElem?_toArray]; rfl) (by kernel_rfl) (by kernel_rfl) (by kernel_rfl) (KeepsIf.read (by rfl) ?_) ?_
    rotate_left
    · intro w hSw
      go_simp
      (try with_reducible rfl)
    rotate_left
    (try simp only [Act.put, List.setIfInBounds_toArray, List.set_cons_zero, List.set_cons_succ])
    refine AllS.take (i := 21) (v := ?_) (by rw [List.getElem?_toArray]; rfl) (by kernel_rfl) (by kernel_rfl) (by kernel_rfl) (KeepsIf.read (by rfl) ?_) ?_
    rotate_left
    · intro w hSw
      obtain ⟨k0, k1, k2, k3, k4, k5⟩ := K.out w hSw
      go_simp
      (try with_reducible rfl)
    rotate_left
    (try simp only [Act.put, List.setIfInBounds_toArray, List.set_cons_zero, List.set_cons_succ])
    refine AllS.take (i := 22) (v := ?_) (by rw [List.getElem?_toArray]; rfl) (by kernel_rfl) (by kernel_rfl) (by kernel_rfl) (KeepsIf.read (by rfl) ?_) ?_
    rotate_left
    · intro w hSw
      go_simp
      (try with_reducible rfl)
    rotate_left
    (try simp only [Act.put, List.setIfInBounds_toArray, List.set_cons_zero, List.set_cons_succ])
    refine AllS.take (i := 23) (v := .int .i64 y0) (by rw [List.getElem?_toArray]; rfl) (by kernel_rfl) (by kernel_rfl) (by kernel_rfl) (KeepsIf.call 14 #[.int .i64 Fa, .int .i64 s] (by kernel_rfl) (fun w => ?_) (fun w hSw => ?_)) ?_
    · go_simp
    · exact (R0.out w).mono (fun e w' h => ⟨h.1, below_seq hSw h.2⟩)
    (try simp only [Act.put, List.setIfInBounds_toArray, List.set_cons_zero, List.set_cons_succ])
    refine AllS.take (i := 24) (v := ?_) (by rw [List.getElem?_toArray]; rfl) (by kernel_rfl) (by kernel_rfl) (by kernel_rfl) (KeepsIf.read (by rfl) ?_) ?_
    rotate_left
    · intro w hSw
      go_simp
      (try with_reducible rfl)
    rotate_left
    (try simp only [Act.put, List.setIfInBounds_toArray, List.set_cons_zero, List.set_cons_succ])
    refine AllS.take (i := 25) (v := ?_) (by rw [List.getElem?_toArray]; rfl) (by kernel_rfl) (by kernel_rfl) (by kernel_rfl) (KeepsIf.read (by rfl) ?_) ?_
    rotate_left
    · intro w hSw
      go_simp
      (try with_reducible rfl)
    rotate_left
    (try simp only [Act.put, List.setIfInBounds_toArray, List.set_cons_zero, List.set_cons_succ])
    refine AllS.take (i := 26) (v := ?_) (by rw [List.getElem?_toArray]; rfl) (by kernel_rfl) (by kernel_rfl) (by kernel_rfl) (KeepsIf.read (by rfl) ?_) ?_
    rotate_left
    · intro w hSw
      go_simp
      (try with_reducible rfl)
    rotate_left
    (try simp only [Act.put, List.setIfInBounds_toArray, List.set_cons_zero, List.set_cons_succ])
    refine AllS.take (i := 27) (v := ?_) (by rw [List.getElem?_toArray]; rfl) (by kernel_rfl) (by kernel_rfl) (by kernel_rfl) (KeepsIf.read (by rfl) ?_) ?_
    rotate_left
    · intro w hSw
      obtain ⟨k0, k1, k2, k3, k4, k5⟩ := K.out w hSw
      go_simp
      (try with_reducible rfl)
    rotate_left
    (try simp only [Act.put, List.setIfInBounds_toArray, List.set_cons_zero, List.set_cons_succ])
    refine AllS.take (i := 28) (v := ?_) (by rw [List.getElem?_toArray]; rfl) (by kernel_rfl) (by kernel_rfl) (by kernel_rfl) (KeepsIf.read (by rfl) ?_) ?_
    rotate_left
    · intro w hSw
      go_simp
      (try with_reducible rfl)
    rotate_left
    (try simp only [Act.put, List.setIfInBounds_toArray, List.set_cons_zero, List.set_cons_succ])
    refine AllS.take (i := 29) (v := .int .i64 y1) (by rw [List.getElem?_toArray]; rfl) (by kernel_rfl) (by kernel_rfl) (by kernel_rfl) (KeepsIf.call 15 #[.agg #[.int .i64 Fa, .int .i64 Fd, .int .i64 Fg, .int .i64 Fx, .int .i64 Fo, Fv], .int .i64 s] (by kernel_rfl) (fun w => ?_) (fun w hSw => ?_)) ?_
    · go_simp
    · exact (A1.out w).mono (fun e w' h => ⟨h.1, below_seq hSw h.2⟩)
    (try simp only [Act.put, List.setIfInBounds_toArray, List.set_cons_zero, List.set_cons_succ])
    refine AllS.take (i := 30) (v := ?_) (by rw [List.getElem?_toArray]; rfl) (by kernel_rfl) (by kernel_rfl) (by kernel_rfl) (KeepsIf.read (by rfl) ?_) ?_
    rotate_left
    · intro w hSw
      go_simp
      (try with_reducible rfl)
    rotate_left
    (try simp only [Act.put, List.setIfInBounds_toArray, List.set_cons_zero, List.set_cons_succ])
    refine AllS.take (i := 31) (v := ?_) (by rw [List.getElem?_toArray]; rfl) (by kernel_rfl) (by kernel_rfl) (by kernel_rfl) (KeepsIf.read (by rfl) ?_) ?_
    rotate_left
    · intro w hSw
      obtain ⟨k0, k1, k2, k3, k4, k5⟩ := K.out w hSw
      go_simp
      (try with_reducible rfl)
    rotate_left
    (try simp only [Act.put, List.setIfInBounds_toArray, List.set_cons_zero, List.set_cons_succ])
    refine AllS.take (i := 32) (v := ?_) (by rw [List.getElem?_toArray]; rfl) (by kernel_rfl) (by kernel_rfl) (by kernel_rfl) (KeepsIf.read (by rfl) ?_) ?_
    rotate_left
    · intro w hSw
      go_simp
      (try with_reducible rfl)
    rotate_left
    (try simp only [Act.put, List.setIfInBounds_toArray, List.set_cons_zero, List.set_cons_succ])
    refine AllS.take (i := 33) (v := .int .i64 y1) (by rw [List.getElem?_toArray]; rfl) (by kernel_rfl) (by kernel_rfl) (by kernel_rfl) (KeepsIf.call 14 #[.int .i64 Fd, .int .i64 s] (by kernel_rfl) (fun w => ?_) (fun w hSw => ?_)) ?_
    · go_simp
    · exact (R1.out w).mono (fun e w' h => ⟨h.1, below_seq hSw h.2⟩)
    (try simp only [Act.put, List.setIfInBounds_toArray, List.set_cons_zero, List.set_cons_succ])
    refine AllS.take (i := 34) (v := ?_) (by rw [List.getElem?_toArray]; rfl) (by kernel_rfl) (by kernel_rfl) (by kernel_rfl) (KeepsIf.read (by rfl) ?_) ?_
    rotate_left
    · intro w hSw
      go_simp
      (try with_reducible rfl)
    rotate_left
    (try simp only [Act.put, List.setIfInBounds_toArray, List.set_cons_zero, List.set_cons_succ])
    refine AllS.take (i := 35) (v := ?_) (by rw [List.getElem?_toArray]; rfl) (by kernel_rfl) (by kernel_rfl) (by kernel_rfl) (KeepsIf.read (by rfl) ?_) ?_
    rotate_left
    · intro w hSw
      go_simp
      (try with_reducible rfl)
    rotate_left
    (try simp only [Act.put, List.setIfInBounds_toArray, List.set_cons_zero, List.set_cons_succ])
    refine AllS.take (i := 36) (v := ?_) (by rw [List.getElem?_toArray]; rfl) (by kernel_rfl) (by kernel_rfl) (by kernel_rfl) (KeepsIf.read (by rfl) ?_) ?_
    rotate_left
    · intro w hSw
      go_simp
      (try with_reducible rfl)
    rotate_left
    (try simp only [Act.put, List.setIfInBounds_toArray, List.set_cons_zero, List.set_cons_succ])
    refine AllS.take (i := 37) (v := ?_) (by rw [List.getElem?_toArray]; rfl) (by kernel_rfl) (by kernel_rfl) (by kernel_rfl) (KeepsIf.read (by rfl) ?_) ?_
    rotate_left
    · intro w hSw
      obtain ⟨k0, k1, k2, k3, k4, k5⟩ := K.out w hSw
      go_simp
      (try with_reducible rfl)
    rotate_left
    (try simp only [Act.put, List.setIfInBounds_toArray, List.set_cons_zero, List.set_cons_succ])
    refine AllS.take (i := 38) (v := ?_) (by rw [List.getElem?_toArray]; rfl) (by kernel_rfl) (by kernel_rfl) (by kernel_rfl) (KeepsIf.read (by rfl) ?_) ?_
    rotate_left
    · intro w hSw
      go_simp
      (try with_reducible rfl)
    rotate_left
    (try simp only [Act.put, List.setIfInBounds_toArray, List.set_cons_zero, List.set_cons_succ])
    refine AllS.take (i := 39) (v := .int .i64 y2) (by rw [List.getElem?_toArray]; rfl) (by kernel_rfl) (by kernel_rfl) (by kernel_rfl) (KeepsIf.call 16 #[.agg #[.int .i64 Fa, .int .i64 Fd, .int .i64 Fg, .int .i64 Fx, .int .i64 Fo, Fv], .int .i64 s] (by kernel_rfl) (fun w => ?_) (fun w hSw => ?_)) ?_
    · go_simp
    · exact (A2.out w).mono (fun e w' h => ⟨h.1, below_seq hSw h.2⟩)
    (try simp only [Act.put, List.setIfInBounds_toArray, List.set_cons_zero, List.set_cons_succ])
    refine AllS.take (i := 40) (v := ?_) (by rw [List.getElem?_toArray]; rfl) (by kernel_rfl) (by kernel_rfl) (by kernel_rfl) (KeepsIf.read (by rfl) ?_) ?_
    rotate_left
    · intro w hSw
      go_simp
      (try with_reducible rfl)
    rotate_left
    (try simp only [Act.put, List.setIfInBounds_toArray, List.set_cons_zero, List.set_cons_succ])
    refine AllS.take (i := 41) (v := ?_) (by rw [List.getElem?_toArray]; rfl) (by kernel_rfl) (by kernel_rfl) (by kernel_rfl) (KeepsIf.read (by rfl) ?_) ?_
    rotate_left
    · intro w hSw
      obtain ⟨k0, k1, k2, k3, k4, k5⟩ := K.out w hSw
      go_simp
      (try with_reducible rfl)
    rotate_left
    (try simp only [Act.put, List.setIfInBounds_toArray, List.set_cons_zero, List.set_cons_succ])
    refine AllS.take (i := 42) (v := ?_) (by rw [List.getElem?_toArray]; rfl) (by kernel_rfl) (by kernel_rfl) (by kernel_rfl) (KeepsIf.read (by rfl) ?_) ?_
    rotate_left
    · intro w hSw
      go_simp
      (try with_reducible rfl)
    rotate_left
    (try simp only [Act.put, List.setIfInBounds_toArray, List.set_cons_zero, List.set_cons_succ])
    refine AllS.take (i := 43) (v := .int .i64 y2) (by rw [List.getElem?_toArray]; rfl) (by kernel_rfl) (by kernel_rfl) (by kernel_rfl) (KeepsIf.call 14 #[.int .i64 Fg, .int .i64 s] (by kernel_rfl) (fun w => ?_) (fun w hSw => ?_)) ?_
    · go_simp
    · exact (R2.out w).mono (fun e w' h => ⟨h.1, below_seq hSw h.2⟩)
    (try simp only [Act.put, List.setIfInBounds_toArray, List.set_cons_zero, List.set_cons_succ])
    refine AllS.take (i := 44) (v := ?_) (by rw [List.getElem?_toArray]; rfl) (by kernel_rfl) (by kernel_rfl) (by kernel_rfl) (KeepsIf.read (by rfl) ?_) ?_
    rotate_left
    · intro w hSw
      go_simp
      (try with_reducible rfl)
    rotate_left
    (try simp only [Act.put, List.setIfInBounds_toArray, List.set_cons_zero, List.set_cons_succ])
    refine AllS.take (i := 45) (v := ?_) (by rw [List.getElem?_toArray]; rfl) (by kernel_rfl) (by kernel_rfl) (by kernel_rfl) (KeepsIf.read (by rfl) ?_) ?_
    rotate_left
    · intro w hSw
      go_simp
      (try with_reducible rfl)
    rotate_left
    (try simp only [Act.put, List.setIfInBounds_toArray, List.set_cons_zero, List.set_cons_succ])
    refine AllS.take (i := 46) (v := ?_) (by rw [List.getElem?_toArray]; rfl) (by kernel_rfl) (by kernel_rfl) (by kernel_rfl) (KeepsIf.read (by rfl) ?_) ?_
    rotate_left
    · intro w hSw
      go_simp
      (try with_reducible rfl)
    rotate_left
    (try simp only [Act.put, List.setIfInBounds_toArray, List.set_cons_zero, List.set_cons_succ])
    refine AllS.take (i := 47) (v := ?_) (by rw [List.getElem?_toArray]; rfl) (by kernel_rfl) (by kernel_rfl) (by kernel_rfl) (KeepsIf.read (by rfl) ?_) ?_
    rotate_left
    · intro w hSw
      obtain ⟨k0, k1, k2, k3, k4, k5⟩ := K.out w hSw
      go_simp
      (try with_reducible rfl)
    rotate_left
    (try simp only [Act.put, List.setIfInBounds_toArray, List.set_cons_zero, List.set_cons_succ])
    refine AllS.take (i := 48) (v := ?_) (by rw [List.getElem?_toArray]; rfl) (by kernel_rfl) (by kernel_rfl) (by kernel_rfl) (KeepsIf.read (by rfl) ?_) ?_
    rotate_left
    · intro w hSw
      go_simp
      (try with_reducible rfl)
    rotate_left
    (try simp only [Act.put, List.setIfInBounds_toArray, List.set_cons_zero, List.set_cons_succ])
    refine AllS.take (i := 49) (v := .int .i64 y3) (by rw [List.getElem?_toArray]; rfl) (by kernel_rfl) (by kernel_rfl) (by kernel_rfl) (KeepsIf.call 17 #[.agg #[.int .i64 Fa, .int .i64 Fd, .int .i64 Fg, .int .i64 Fx, .int .i64 Fo, Fv], .int .i64 s] (by kernel_rfl) (fun w => ?_) (fun w hSw => ?_)) ?_
    · go_simp
    · exact (A3.out w).mono (fun e w' h => ⟨h.1, below_seq hSw h.2⟩)
    (try simp only [Act.put, List.setIfInBounds_toArray, List.set_cons_zero, List.set_cons_succ])
    refine AllS.take (i := 50) (v := ?_) (by rw [List.getElem?_toArray]; rfl) (by kernel_rfl) (by kernel_rfl) (by kernel_rfl) (KeepsIf.read (by rfl) ?_) ?_
    rotate_left
    · intro w hSw
      go_simp
      (try with_reducible rfl)
    rotate_left
    (try simp only [Act.put, List.setIfInBounds_toArray, List.set_cons_zero, List.set_cons_succ])
    refine AllS.take (i := 51) (v := ?_) (by rw [List.getElem?_toArray]; rfl) (by kernel_rfl) (by kernel_rfl) (by kernel_rfl) (KeepsIf.read (by rfl) ?_) ?_
    rotate_left
    · intro w hSw
      obtain ⟨k0, k1, k2, k3, k4, k5⟩ := K.out w hSw
      go_simp
      (try with_reducible rfl)
    rotate_left
    (try simp only [Act.put, List.setIfInBounds_toArray, List.set_cons_zero, List.set_cons_succ])
    refine AllS.take (i := 52) (v := ?_) (by rw [List.getElem?_toArray]; rfl) (by kernel_rfl) (by kernel_rfl) (by kernel_rfl) (KeepsIf.read (by rfl) ?_) ?_
    rotate_left
    · intro w hSw
      go_simp
      (try with_reducible rfl)
    rotate_left
    (try simp only [Act.put, List.setIfInBounds_toArray, List.set_cons_zero, List.set_cons_succ])
    refine AllS.take (i := 53) (v := .int .i64 y3) (by rw [List.getElem?_toArray]; rfl) (by kernel_rfl) (by kernel_rfl) (by kernel_rfl) (KeepsIf.call 14 #[.int .i64 Fx, .int .i64 s] (by kernel_rfl) (fun w => ?_) (fun w hSw => ?_)) ?_
    · go_simp
    · exact (R3.out w).mono (fun e w' h => ⟨h.1, below_seq hSw h.2⟩)
    (try simp only [Act.put, List.setIfInBounds_toArray, List.set_cons_zero, List.set_cons_succ])
    refine AllS.take (i := 54) (v := ?_) (by rw [List.getElem?_toArray]; rfl) (by kernel_rfl) (by kernel_rfl) (by kernel_rfl) (KeepsIf.read (by rfl) ?_) ?_
    rotate_left
    · intro w hSw
      go_simp
      (try with_reducible rfl)
    rotate_left
    (try simp only [Act.put, List.setIfInBounds_toArray, List.set_cons_zero, List.set_cons_succ])
    refine AllS.take (i := 55) (v := ?_) (by rw [List.getElem?_toArray]; rfl) (by kernel_rfl) (by kernel_rfl) (by kernel_rfl) (KeepsIf.read (by rfl) ?_) ?_
    rotate_left
    · intro w hSw
      go_simp
      (try with_reducible rfl)
    rotate_left
    (try simp only [Act.put, List.setIfInBounds_toArray, List.set_cons_zero, List.set_cons_succ])
    refine AllS.take (i := 56) (v := ?_) (by rw [List.getElem?_toArray]; rfl) (by kernel_rfl) (by kernel_rfl) (by kernel_rfl) (KeepsIf.read (by rfl) ?_) ?_
    rotate_left
    · intro w hSw
      go_simp
      (try with_reducible rfl)
    rotate_left
    (try simp only [Act.put, List.setIfInBounds_toArray, List.set_cons_zero, List.set_cons_succ])
    refine AllS.take (i := 57) (v := .bool true) (by rw [List.getElem?_toArray]; rfl) (by kernel_rfl) (by kernel_rfl) (by kernel_rfl) (KeepsIf.call 8 #[] (by kernel_rfl) (fun w => ?_) (fun w hSw => ?_)) ?_
    · go_simp
    · exact (HH.out w).mono (fun e w' h => ⟨h.1, below_seq hSw h.2⟩)
    (try simp only [Act.put, List.setIfInBounds_toArray, List.set_cons_zero, List.set_cons_succ])
    refine AllS.take (i := 58) (v := ?_) (by rw [List.getElem?_toArray]; rfl) (by kernel_rfl) (by kernel_rfl) (by kernel_rfl) (KeepsIf.read (by rfl) ?_) ?_
    rotate_left
    · intro w hSw
      go_simp
      (try with_reducible rfl)
    rotate_left
    (try simp only [Act.put, List.setIfInBounds_toArray, List.set_cons_zero, List.set_cons_succ])
    refine AllS.take (i := 59) (v := ?_) (by rw [List.getElem?_toArray]; rfl) (by kernel_rfl) (by kernel_rfl) (by kernel_rfl) (KeepsIf.read (by rfl) ?_) ?_
    rotate_left
    · intro w hSw
      go_simp
      (try with_reducible rfl)
    rotate_left
    (try simp only [Act.put, List.setIfInBounds_toArray, List.set_cons_zero, List.set_cons_succ])
    refine AllS.done (by kernel_rfl) (hR.out _ ?_) _
    clear hR R
    intro w' hb
    go_wp2_with fail
    go_ret
    exact ⟨rfl, HBel.out.trans (hb.mono HBel.out.size)⟩
end Go.Proofs.Ytlbncmgecfnnbaa
