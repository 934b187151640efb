/- The walk of FontTexts: it returns true. Conditions: the numbers fit their kinds, the ranges and the code points lie in memory. -/
import Derived.Test.YtlbncmgecfnnbaaF6
namespace Go.Proofs.Ytlbncmgecfnnbaa
open Go.ChangeShapes Go.WideShapes Go.ChangeAt Go.RowKit

set_option maxRecDepth 100000 in
set_option maxHeartbeats 4000000 in
theorem ftexts_any (F : Fnt) (s : Int) (zs : List Int) (v : Value) (w : World) (hF : F.In w) (hw : F.Wf) (hs : W64 s) (hR : Row (fun _ => False) w v (zs.map (Value.int .i32))) (hcap : ∀ A n c, v = .slice A n c → n ≤ c ∧ c ≤ maxLen) :
    Calls Try.prog 4 #[F.val, .int .i64 s, v] w fun e w' => e = .returned (.bool true) ∧ Below w.heap.size w w' := by
  obtain ⟨b, hb⟩ : ∃ b, decide (F.rs.length ≤ 300) = b := ⟨_, rfl⟩
  have CS : Hid (∀ W, Below w.heap.size w W → Calls Try.prog 7 #[F.val] W fun e w' => e = .returned (.bool b) ∧ Below W.heap.size W w') := fun W hW => small_any F W (hF.below hW) b hb
  have HH : Hid (∀ W : World, Calls Try.prog 8 #[] W fun e w' => e = .returned (.bool true) ∧ Below W.heap.size W w') := fhead_any
  obtain ⟨A, c, hA⟩ := hR.form
  rw [List.length_map] at hA
  obtain ⟨hc1, hc2⟩ := hcap _ _ _ hA
  obtain ⟨n, hn⟩ : ∃ n, zs.length = n := ⟨_, rfl⟩
  rw [hn] at hA hc1
  subst hA
  have CT : Hid (n ≤ 500 → ∀ W, Below w.heap.size w W → Calls Try.prog 18 #[F.val, .int .i64 s, .slice A n c] W fun e w' => e = .returned (.int .i64 (txt F.o s F.rs 0 zs)) ∧ Below W.heap.size W w') := fun h W hW => ftext_any F s zs _ W (hF.below hW) hw hs (hR.below hW) (by omega)
  have CR : Hid (n ≤ 500 → ∀ W, Below w.heap.size w W → Calls Try.prog 19 #[F.val, .int .i64 s, .slice A n c] W fun e w' => e = .returned (.int .i64 (txt F.o s F.rs 0 zs)) ∧ Below W.heap.size W w') := fun h W hW => rtext_any F s zs _ W (hF.below hW) hw hs (hR.below hW) (by omega)
  have CP : Hid (n ≤ 500 → ∀ (l : List Int) (u : Value), l.length ≤ 500 → Row (fun _ => False) w u (l.map (Value.int .i32)) → ∀ W, Below w.heap.size w W → Calls Try.prog 18 #[F.val, .int .i64 s, u] W fun e w' => e = .returned (.int .i64 (txt F.o s F.rs 0 l)) ∧ Below W.heap.size W w') := fun h l u hl hu W hW => ftext_any F s l u W (hF.below hW) hw hs (hu.below hW) hl
  have HN := Lib.hid hn
  have HR := Lib.hid hR
  have HBA : Hid (Below w.heap.size w (w.alloc (.cells F.cells 24))) := below_alloc _ _
  have HBX : Hid (Blk (w.alloc (.cells F.cells 24)) w.heap.size 24 F.cells) := Blk.new _ _ _
  clear hb hF hw hs hR hn hcap
  obtain ⟨Fa, Fd, Fg, Fx, Fo, Fv, Frs⟩ := F
  simp only [Fnt.val, Fnt.cells] at *
  unfold maxLen at hc2
  have hnz : (n : Int) ≤ 9223372036854775807 := by omega
  clear hc2
  go_enter Try.func4, Try.ntmps4
  go_wp2_with fail
  refine (CS.out _ HBA.out).mono ?_
  rintro e w1 ⟨rfl, b1⟩
  have bel : Below w.heap.size w w1 := below_seq HBA.out b1
  have HX : Hid (Blk w1 w.heap.size 24 #[.int .i64 Fa, .int .i64 Fd, .int .i64 Fg, .int .i64 Fx, .int .i64 Fo, Fv]) := HBX.out.keep (S := fun _ => False) (Mod.of_below b1) id
  clear b1 HBA HBX CS
  cases b with
  | false =>
    go_wp2_with fail
    refine (HH.out _).mono ?_
    rintro e w2 ⟨rfl, b2⟩
    go_wp2_with fail
    go_ret
    exact ⟨rfl, bel.trans (b2.mono bel.size)⟩
  | true =>
    by_cases h5 : n ≤ 500
    · have h5z : (n : Int) ≤ 500 := by omega
      have CT2 := Lib.hid (CT.out h5)
      have CR2 := Lib.hid (CR.out h5)
      have CP2 := Lib.hid (CP.out h5)
      clear CT CR CP
      have hX := HX.out
      have c0 : w1.cell? ⟨w.heap.size, 0, none⟩ = some (.int .i64 Fa) := hX.cell 0
      have c1 : w1.cell? ⟨w.heap.size, 1, none⟩ = some (.int .i64 Fd) := hX.cell 1
      have c2 : w1.cell? ⟨w.heap.size, 2, none⟩ = some (.int .i64 Fg) := hX.cell 2
      have c3 : w1.cell? ⟨w.heap.size, 3, none⟩ = some (.int .i64 Fx) := hX.cell 3
      have c4 : w1.cell? ⟨w.heap.size, 4, none⟩ = some (.int .i64 Fo) := hX.cell 4
      have c5 : w1.cell? ⟨w.heap.size, 5, none⟩ = some Fv := hX.cell 5
      obtain ⟨m, hm⟩ : ∃ m, n / 2 = m := ⟨_, rfl⟩
      have HD : Hid ((n : Int) / 2 = (m : Int)) := by show _ = _; omega
      have hmn : m ≤ n := by omega
      have hmz : (m : Int) ≤ n := by omega
      have hmc : m ≤ c := by omega
      have hl1 : (zs.take m).length ≤ 500 := by rw [List.length_take, HN.out]; omega
      have hl2 : (zs.drop m).length ≤ 500 := by rw [List.length_drop, HN.out]; omega
      have HP := Lib.hid (txt_parts Fo s Frs zs m (by rw [HN.out]; exact h5))
      obtain ⟨y, hy⟩ : ∃ y, txt Fo s Frs 0 zs = y := ⟨_, rfl⟩
      obtain ⟨y1, hy1⟩ : ∃ y, txt Fo s Frs 0 (zs.take m) = y := ⟨_, rfl⟩
      obtain ⟨y2, hy2⟩ : ∃ y, txt Fo s Frs 0 (zs.drop m) = y := ⟨_, rfl⟩
      rw [hy] at CT2 CR2 HP
      rw [hy1, hy2] at HP
      obtain ⟨p1, p2, p3, p4, p5⟩ := HP.out
      have hwr : IntKind.i64.wrap (y1 + y2) = y1 + y2 := IntWalk.i64_in _ (by omega)
      subst p1
      have HX1 := Lib.hid HX.out
      have HMM := Lib.hid hm
      clear hm hX HX HP
      go_wp2_with fail
      refine (CT2.out _ bel).mono ?_
      rintro e w2 ⟨rfl, b2⟩
      have HX2 : Hid (Blk w2 w.heap.size 24 #[.int .i64 Fa, .int .i64 Fd, .int .i64 Fg, .int .i64 Fx, .int .i64 Fo, Fv]) := HX1.out.keep (S := fun _ => False) (Mod.of_below b2) id
      have bel2 : Below w.heap.size w w2 := bel.trans (b2.mono bel.size)
      clear c0 c1 c2 c3 c4 c5 b2 bel
      have K : Hid (∀ W, Below w2.heap.size w2 W → (W.cell? ⟨w.heap.size, 0, none⟩ = some (.int .i64 Fa) ∧ W.cell? ⟨w.heap.size, 1, none⟩ = some (.int .i64 Fd) ∧ W.cell? ⟨w.heap.size, 2, none⟩ = some (.int .i64 Fg) ∧ W.cell? ⟨w.heap.size, 3, none⟩ = some (.int .i64 Fx) ∧ W.cell? ⟨w.heap.size, 4, none⟩ = some (.int .i64 Fo) ∧ W.cell? ⟨w.heap.size, 5, none⟩ = some (Fv))) := fun W hW => by
        have h := HX2.out.keep (S := fun _ => False) (Mod.of_below hW) id
        exact ⟨h.cell 0, h.cell 1, h.cell 2, h.cell 3, h.cell 4, h.cell 5⟩
      have HBel := Lib.hid bel2
      have C2 := Lib.hid CR2.out
      by_cases hcm : c = m
      · obtain rfl : n = 0 := by have := HMM.out; omega
        obtain rfl : m = 0 := by omega
        subst hcm
        obtain rfl : zs = [] := List.length_eq_zero_iff.1 HN.out
        have C3 := Lib.hid (CP2.out [] (.slice A 0 0) (by simp) HR.out)
        have C4 := Lib.hid (CP2.out [] (.slice A 0 0) (by simp) HR.out)
        rw [show txt Fo s Frs 0 [] = y1 from hy1] at C3
        rw [show txt Fo s Frs 0 [] = y2 from hy2] at C4
        clear hy1 hy2 CT2 CR2 CP2
        cases A with
        | none =>
          go_wp2_with fail
          refine region_go (by kernel_rfl) (fun R hR => ?_)
          refine AllS.take (i := 0) (v := ?_) (by rw [List.getElem?_toArray]; rfl) (by kernel_rfl) (by kernel_rfl) (by kernel_rfl) (KeepsIf.read (by rfl) ?_) ?_
          rotate_left
          · intro w hSw
            go_simp
            (try with_reducible rfl)
          rotate_left
          (try simp only [Act.put, List.setIfInBounds_toArray, List.set_cons_zero, List.set_cons_succ])
          refine AllS.take (i := 1) (v := ?_) (by rw [List.getElem?_toArray]; rfl) (by kernel_rfl) (by kernel_rfl) (by kernel_rfl) (KeepsIf.read (by rfl) ?_) ?_
          rotate_left
          · intro w hSw
            obtain ⟨k0, k1, k2, k3, k4, k5⟩ := K.out w hSw
            go_simp
            (try with_reducible rfl)
          rotate_left
          (try simp only [Act.put, List.setIfInBounds_toArray, List.set_cons_zero, List.set_cons_succ])
          refine AllS.take (i := 2) (v := ?_) (by rw [List.getElem?_toArray]; rfl) (by kernel_rfl) (by kernel_rfl) (by kernel_rfl) (KeepsIf.read (by rfl) ?_) ?_
          rotate_left
          · intro w hSw
            go_simp
            (try with_reducible rfl)
          rotate_left
          (try simp only [Act.put, List.setIfInBounds_toArray, List.set_cons_zero, List.set_cons_succ])
          refine AllS.take (i := 3) (v := ?_) (by rw [List.getElem?_toArray]; rfl) (by kernel_rfl) (by kernel_rfl) (by kernel_rfl) (KeepsIf.read (by rfl) ?_) ?_
          rotate_left
          · intro w hSw
            go_simp
            (try with_reducible rfl)
          rotate_left
          (try simp only [Act.put, List.setIfInBounds_toArray, List.set_cons_zero, List.set_cons_succ])
          refine AllS.take (i := 4) (v := .int .i64 (y1 + y2)) (by rw [List.getElem?_toArray]; rfl) (by kernel_rfl) (by kernel_rfl) (by kernel_rfl) (KeepsIf.call 19 #[.agg #[.int .i64 Fa, .int .i64 Fd, .int .i64 Fg, .int .i64 Fx, .int .i64 Fo, Fv], .int .i64 s, .slice none 0 0] (by kernel_rfl) (fun w => ?_) (fun w hSw => ?_)) ?_
          · go_simp
          · exact (C2.out w (HBel.out.trans (hSw.mono HBel.out.size))).mono (fun e w' h => ⟨h.1, below_seq hSw h.2⟩)
          (try simp only [Act.put, List.setIfInBounds_toArray, List.set_cons_zero, List.set_cons_succ])
          refine AllS.take (i := 5) (v := ?_) (by rw [List.getElem?_toArray]; rfl) (by kernel_rfl) (by kernel_rfl) (by kernel_rfl) (KeepsIf.read (by rfl) ?_) ?_
          rotate_left
          · intro w hSw
            go_simp
            (try with_reducible rfl)
          rotate_left
          (try simp only [Act.put, List.setIfInBounds_toArray, List.set_cons_zero, List.set_cons_succ])
          refine AllS.take (i := 6) (v := ?_) (by rw [List.getElem?_toArray]; rfl) (by kernel_rfl) (by kernel_rfl) (by kernel_rfl) (KeepsIf.read (by rfl) ?_) ?_
          rotate_left
          · intro w hSw
            go_simp
            (try with_reducible rfl)
          rotate_left
          (try simp only [Act.put, List.setIfInBounds_toArray, List.set_cons_zero, List.set_cons_succ])
          refine AllS.take (i := 7) (v := ?_) (by rw [List.getElem?_toArray]; rfl) (by kernel_rfl) (by kernel_rfl) (by kernel_rfl) (KeepsIf.read (by rfl) ?_) ?_
          rotate_left
          · intro w hSw
            go_simp
            (try with_reducible rfl)
          rotate_left
          (try simp only [Act.put, List.setIfInBounds_toArray, List.set_cons_zero, List.set_cons_succ])
          refine AllS.take (i := 8) (v := ?_) (by rw [List.getElem?_toArray]; rfl) (by kernel_rfl) (by kernel_rfl) (by kernel_rfl) (KeepsIf.read (by rfl) ?_) ?_
          rotate_left
          · intro w hSw
            obtain ⟨k0, k1, k2, k3, k4, k5⟩ := K.out w hSw
            go_simp
            (try with_reducible rfl)
          rotate_left
          (try simp only [Act.put, List.setIfInBounds_toArray, List.set_cons_zero, List.set_cons_succ])
          refine AllS.take (i := 9) (v := ?_) (by rw [List.getElem?_toArray]; rfl) (by kernel_rfl) (by kernel_rfl) (by kernel_rfl) (KeepsIf.read (by rfl) ?_) ?_
          rotate_left
          · intro w hSw
            go_simp
            (try with_reducible rfl)
          rotate_left
          (try simp only [Act.put, List.setIfInBounds_toArray, List.set_cons_zero, List.set_cons_succ])
          refine AllS.take (i := 10) (v := ?_) (by rw [List.getElem?_toArray]; rfl) (by kernel_rfl) (by kernel_rfl) (by kernel_rfl) (KeepsIf.read (by rfl) ?_) ?_
          rotate_left
          · intro w hSw
            go_simp
            (try with_reducible rfl)
          rotate_left
          (try simp only [Act.put, List.setIfInBounds_toArray, List.set_cons_zero, List.set_cons_succ])
          refine AllS.take (i := 11) (v := ?_) (by rw [List.getElem?_toArray]; rfl) (by kernel_rfl) (by kernel_rfl) (by kernel_rfl) (KeepsIf.read (by rfl) ?_) ?_
          rotate_left
          · intro w hSw
            go_simp
            (try with_reducible rfl)
          rotate_left
          (try simp only [Act.put, List.setIfInBounds_toArray, List.set_cons_zero, List.set_cons_succ])
          refine AllS.take (i := 12) (v := ?_) (by rw [List.getElem?_toArray]; rfl) (by kernel_rfl) (by kernel_rfl) (by kernel_rfl) (KeepsIf.read (by rfl) ?_) ?_
          rotate_left
          · intro w hSw
            go_simp
            (try with_reducible rfl)
          rotate_left
          (try simp only [Act.put, List.setIfInBounds_toArray, List.set_cons_zero, List.set_cons_succ])
          refine AllS.take (i := 13) (v := .int .i64 y1) (by rw [List.getElem?_toArray]; rfl) (by kernel_rfl) (by kernel_rfl) (by kernel_rfl) (KeepsIf.call 18 #[.agg #[.int .i64 Fa, .int .i64 Fd, .int .i64 Fg, .int .i64 Fx, .int .i64 Fo, Fv], .int .i64 s, .slice none 0 0] (by kernel_rfl) (fun w => ?_) (fun w hSw => ?_)) ?_
          · go_simp
          · exact (C3.out w (HBel.out.trans (hSw.mono HBel.out.size))).mono (fun e w' h => ⟨h.1, below_seq hSw h.2⟩)
          (try simp only [Act.put, List.setIfInBounds_toArray, List.set_cons_zero, List.set_cons_succ])
          refine AllS.take (i := 14) (v := ?_) (by rw [List.getElem?_toArray]; rfl) (by kernel_rfl) (by kernel_rfl) (by kernel_rfl) (KeepsIf.read (by rfl) ?_) ?_
          rotate_left
          · intro w hSw
            obtain ⟨k0, k1, k2, k3, k4, k5⟩ := K.out w hSw
            go_simp
            (try with_reducible rfl)
          rotate_left
          (try simp only [Act.put, List.setIfInBounds_toArray, List.set_cons_zero, List.set_cons_succ])
          refine AllS.take (i := 15) (v := ?_) (by rw [List.getElem?_toArray]; rfl) (by kernel_rfl) (by kernel_rfl) (by kernel_rfl) (KeepsIf.read (by rfl) ?_) ?_
          rotate_left
          · intro w hSw
            go_simp
            (try with_reducible rfl)
          rotate_left
          (try simp only [Act.put, List.setIfInBounds_toArray, List.set_cons_zero, List.set_cons_succ])
          refine AllS.take (i := 16) (v := ?_) (by rw [List.getElem?_toArray]; rfl) (by kernel_rfl) (by kernel_rfl) (by kernel_rfl) (KeepsIf.read (by rfl) ?_) ?_
          rotate_left
          · intro w hSw
            go_simp
            (try with_reducible rfl)
          rotate_left
          (try simp only [Act.put, List.setIfInBounds_toArray, List.set_cons_zero, List.set_cons_succ])
          refine AllS.take (i := 17) (v := ?_) (by rw [List.getElem?_toArray]; rfl) (by kernel_rfl) (by kernel_rfl) (by kernel_rfl) (KeepsIf.read (by rfl) ?_) ?_
          rotate_left
          · intro w hSw
            go_simp
            (try with_reducible rfl)
          rotate_left
          (try simp only [Act.put, List.setIfInBounds_toArray, List.set_cons_zero, List.set_cons_succ])
          refine AllS.take (i := 18) (v := ?_) (by rw [List.getElem?_toArray]; rfl) (by kernel_rfl) (by kernel_rfl) (by kernel_rfl) (KeepsIf.read (by rfl) ?_) ?_
          rotate_left
          · intro w hSw
            go_simp
            (try with_reducible rfl)
          rotate_left
          (try simp only [Act.put, List.setIfInBounds_toArray, List.set_cons_zero, List.set_cons_succ])
          refine AllS.take (i := 19) (v := .int .i64 y2) (by rw [List.getElem?_toArray]; rfl) (by kernel_rfl) (by kernel_rfl) (by kernel_rfl) (KeepsIf.call 18 #[.agg #[.int .i64 Fa, .int .i64 Fd, .int .i64 Fg, .int .i64 Fx, .int .i64 Fo, Fv], .int .i64 s, .slice none 0 0] (by kernel_rfl) (fun w => ?_) (fun w hSw => ?_)) ?_
          · go_simp
          · exact (C4.out w (HBel.out.trans (hSw.mono HBel.out.size))).mono (fun e w' h => ⟨h.1, below_seq hSw h.2⟩)
          (try simp only [Act.put, List.setIfInBounds_toArray, List.set_cons_zero, List.set_cons_succ])
          refine AllS.take (i := 20) (v := ?_) (by rw [List.getElem?_toArray]; rfl) (by kernel_rfl) (by kernel_rfl) (by kernel_rfl) (KeepsIf.read (by rfl) ?_) ?_
          rotate_left
          · intro w hSw
            go_simp
            (try with_reducible rfl)
          rotate_left
          (try simp only [Act.put, List.setIfInBounds_toArray, List.set_cons_zero, List.set_cons_succ])
          refine AllS.take (i := 21) (v := ?_) (by rw [List.getElem?_toArray]; rfl) (by kernel_rfl) (by kernel_rfl) (by kernel_rfl) (KeepsIf.read (by rfl) ?_) ?_
          rotate_left
          · intro w hSw
            go_simp
            (try with_reducible rfl)
          rotate_left
          (try simp only [Act.put, List.setIfInBounds_toArray, List.set_cons_zero, List.set_cons_succ])
          refine AllS.take (i := 22) (v := ?_) (by rw [List.getElem?_toArray]; rfl) (by kernel_rfl) (by kernel_rfl) (by kernel_rfl) (KeepsIf.read (by rfl) ?_) ?_
          rotate_left
          · intro w hSw
            go_simp
            (try with_reducible rfl)
          rotate_left
          (try simp only [Act.put, List.setIfInBounds_toArray, List.set_cons_zero, List.set_cons_succ])
          refine AllS.take (i := 23) (v := ?_) (by rw [List.getElem?_toArray]; rfl) (by kernel_rfl) (by kernel_rfl) (by kernel_rfl) (KeepsIf.read (by rfl) ?_) ?_
          rotate_left
          · intro w hSw
            go_simp
            (try with_reducible rfl)
          rotate_left
          (try simp only [Act.put, List.setIfInBounds_toArray, List.set_cons_zero, List.set_cons_succ])
          refine AllS.take (i := 24) (v := .bool true) (by rw [List.getElem?_toArray]; rfl) (by kernel_rfl) (by kernel_rfl) (by kernel_rfl) (KeepsIf.call 8 #[] (by kernel_rfl) (fun w => ?_) (fun w hSw => ?_)) ?_
          · go_simp
          · exact (HH.out w).mono (fun e w' h => ⟨h.1, below_seq hSw h.2⟩)
          (try simp only [Act.put, List.setIfInBounds_toArray, List.set_cons_zero, List.set_cons_succ])
          refine AllS.take (i := 25) (v := ?_) (by rw [List.getElem?_toArray]; rfl) (by kernel_rfl) (by kernel_rfl) (by kernel_rfl) (KeepsIf.read (by rfl) ?_) ?_
          rotate_left
          · intro w hSw
            go_simp
            (try with_reducible rfl)
          rotate_left
          (try simp only [Act.put, List.setIfInBounds_toArray, List.set_cons_zero, List.set_cons_succ])
          refine AllS.take (i := 26) (v := ?_) (by rw [List.getElem?_toArray]; rfl) (by kernel_rfl) (by kernel_rfl) (by kernel_rfl) (KeepsIf.read (by rfl) ?_) ?_
          rotate_left
          · intro w hSw
            go_simp
            (try with_reducible rfl)
          rotate_left
          (try simp only [Act.put, List.setIfInBounds_toArray, List.set_cons_zero, List.set_cons_succ])
          refine AllS.done (by kernel_rfl) (hR.out _ ?_) _
          clear hR R

          intro w' hb
          go_wp2_with fail
          go_ret
          exact ⟨rfl, HBel.out.trans (hb.mono HBel.out.size)⟩
        | some a =>
          go_wp2_with fail
          refine region_go (by kernel_rfl) (fun R hR => ?_)
          refine AllS.take (i := 0) (v := ?_) (by rw [List.getElem?_toArray]; rfl) (by kernel_rfl) (by kernel_rfl) (by kernel_rfl) (KeepsIf.read (by rfl) ?_) ?_
          rotate_left
          · intro w hSw
            go_simp
            (try with_reducible rfl)
          rotate_left
          (try simp only [Act.put, List.setIfInBounds_toArray, List.set_cons_zero, List.set_cons_succ])
          refine AllS.take (i := 1) (v := ?_) (by rw [List.getElem?_toArray]; rfl) (by kernel_rfl) (by kernel_rfl) (by kernel_rfl) (KeepsIf.read (by rfl) ?_) ?_
          rotate_left
          · intro w hSw
            obtain ⟨k0, k1, k2, k3, k4, k5⟩ := K.out w hSw
            go_simp
            (try with_reducible rfl)
          rotate_left
          (try simp only [Act.put, List.setIfInBounds_toArray, List.set_cons_zero, List.set_cons_succ])
          refine AllS.take (i := 2) (v := ?_) (by rw [List.getElem?_toArray]; rfl) (by kernel_rfl) (by kernel_rfl) (by kernel_rfl) (KeepsIf.read (by rfl) ?_) ?_
          rotate_left
          · intro w hSw
            go_simp
            (try with_reducible rfl)
          rotate_left
          (try simp only [Act.put, List.setIfInBounds_toArray, List.set_cons_zero, List.set_cons_succ])
          refine AllS.take (i := 3) (v := ?_) (by rw [List.getElem?_toArray]; rfl) (by kernel_rfl) (by kernel_rfl) (by kernel_rfl) (KeepsIf.read (by rfl) ?_) ?_
          rotate_left
          · intro w hSw
            go_simp
            (try with_reducible rfl)
          rotate_left
          (try simp only [Act.put, List.setIfInBounds_toArray, List.set_cons_zero, List.set_cons_succ])
          refine AllS.take (i := 4) (v := .int .i64 (y1 + y2)) (by rw [List.getElem?_toArray]; rfl) (by kernel_rfl) (by kernel_rfl) (by kernel_rfl) (KeepsIf.call 19 #[.agg #[.int .i64 Fa, .int .i64 Fd, .int .i64 Fg, .int .i64 Fx, .int .i64 Fo, Fv], .int .i64 s, .slice (some a) 0 0] (by kernel_rfl) (fun w => ?_) (fun w hSw => ?_)) ?_
          · go_simp
          · exact (C2.out w (HBel.out.trans (hSw.mono HBel.out.size))).mono (fun e w' h => ⟨h.1, below_seq hSw h.2⟩)
          (try simp only [Act.put, List.setIfInBounds_toArray, List.set_cons_zero, List.set_cons_succ])
          refine AllS.take (i := 5) (v := ?_) (by rw [List.getElem?_toArray]; rfl) (by kernel_rfl) (by kernel_rfl) (by kernel_rfl) (KeepsIf.read (by rfl) ?_) ?_
          rotate_left
          · intro w hSw
            go_simp
            (try with_reducible rfl)
          rotate_left
          (try simp only [Act.put, List.setIfInBounds_toArray, List.set_cons_zero, List.set_cons_succ])
          refine AllS.take (i := 6) (v := ?_) (by rw [List.getElem?_toArray]; rfl) (by kernel_rfl) (by kernel_rfl) (by kernel_rfl) (KeepsIf.read (by rfl) ?_) ?_
          rotate_left
          · intro w hSw
            go_simp
            (try with_reducible rfl)
          rotate_left
          (try simp only [Act.put, List.setIfInBounds_toArray, List.set_cons_zero, List.set_cons_succ])
          refine AllS.take (i := 7) (v := ?_) (by rw [List.getElem?_toArray]; rfl) (by kernel_rfl) (by kernel_rfl) (by kernel_rfl) (KeepsIf.read (by rfl) ?_) ?_
          rotate_left
          · intro w hSw
            go_simp
            (try with_reducible rfl)
          rotate_left
          (try simp only [Act.put, List.setIfInBounds_toArray, List.set_cons_zero, List.set_cons_succ])
          refine AllS.take (i := 8) (v := ?_) (by rw [List.getElem?_toArray]; rfl) (by kernel_rfl) (by kernel_rfl) (by kernel_rfl) (KeepsIf.read (by rfl) ?_) ?_
          rotate_left
          · intro w hSw
            obtain ⟨k0, k1, k2, k3, k4, k5⟩ := K.out w hSw
            go_simp
            (try with_reducible rfl)
          rotate_left
          (try simp only [Act.put, List.setIfInBounds_toArray, List.set_cons_zero, List.set_cons_succ])
          refine AllS.take (i := 9) (v := ?_) (by rw [List.getElem?_toArray]; rfl) (by kernel_rfl) (by kernel_rfl) (by kernel_rfl) (KeepsIf.read (by rfl) ?_) ?_
          rotate_left
          · intro w hSw
            go_simp
            (try with_reducible rfl)
          rotate_left
          (try simp only [Act.put, List.setIfInBounds_toArray, List.set_cons_zero, List.set_cons_succ])
          refine AllS.take (i := 10) (v := ?_) (by rw [List.getElem?_toArray]; rfl) (by kernel_rfl) (by kernel_rfl) (by kernel_rfl) (KeepsIf.read (by rfl) ?_) ?_
          rotate_left
          · intro w hSw
            go_simp
            (try with_reducible rfl)
          rotate_left
          (try simp only [Act.put, List.setIfInBounds_toArray, List.set_cons_zero, List.set_cons_succ])
          refine AllS.take (i := 11) (v := ?_) (by rw [List.getElem?_toArray]; rfl) (by kernel_rfl) (by kernel_rfl) (by kernel_rfl) (KeepsIf.read (by rfl) ?_) ?_
          rotate_left
          · intro w hSw
            go_simp
            (try with_reducible rfl)
          rotate_left
          (try simp only [Act.put, List.setIfInBounds_toArray, List.set_cons_zero, List.set_cons_succ])
          refine AllS.take (i := 12) (v := ?_) (by rw [List.getElem?_toArray]; rfl) (by kernel_rfl) (by kernel_rfl) (by kernel_rfl) (KeepsIf.read (by rfl) ?_) ?_
          rotate_left
          · intro w hSw
            go_simp
            (try with_reducible rfl)
          rotate_left
          (try simp only [Act.put, List.setIfInBounds_toArray, List.set_cons_zero, List.set_cons_succ])
          refine AllS.take (i := 13) (v := .int .i64 y1) (by rw [List.getElem?_toArray]; rfl) (by kernel_rfl) (by kernel_rfl) (by kernel_rfl) (KeepsIf.call 18 #[.agg #[.int .i64 Fa, .int .i64 Fd, .int .i64 Fg, .int .i64 Fx, .int .i64 Fo, Fv], .int .i64 s, .slice (some a) 0 0] (by kernel_rfl) (fun w => ?_) (fun w hSw => ?_)) ?_
          · go_simp
          · exact (C3.out w (HBel.out.trans (hSw.mono HBel.out.size))).mono (fun e w' h => ⟨h.1, below_seq hSw h.2⟩)
          (try simp only [Act.put, List.setIfInBounds_toArray, List.set_cons_zero, List.set_cons_succ])
          refine AllS.take (i := 14) (v := ?_) (by rw [List.getElem?_toArray]; rfl) (by kernel_rfl) (by kernel_rfl) (by kernel_rfl) (KeepsIf.read (by rfl) ?_) ?_
          rotate_left
          · intro w hSw
            obtain ⟨k0, k1, k2, k3, k4, k5⟩ := K.out w hSw
            go_simp
            (try with_reducible rfl)
          rotate_left
          (try simp only [Act.put, List.setIfInBounds_toArray, List.set_cons_zero, List.set_cons_succ])
          refine AllS.take (i := 15) (v := ?_) (by rw [List.getElem?_toArray]; rfl) (by kernel_rfl) (by kernel_rfl) (by kernel_rfl) (KeepsIf.read (by rfl) ?_) ?_
          rotate_left
          · intro w hSw
            go_simp
            (try with_reducible rfl)
          rotate_left
          (try simp only [Act.put, List.setIfInBounds_toArray, List.set_cons_zero, List.set_cons_succ])
          refine AllS.take (i := 16) (v := ?_) (by rw [List.getElem?_toArray]; rfl) (by kernel_rfl) (by kernel_rfl) (by kernel_rfl) (KeepsIf.read (by rfl) ?_) ?_
          rotate_left
          · intro w hSw
            go_simp
            (try with_reducible rfl)
          rotate_left
          (try simp only [Act.put, List.setIfInBounds_toArray, List.set_cons_zero, List.set_cons_succ])
          refine AllS.take (i := 17) (v := ?_) (by rw [List.getElem?_toArray]; rfl) (by kernel_rfl) (by kernel_rfl) (by kernel_rfl) (KeepsIf.read (by rfl) ?_) ?_
          rotate_left
          · intro w hSw
            go_simp
            (try with_reducible rfl)
          rotate_left
          (try simp only [Act.put, List.setIfInBounds_toArray, List.set_cons_zero, List.set_cons_succ])
          refine AllS.take (i := 18) (v := ?_) (by rw [List.getElem?_toArray]; rfl) (by kernel_rfl) (by kernel_rfl) (by kernel_rfl) (KeepsIf.read (by rfl) ?_) ?_
          rotate_left
          · intro w hSw
            go_simp
            (try with_reducible rfl)
          rotate_left
          (try simp only [Act.put, List.setIfInBounds_toArray, List.set_cons_zero, List.set_cons_succ])
          refine AllS.take (i := 19) (v := .int .i64 y2) (by rw [List.getElem?_toArray]; rfl) (by kernel_rfl) (by kernel_rfl) (by kernel_rfl) (KeepsIf.call 18 #[.agg #[.int .i64 Fa, .int .i64 Fd, .int .i64 Fg, .int .i64 Fx, .int .i64 Fo, Fv], .int .i64 s, .slice (some a) 0 0] (by kernel_rfl) (fun w => ?_) (fun w hSw => ?_)) ?_
          · go_simp
          · exact (C4.out w (HBel.out.trans (hSw.mono HBel.out.size))).mono (fun e w' h => ⟨h.1, below_seq hSw h.2⟩)
          (try simp only [Act.put, List.setIfInBounds_toArray, List.set_cons_zero, List.set_cons_succ])
          refine AllS.take (i := 20) (v := ?_) (by rw [List.getElem?_toArray]; rfl) (by kernel_rfl) (by kernel_rfl) (by kernel_rfl) (KeepsIf.read (by rfl) ?_) ?_
          rotate_left
          · intro w hSw
            go_simp
            (try with_reducible rfl)
          rotate_left
          (try simp only [Act.put, List.setIfInBounds_toArray, List.set_cons_zero, List.set_cons_succ])
          refine AllS.take (i := 21) (v := ?_) (by rw [List.getElem?_toArray]; rfl) (by kernel_rfl) (by kernel_rfl) (by kernel_rfl) (KeepsIf.read (by rfl) ?_) ?_
          rotate_left
          · intro w hSw
            go_simp
            (try with_reducible rfl)
          rotate_left
          (try simp only [Act.put, List.setIfInBounds_toArray, List.set_cons_zero, List.set_cons_succ])
          refine AllS.take (i := 22) (v := ?_) (by rw [List.getElem?_toArray]; rfl) (by kernel_rfl) (by kernel_rfl) (by kernel_rfl) (KeepsIf.read (by rfl) ?_) ?_
          rotate_left
          · intro w hSw
            go_simp
            (try with_reducible rfl)
          rotate_left
          (try simp only [Act.put, List.setIfInBounds_toArray, List.set_cons_zero, List.set_cons_succ])
          refine AllS.take (i := 23) (v := ?_) (by rw [List.getElem?_toArray]; rfl) (by kernel_rfl) (by kernel_rfl) (by kernel_rfl) (KeepsIf.read (by rfl) ?_) ?_
          rotate_left
          · intro w hSw
            go_simp
            (try with_reducible rfl)
          rotate_left
          (try simp only [Act.put, List.setIfInBounds_toArray, List.set_cons_zero, List.set_cons_succ])
          refine AllS.take (i := 24) (v := .bool true) (by rw [List.getElem?_toArray]; rfl) (by kernel_rfl) (by kernel_rfl) (by kernel_rfl) (KeepsIf.call 8 #[] (by kernel_rfl) (fun w => ?_) (fun w hSw => ?_)) ?_
          · go_simp
          · exact (HH.out w).mono (fun e w' h => ⟨h.1, below_seq hSw h.2⟩)
          (try simp only [Act.put, List.setIfInBounds_toArray, List.set_cons_zero, List.set_cons_succ])
          refine AllS.take (i := 25) (v := ?_) (by rw [List.getElem?_toArray]; rfl) (by kernel_rfl) (by kernel_rfl) (by kernel_rfl) (KeepsIf.read (by rfl) ?_) ?_
          rotate_left
          · intro w hSw
            go_simp
            (try with_reducible rfl)
          rotate_left
          (try simp only [Act.put, List.setIfInBounds_toArray, List.set_cons_zero, List.set_cons_succ])
          refine AllS.take (i := 26) (v := ?_) (by rw [List.getElem?_toArray]; rfl) (by kernel_rfl) (by kernel_rfl) (by kernel_rfl) (KeepsIf.read (by rfl) ?_) ?_
          rotate_left
          · intro w hSw
            go_simp
            (try with_reducible rfl)
          rotate_left
          (try simp only [Act.put, List.setIfInBounds_toArray, List.set_cons_zero, List.set_cons_succ])
          refine AllS.done (by kernel_rfl) (hR.out _ ?_) _
          clear hR R

          intro w' hb
          go_wp2_with fail
          go_ret
          exact ⟨rfl, HBel.out.trans (hb.mono HBel.out.size)⟩
      · obtain ⟨a, rfl⟩ : ∃ a, A = some a := by
          rcases HR.out with ⟨h1, h2⟩ | ⟨a', cap', hv, _⟩
          · injection h1 with _ h3 h4
            omega
          · injection hv with h1
            exact ⟨_, h1⟩
        have C3 := Lib.hid (CP2.out _ _ hl1 (by have := HR.out.take (k := m) (by rw [List.length_map, HN.out]; exact hmn); rwa [← List.map_take] at this))
        have C4 := Lib.hid (CP2.out _ _ hl2 (by have := HR.out.drop (k := m) (m := n - m) (c := c - m) (by rw [List.length_map, HN.out]); rwa [← List.map_drop] at this))
        rw [hy1] at C3
        rw [hy2] at C4
        clear hy1 hy2 CT2 CR2 CP2
        go_wp2_with fail
        rw [HD.out]
        refine region_go (by kernel_rfl) (fun R hR => ?_)
        refine AllS.take (i := 0) (v := ?_) (by rw [List.getElem?_toArray]; rfl) (by kernel_rfl) (by kernel_rfl) (by kernel_rfl) (KeepsIf.read (by rfl) ?_) ?_
        rotate_left
        · intro w hSw
          go_simp
          (try with_reducible rfl)
        rotate_left
        (try simp only [Act.put, List.setIfInBounds_toArray, List.set_cons_zero, List.set_cons_succ])
        refine AllS.take (i := 1) (v := ?_) (by rw [List.getElem?_toArray]; rfl) (by kernel_rfl) (by kernel_rfl) (by kernel_rfl) (KeepsIf.read (by rfl) ?_) ?_
        rotate_left
        · intro w hSw
          obtain ⟨k0, k1, k2, k3, k4, k5⟩ := K.out w hSw
          go_simp
          (try with_reducible rfl)
        rotate_left
        (try simp only [Act.put, List.setIfInBounds_toArray, List.set_cons_zero, List.set_cons_succ])
        refine AllS.take (i := 2) (v := ?_) (by rw [List.getElem?_toArray]; rfl) (by kernel_rfl) (by kernel_rfl) (by kernel_rfl) (KeepsIf.read (by rfl) ?_) ?_
        rotate_left
        · intro w hSw
          go_simp
          (try with_reducible rfl)
        rotate_left
        (try simp only [Act.put, List.setIfInBounds_toArray, List.set_cons_zero, List.set_cons_succ])
        refine AllS.take (i := 3) (v := ?_) (by rw [List.getElem?_toArray]; rfl) (by kernel_rfl) (by kernel_rfl) (by kernel_rfl) (KeepsIf.read (by rfl) ?_) ?_
        rotate_left
        · intro w hSw
          go_simp
          (try with_reducible rfl)
        rotate_left
        (try simp only [Act.put, List.setIfInBounds_toArray, List.set_cons_zero, List.set_cons_succ])
        refine AllS.take (i := 4) (v := .int .i64 (y1 + y2)) (by rw [List.getElem?_toArray]; rfl) (by kernel_rfl) (by kernel_rfl) (by kernel_rfl) (KeepsIf.call 19 #[.agg #[.int .i64 Fa, .int .i64 Fd, .int .i64 Fg, .int .i64 Fx, .int .i64 Fo, Fv], .int .i64 s, .slice (some a) n c] (by kernel_rfl) (fun w => ?_) (fun w hSw => ?_)) ?_
        · go_simp
        · exact (C2.out w (HBel.out.trans (hSw.mono HBel.out.size))).mono (fun e w' h => ⟨h.1, below_seq hSw h.2⟩)
        (try simp only [Act.put, List.setIfInBounds_toArray, List.set_cons_zero, List.set_cons_succ])
        refine AllS.take (i := 5) (v := ?_) (by rw [List.getElem?_toArray]; rfl) (by kernel_rfl) (by kernel_rfl) (by kernel_rfl) (KeepsIf.read (by rfl) ?_) ?_
        rotate_left
        · intro w hSw
          go_simp
          (try with_reducible rfl)
        rotate_left
        (try simp only [Act.put, List.setIfInBounds_toArray, List.set_cons_zero, List.set_cons_succ])
        refine AllS.take (i := 6) (v := ?_) (by rw [List.getElem?_toArray]; rfl) (by kernel_rfl) (by kernel_rfl) (by kernel_rfl) (KeepsIf.read (by rfl) ?_) ?_
        rotate_left
        · intro w hSw
          go_simp
          (try with_reducible rfl)
        rotate_left
        (try simp only [Act.put, List.setIfInBounds_toArray, List.set_cons_zero, List.set_cons_succ])
        refine AllS.take (i := 7) (v := ?_) (by rw [List.getElem?_toArray]; rfl) (by kernel_rfl) (by kernel_rfl) (by kernel_rfl) (KeepsIf.read (by rfl) ?_) ?_
        rotate_left
        · intro w hSw
          go_simp
          (try with_reducible rfl)
        rotate_left
        (try simp only [Act.put, List.setIfInBounds_toArray, List.set_cons_zero, List.set_cons_succ])
        refine AllS.take (i := 8) (v := ?_) (by rw [List.getElem?_toArray]; rfl) (by kernel_rfl) (by kernel_rfl) (by kernel_rfl) (KeepsIf.read (by rfl) ?_) ?_
        rotate_left
        · intro w hSw
          obtain ⟨k0, k1, k2, k3, k4, k5⟩ := K.out w hSw
          go_simp
          (try with_reducible rfl)
        rotate_left
        (try simp only [Act.put, List.setIfInBounds_toArray, List.set_cons_zero, List.set_cons_succ])
        refine AllS.take (i := 9) (v := ?_) (by rw [List.getElem?_toArray]; rfl) (by kernel_rfl) (by kernel_rfl) (by kernel_rfl) (KeepsIf.read (by rfl) ?_) ?_
        rotate_left
        · intro w hSw
          go_simp
          (try with_reducible rfl)
        rotate_left
        (try simp only [Act.put, List.setIfInBounds_toArray, List.set_cons_zero, List.set_cons_succ])
        refine AllS.take (i := 10) (v := ?_) (by rw [List.getElem?_toArray]; rfl) (by kernel_rfl) (by kernel_rfl) (by kernel_rfl) (KeepsIf.read (by rfl) ?_) ?_
        rotate_left
        · intro w hSw
          go_simp
          (try with_reducible rfl)
        rotate_left
        (try simp only [Act.put, List.setIfInBounds_toArray, List.set_cons_zero, List.set_cons_succ])
        refine AllS.take (i := 11) (v := ?_) (by rw [List.getElem?_toArray]; rfl) (by kernel_rfl) (by kernel_rfl) (by kernel_rfl) (KeepsIf.read (by rfl) ?_) ?_
        rotate_left
        · intro w hSw
          go_simp
          (try with_reducible rfl)
        rotate_left
        (try simp only [Act.put, List.setIfInBounds_toArray, List.set_cons_zero, List.set_cons_succ])
        refine AllS.take (i := 12) (v := ?_) (by rw [List.getElem?_toArray]; rfl) (by kernel_rfl) (by kernel_rfl) (by kernel_rfl) (KeepsIf.read (by rfl) ?_) ?_
        rotate_left
        · intro w hSw
          go_simp
          (try with_reducible rfl)
        rotate_left
        (try simp only [Act.put, List.setIfInBounds_toArray, List.set_cons_zero, List.set_cons_succ])
        refine AllS.take (i := 13) (v := .int .i64 y1) (by rw [List.getElem?_toArray]; rfl) (by kernel_rfl) (by kernel_rfl) (by kernel_rfl) (KeepsIf.call 18 #[.agg #[.int .i64 Fa, .int .i64 Fd, .int .i64 Fg, .int .i64 Fx, .int .i64 Fo, Fv], .int .i64 s, .slice (some a) m c] (by kernel_rfl) (fun w => ?_) (fun w hSw => ?_)) ?_
        · go_simp
        · exact (C3.out w (HBel.out.trans (hSw.mono HBel.out.size))).mono (fun e w' h => ⟨h.1, below_seq hSw h.2⟩)
        (try simp only [Act.put, List.setIfInBounds_toArray, List.set_cons_zero, List.set_cons_succ])
        refine AllS.take (i := 14) (v := ?_) (by rw [List.getElem?_toArray]; rfl) (by kernel_rfl) (by kernel_rfl) (by kernel_rfl) (KeepsIf.read (by rfl) ?_) ?_
        rotate_left
        · intro w hSw
          obtain ⟨k0, k1, k2, k3, k4, k5⟩ := K.out w hSw
          go_simp
          (try with_reducible rfl)
        rotate_left
        (try simp only [Act.put, List.setIfInBounds_toArray, List.set_cons_zero, List.set_cons_succ])
        refine AllS.take (i := 15) (v := ?_) (by rw [List.getElem?_toArray]; rfl) (by kernel_rfl) (by kernel_rfl) (by kernel_rfl) (KeepsIf.read (by rfl) ?_) ?_
        rotate_left
        · intro w hSw
          go_simp
          (try with_reducible rfl)
        rotate_left
        (try simp only [Act.put, List.setIfInBounds_toArray, List.set_cons_zero, List.set_cons_succ])
        refine AllS.take (i := 16) (v := ?_) (by rw [List.getElem?_toArray]; rfl) (by kernel_rfl) (by kernel_rfl) (by kernel_rfl) (KeepsIf.read (by rfl) ?_) ?_
        rotate_left
        · intro w hSw
          go_simp
          (try with_reducible rfl)
        rotate_left
        (try simp only [Act.put, List.setIfInBounds_toArray, List.set_cons_zero, List.set_cons_succ])
        refine AllS.take (i := 17) (v := ?_) (by rw [List.getElem?_toArray]; rfl) (by kernel_rfl) (by kernel_rfl) (by kernel_rfl) (KeepsIf.read (by rfl) ?_) ?_
        rotate_left
        · intro w hSw
          go_simp
          (try with_reducible rfl)
        rotate_left
        (try simp only [Act.put, List.setIfInBounds_toArray, List.set_cons_zero, List.set_cons_succ])
        refine AllS.take (i := 18) (v := ?_) (by rw [List.getElem?_toArray]; rfl) (by kernel_rfl) (by kernel_rfl) (by kernel_rfl) (KeepsIf.read (by rfl) ?_) ?_
        rotate_left
        · intro w hSw
          go_simp
          (try with_reducible rfl)
        rotate_left
        (try simp only [Act.put, List.setIfInBounds_toArray, List.set_cons_zero, List.set_cons_succ])
        refine AllS.take (i := 19) (v := .int .i64 y2) (by rw [List.getElem?_toArray]; rfl) (by kernel_rfl) (by kernel_rfl) (by kernel_rfl) (KeepsIf.call 18 #[.agg #[.int .i64 Fa, .int .i64 Fd, .int .i64 Fg, .int .i64 Fx, .int .i64 Fo, Fv], .int .i64 s, .slice (some (a.add m)) (n - m) (c - m)] (by kernel_rfl) (fun w => ?_) (fun w hSw => ?_)) ?_
        · go_simp
        · exact (C4.out w (HBel.out.trans (hSw.mono HBel.out.size))).mono (fun e w' h => ⟨h.1, below_seq hSw h.2⟩)
        (try simp only [Act.put, List.setIfInBounds_toArray, List.set_cons_zero, List.set_cons_succ])
        refine AllS.take (i := 20) (v := ?_) (by rw [List.getElem?_toArray]; rfl) (by kernel_rfl) (by kernel_rfl) (by kernel_rfl) (KeepsIf.read (by rfl) ?_) ?_
        rotate_left
        · intro w hSw
          go_simp
          (try with_reducible rfl)
        rotate_left
        (try simp only [Act.put, List.setIfInBounds_toArray, List.set_cons_zero, List.set_cons_succ])
        refine AllS.take (i := 21) (v := ?_) (by rw [List.getElem?_toArray]; rfl) (by kernel_rfl) (by kernel_rfl) (by kernel_rfl) (KeepsIf.read (by rfl) ?_) ?_
        rotate_left
        · intro w hSw
          go_simp
          (try with_reducible rfl)
        rotate_left
        (try simp only [Act.put, List.setIfInBounds_toArray, List.set_cons_zero, List.set_cons_succ])
        refine AllS.take (i := 22) (v := ?_) (by rw [List.getElem?_toArray]; rfl) (by kernel_rfl) (by kernel_rfl) (by kernel_rfl) (KeepsIf.read (by rfl) ?_) ?_
        rotate_left
        · intro w hSw
          go_simp
          (try with_reducible rfl)
        rotate_left
        (try simp only [Act.put, List.setIfInBounds_toArray, List.set_cons_zero, List.set_cons_succ])
        refine AllS.take (i := 23) (v := ?_) (by rw [List.getElem?_toArray]; rfl) (by kernel_rfl) (by kernel_rfl) (by kernel_rfl) (KeepsIf.read (by rfl) ?_) ?_
        rotate_left
        · intro w hSw
          go_simp
          (try with_reducible rfl)
        rotate_left
        (try simp only [Act.put, List.setIfInBounds_toArray, List.set_cons_zero, List.set_cons_succ])
        refine AllS.take (i := 24) (v := .bool true) (by rw [List.getElem?_toArray]; rfl) (by kernel_rfl) (by kernel_rfl) (by kernel_rfl) (KeepsIf.call 8 #[] (by kernel_rfl) (fun w => ?_) (fun w hSw => ?_)) ?_
        · go_simp
        · exact (HH.out w).mono (fun e w' h => ⟨h.1, below_seq hSw h.2⟩)
        (try simp only [Act.put, List.setIfInBounds_toArray, List.set_cons_zero, List.set_cons_succ])
        refine AllS.take (i := 25) (v := ?_) (by rw [List.getElem?_toArray]; rfl) (by kernel_rfl) (by kernel_rfl) (by kernel_rfl) (KeepsIf.read (by rfl) ?_) ?_
        rotate_left
        · intro w hSw
          go_simp
          (try with_reducible rfl)
        rotate_left
        (try simp only [Act.put, List.setIfInBounds_toArray, List.set_cons_zero, List.set_cons_succ])
        refine AllS.take (i := 26) (v := ?_) (by rw [List.getElem?_toArray]; rfl) (by kernel_rfl) (by kernel_rfl) (by kernel_rfl) (KeepsIf.read (by rfl) ?_) ?_
        rotate_left
        · intro w hSw
          go_simp
          (try with_reducible rfl)
        rotate_left
        (try simp only [Act.put, List.setIfInBounds_toArray, List.set_cons_zero, List.set_cons_succ])
        refine AllS.done (by kernel_rfl) (hR.out _ ?_) _
        clear hR R

        intro w' hb
        go_wp2_with fail
        go_ret
        exact ⟨rfl, HBel.out.trans (hb.mono HBel.out.size)⟩
    · have h5z : ¬ (n : Int) ≤ 500 := by omega
      go_wp2_with fail
      refine (HH.out _).mono ?_
      rintro e w2 ⟨rfl, b2⟩
      go_wp2_with fail
      go_ret
      exact ⟨rfl, bel.trans (b2.mono bel.size)⟩
end Go.Proofs.Ytlbncmgecfnnbaa
