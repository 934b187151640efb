/- The walk of FontGrows: it returns true. Conditions: the numbers fit their kinds, the ranges lie in memory. -/
import Derived.Test.YtlbncmgecfnnbaaF6
namespace Go.Proofs.Ytlbncmgecfnnbaa
open Go.ChangeShapes Go.WideShapes Go.ChangeAt Go.RowKit

theorem ok_nums {F : Fnt} (h : F.okB = true) : (0 ≤ F.a ∧ F.a ≤ 8192) ∧ (0 ≤ F.d ∧ F.d ≤ 8192) ∧ (0 ≤ F.g ∧ F.g ≤ 8192) ∧ (0 ≤ F.x ∧ F.x ≤ 8192) ∧ (0 ≤ F.o ∧ F.o ≤ 8192) ∧ F.rs.length ≤ 256 ∧ vr (-1) F.rs := by
  simp only [Fnt.okB, Bool.and_eq_true, decide_eq_true_eq] at h
  obtain ⟨h1, h2, h3, h4, h5, h6, h7⟩ := h
  exact ⟨of_decide_eq_true h1, of_decide_eq_true h2, of_decide_eq_true h3, of_decide_eq_true h4, of_decide_eq_true h5, h6, vrB_vr _ _ h7⟩
theorem chk_of (F : Fnt) : (F.okB = true ∧ F.chk = 0) ∨ (F.okB = false ∧ F.chk = 50) := by
  unfold Fnt.chk
  cases F.okB
  · exact .inr ⟨rfl, rfl⟩
  · exact .inl ⟨rfl, rfl⟩
/-- the code point that is asked for -/
def lastR (F : Fnt) : Int := match F.rs.getLast? with
  | some x => x.t
  | none => 97

set_option maxRecDepth 100000 in
set_option maxHeartbeats 8000000 in
theorem fgrows_any (F : Fnt) (p q : Int) (w : World) (hF : F.In w) (hw : F.Wf) (hp : W64 p) (hq : W64 q) :
    Calls Try.prog 5 #[F.val, .int .i64 p, .int .i64 q] w fun e w' => e = .returned (.bool true) ∧ Below w.heap.size w w' := by
  unfold W64 at hp hq
  obtain ⟨b, hb⟩ : ∃ b, decide (F.rs.length ≤ 300) = b := ⟨_, rfl⟩
  have CS : Hid (∀ W, Below w.heap.size w W → Calls Try.prog 7 #[F.val] W fun e w' => e = .returned (.bool b) ∧ Below W.heap.size W w') := fun W hW => small_any F W (hF.below hW) b hb
  have C1 : Hid (∀ W, Below w.heap.size w W → Calls Try.prog 9 #[F.val] W fun e w' => e = .returned (.int .i64 F.chk) ∧ Below W.heap.size W w') := fun W hW => fcheck_any F W (hF.below hW) hw
  have HH : Hid (∀ W : World, Calls Try.prog 8 #[] W fun e w' => e = .returned (.bool true) ∧ Below W.heap.size W w') := fhead_any
  have HBA : Hid (Below w.heap.size w (w.alloc (.cells F.cells 24))) := below_alloc _ _
  have HBX : Hid (Blk (w.alloc (.cells F.cells 24)) w.heap.size 24 F.cells) := Blk.new _ _ _
  have HCK := Lib.hid (chk_of F)
  have HON := Lib.hid (fun h => ok_nums (F := F) h)
  obtain ⟨x, hx⟩ : ∃ x, min (max (min p q) 0) 1073741824 = x := ⟨_, rfl⟩
  obtain ⟨y, hy⟩ : ∃ y, min (max p (max q 0)) 1073741824 = y := ⟨_, rfl⟩
  have x1 : 0 ≤ x ∧ x ≤ y ∧ y ≤ 1073741824 := by omega
  have HX0 := Lib.hid hx
  have HY0 := Lib.hid hy
  have hxw : W64 x := by unfold W64; omega
  have hyw : W64 y := by unfold W64; omega
  clear hx hy hp hq
  obtain ⟨u, hu⟩ : ∃ u : Int → Int, (fun r => atI (fnd F.o r F.rs) x) = u := ⟨_, rfl⟩
  obtain ⟨v, hv⟩ : ∃ v : Int → Int, (fun r => atI (fnd F.o r F.rs) y) = v := ⟨_, rfl⟩
  have U1 : ∀ r, 0 ≤ u r ∧ v r ≤ 8589934592 ∧ u r ≤ v r := fun r => by
    have h1 := atI_bd (fnd F.o r F.rs) x
    have h2 := atI_bd (fnd F.o r F.rs) y
    have h3 := atI_mono (fnd F.o r F.rs) x y x1.2.1 x1.2.2
    rw [← hu, ← hv]
    exact ⟨h1.1, h2.2, h3⟩
  have CU : Hid (∀ r W, Below w.heap.size w W → Calls Try.prog 11 #[F.val, .int .i64 x, .int .i32 r] W fun e w' => e = .returned (.int .i64 (u r)) ∧ Below W.heap.size W w') := fun r W hW => by
    rw [← hu]
    exact fadv_any F x r W (hF.below hW) hw hxw
  have CV : Hid (∀ r W, Below w.heap.size w W → Calls Try.prog 11 #[F.val, .int .i64 y, .int .i32 r] W fun e w' => e = .returned (.int .i64 (v r)) ∧ Below W.heap.size W w') := fun r W hW => by
    rw [← hv]
    exact fadv_any F y r W (hF.below hW) hw hyw
  have CZ : Hid (∀ r W, Below w.heap.size w W → Calls Try.prog 11 #[F.val, .int .i64 0, .int .i32 r] W fun e w' => e = .returned (.int .i64 0) ∧ Below W.heap.size W w') := fun r W hW => by
    have h := fadv_any F 0 r W (hF.below hW) hw (by simp [W64])
    rwa [atI_zero] at h
  clear hu hv
  have D1 := atI_bd F.a x
  have D2 := atI_bd F.a y
  have D3 := atI_mono F.a x y x1.2.1 x1.2.2
  have D4 := atI_mono F.d x y x1.2.1 x1.2.2
  obtain ⟨ux, hux⟩ : ∃ z, atI F.a x = z := ⟨_, rfl⟩
  obtain ⟨uy, huy⟩ : ∃ z, atI F.a y = z := ⟨_, rfl⟩
  obtain ⟨dx, hdx⟩ : ∃ z, atI F.d x = z := ⟨_, rfl⟩
  obtain ⟨dy, hdy⟩ : ∃ z, atI F.d y = z := ⟨_, rfl⟩
  rw [hux] at D1 D3
  rw [huy] at D2 D3
  rw [hdx, hdy] at D4
  have M1 : Hid (∀ W : World, Calls Try.prog 13 #[F.val, .int .i64 x] W fun e w' => e = .returned (.int .i64 ux) ∧ Below W.heap.size W w') := fun W => by
    have h := fup_any F x W hw hxw
    rwa [hux] at h
  have M2 : Hid (∀ W : World, Calls Try.prog 13 #[F.val, .int .i64 y] W fun e w' => e = .returned (.int .i64 uy) ∧ Below W.heap.size W w') := fun W => by
    have h := fup_any F y W hw hyw
    rwa [huy] at h
  have M3 : Hid (∀ W : World, Calls Try.prog 15 #[F.val, .int .i64 x] W fun e w' => e = .returned (.int .i64 dx) ∧ Below W.heap.size W w') := fun W => by
    have h := fdown_any F x W hw hxw
    rwa [hdx] at h
  have M4 : Hid (∀ W : World, Calls Try.prog 15 #[F.val, .int .i64 y] W fun e w' => e = .returned (.int .i64 dy) ∧ Below W.heap.size W w') := fun W => by
    have h := fdown_any F y W hw hyw
    rwa [hdy] at h
  have Z1 : Hid (∀ W : World, Calls Try.prog 13 #[F.val, .int .i64 0] W fun e w' => e = .returned (.int .i64 0) ∧ Below W.heap.size W w') := fun W => by
    have h := fup_any F 0 W hw (by simp [W64])
    rwa [atI_zero] at h
  have Z2 : Hid (∀ W : World, Calls Try.prog 15 #[F.val, .int .i64 0] W fun e w' => e = .returned (.int .i64 0) ∧ Below W.heap.size W w') := fun W => by
    have h := fdown_any F 0 W hw (by simp [W64])
    rwa [atI_zero] at h
  have E0 : Hid (0 ≤ F.a ∧ F.a ≤ 8192 → ∀ W : World, Calls Try.prog 13 #[F.val, .int .i64 1024] W fun e w' => e = .returned (.int .i64 F.a) ∧ Below W.heap.size W w') := fun hn W => by
    have h := fup_any F 1024 W hw (by simp [W64])
    rwa [atI_whole _ hn] at h
  have E1 : Hid (0 ≤ F.d ∧ F.d ≤ 8192 → ∀ W : World, Calls Try.prog 15 #[F.val, .int .i64 1024] W fun e w' => e = .returned (.int .i64 F.d) ∧ Below W.heap.size W w') := fun hn W => by
    have h := fdown_any F 1024 W hw (by simp [W64])
    rwa [atI_whole _ hn] at h
  have E2 : Hid (0 ≤ F.g ∧ F.g ≤ 8192 → ∀ W : World, Calls Try.prog 16 #[F.val, .int .i64 1024] W fun e w' => e = .returned (.int .i64 F.g) ∧ Below W.heap.size W w') := fun hn W => by
    have h := fgap_any F 1024 W hw (by simp [W64])
    rwa [atI_whole _ hn] at h
  have E3 : Hid (0 ≤ F.x ∧ F.x ≤ 8192 → ∀ W : World, Calls Try.prog 17 #[F.val, .int .i64 1024] W fun e w' => e = .returned (.int .i64 F.x) ∧ Below W.heap.size W w') := fun hn W => by
    have h := fxh_any F 1024 W hw (by simp [W64])
    rwa [atI_whole _ hn] at h
  have HI := Lib.hid hF
  obtain ⟨A, c, hA⟩ := hF.form
  obtain ⟨n, hn⟩ : ∃ n, F.rs.length = n := ⟨_, rfl⟩
  have HL := Lib.hid hn
  rw [hn] at hA
  clear hb hF hw hxw hyw hux huy hdx hdy hn
  obtain ⟨Fa, Fd, Fg, Fx, Fo, Fv, Frs⟩ := F
  simp only [Fnt.val, Fnt.cells] at *
  subst hA
  obtain ⟨x1, x2, x3⟩ := x1
  go_enter Try.func5, Try.ntmps5
  go_wp2_with fail
  refine (CS.out _ HBA.out).mono ?_
  rintro e w1 ⟨rfl, b1⟩
  have bel : Below w.heap.size w w1 := below_seq HBA.out b1
  have HX : Hid (Blk w1 w.heap.size 24 #[.int .i64 Fa, .int .i64 Fd, .int .i64 Fg, .int .i64 Fx, .int .i64 Fo, .slice A n c]) := HBX.out.keep (S := fun _ => False) (Mod.of_below b1) id
  clear b1 HBA HBX CS
  cases b with
  | false =>
    go_wp2_with fail
    refine (HH.out _).mono ?_
    rintro e w2 ⟨rfl, b2⟩
    go_wp2_with fail
    go_ret
    exact ⟨rfl, bel.trans (b2.mono bel.size)⟩
  | true =>
    have hX := HX.out
    have c0 : w1.cell? ⟨w.heap.size, 0, none⟩ = some (.int .i64 Fa) := hX.cell 0
    have c1 : w1.cell? ⟨w.heap.size, 1, none⟩ = some (.int .i64 Fd) := hX.cell 1
    have c2 : w1.cell? ⟨w.heap.size, 2, none⟩ = some (.int .i64 Fg) := hX.cell 2
    have c3 : w1.cell? ⟨w.heap.size, 3, none⟩ = some (.int .i64 Fx) := hX.cell 3
    have c4 : w1.cell? ⟨w.heap.size, 4, none⟩ = some (.int .i64 Fo) := hX.cell 4
    have c5 : w1.cell? ⟨w.heap.size, 5, none⟩ = some (.slice A n c) := hX.cell 5
    clear hX
    have HCK2 := HCK.out
    obtain ⟨okb, hok⟩ : ∃ o, Fnt.okB ⟨Fa, Fd, Fg, Fx, Fo, .slice A n c, Frs⟩ = o := ⟨_, rfl⟩
    rw [hok] at HCK2
    obtain ⟨z, hz⟩ : ∃ z, Fnt.chk ⟨Fa, Fd, Fg, Fx, Fo, .slice A n c, Frs⟩ = z := ⟨_, rfl⟩
    rw [hz] at C1 HCK2
    clear hz HCK
    go_wp2_with fail
    refine (C1.out _ bel).mono ?_
    rintro e w2 ⟨rfl, b2⟩
    have HX2 : Hid (Blk w2 w.heap.size 24 #[.int .i64 Fa, .int .i64 Fd, .int .i64 Fg, .int .i64 Fx, .int .i64 Fo, .slice A n c]) := HX.out.keep (S := fun _ => False) (Mod.of_below b2) id
    have bel2 : Below w.heap.size w w2 := bel.trans (b2.mono bel.size)
    clear c0 c1 c2 c3 c4 c5 b2 bel C1 HX
    rcases HCK2 with ⟨rfl, rfl⟩ | ⟨rfl, rfl⟩
    case inr =>
      go_wp2_with fail
      refine (HH.out _).mono ?_
      rintro e w3 ⟨rfl, b3⟩
      go_wp2_with fail
      go_ret
      exact ⟨rfl, bel2.trans (b3.mono bel2.size)⟩
    case inl =>
      obtain ⟨n1, n2, n3, n4, n5, n6, n7⟩ := HON.out hok
      rw [HL.out] at n6
      have G0 := Lib.hid (E0.out n1)
      have G1 := Lib.hid (E1.out n2)
      have G2 := Lib.hid (E2.out n3)
      have G3 := Lib.hid (E3.out n4)
      have K : Hid (∀ W, Below w2.heap.size w2 W → (W.cell? ⟨w.heap.size, 0, none⟩ = some (.int .i64 Fa) ∧ W.cell? ⟨w.heap.size, 1, none⟩ = some (.int .i64 Fd) ∧ W.cell? ⟨w.heap.size, 2, none⟩ = some (.int .i64 Fg) ∧ W.cell? ⟨w.heap.size, 3, none⟩ = some (.int .i64 Fx) ∧ W.cell? ⟨w.heap.size, 4, none⟩ = some (.int .i64 Fo) ∧ W.cell? ⟨w.heap.size, 5, none⟩ = some (.slice A n c))) := fun W hW => by
        have h := HX2.out.keep (S := fun _ => False) (Mod.of_below hW) id
        exact ⟨h.cell 0, h.cell 1, h.cell 2, h.cell 3, h.cell 4, h.cell 5⟩
      obtain ⟨_, _, _, _, _, c5⟩ := K.out w2 (Below.refl _ _)
      have HBel := Lib.hid bel2
      clear n1 n2 n3 n4 n5 n7 hok HON E0 E1 E2 E3 HX2
      by_cases h0 : n = 0
      · subst h0
        go_wp2_with fail
        rw [HX0.out, HY0.out]
        obtain ⟨q1, q2, q3⟩ := U1 97
        have HBR : Hid (Below w2.heap.size w2 w2) := Below.refl _ _
        refine region_go (by kernel_rfl) (fun R hR => ?_)
        refine AllS.take (i := 0) (v := ?_) (by rw [List.getElem?_toArray]; rfl) (by kernel_rfl) (by kernel_rfl) (by kernel_rfl) (KeepsIf.read (by rfl) ?_) ?_
        rotate_left
        · intro w hSw
          obtain ⟨k0, k1, k2, k3, k4, k5⟩ := K.out w (HBR.out.trans (hSw.mono HBR.out.size))
          go_simp
          (try with_reducible rfl)
        rotate_left
        (try simp only [Act.put, List.setIfInBounds_toArray, List.set_cons_zero, List.set_cons_succ])
        refine AllS.take (i := 1) (v := ?_) (by rw [List.getElem?_toArray]; rfl) (by kernel_rfl) (by kernel_rfl) (by kernel_rfl) (KeepsIf.read (by rfl) ?_) ?_
        rotate_left
        · intro w hSw
          go_simp
          (try with_reducible rfl)
        rotate_left
        (try simp only [Act.put, List.setIfInBounds_toArray, List.set_cons_zero, List.set_cons_succ])
        refine AllS.take (i := 2) (v := ?_) (by rw [List.getElem?_toArray]; rfl) (by kernel_rfl) (by kernel_rfl) (by kernel_rfl) (KeepsIf.read (by rfl) ?_) ?_
        rotate_left
        · intro w hSw
          go_simp
          (try with_reducible rfl)
        rotate_left
        (try simp only [Act.put, List.setIfInBounds_toArray, List.set_cons_zero, List.set_cons_succ])
        refine AllS.take (i := 3) (v := .int .i64 (u 97)) (by rw [List.getElem?_toArray]; rfl) (by kernel_rfl) (by kernel_rfl) (by kernel_rfl) (KeepsIf.call 11 #[.agg #[.int .i64 Fa, .int .i64 Fd, .int .i64 Fg, .int .i64 Fx, .int .i64 Fo, .slice A 0 c], .int .i64 x, .int .i32 97] (by kernel_rfl) (fun w => ?_) (fun w hSw => ?_)) ?_
        · go_simp
        · exact (CU.out 97 w (HBel.out.trans ((HBR.out.trans (hSw.mono HBR.out.size)).mono HBel.out.size))).mono (fun e w' h => ⟨h.1, below_seq hSw h.2⟩)
        (try simp only [Act.put, List.setIfInBounds_toArray, List.set_cons_zero, List.set_cons_succ])
        refine AllS.take (i := 4) (v := ?_) (by rw [List.getElem?_toArray]; rfl) (by kernel_rfl) (by kernel_rfl) (by kernel_rfl) (KeepsIf.read (by rfl) ?_) ?_
        rotate_left
        · intro w hSw
          obtain ⟨k0, k1, k2, k3, k4, k5⟩ := K.out w (HBR.out.trans (hSw.mono HBR.out.size))
          go_simp
          (try with_reducible rfl)
        rotate_left
        (try simp only [Act.put, List.setIfInBounds_toArray, List.set_cons_zero, List.set_cons_succ])
        refine AllS.take (i := 5) (v := ?_) (by rw [List.getElem?_toArray]; rfl) (by kernel_rfl) (by kernel_rfl) (by kernel_rfl) (KeepsIf.read (by rfl) ?_) ?_
        rotate_left
        · intro w hSw
          go_simp
          (try with_reducible rfl)
        rotate_left
        (try simp only [Act.put, List.setIfInBounds_toArray, List.set_cons_zero, List.set_cons_succ])
        refine AllS.take (i := 6) (v := ?_) (by rw [List.getElem?_toArray]; rfl) (by kernel_rfl) (by kernel_rfl) (by kernel_rfl) (KeepsIf.read (by rfl) ?_) ?_
        rotate_left
        · intro w hSw
          go_simp
          (try with_reducible rfl)
        rotate_left
        (try simp only [Act.put, List.setIfInBounds_toArray, List.set_cons_zero, List.set_cons_succ])
        refine AllS.take (i := 7) (v := .int .i64 (v 97)) (by rw [List.getElem?_toArray]; rfl) (by kernel_rfl) (by kernel_rfl) (by kernel_rfl) (KeepsIf.call 11 #[.agg #[.int .i64 Fa, .int .i64 Fd, .int .i64 Fg, .int .i64 Fx, .int .i64 Fo, .slice A 0 c], .int .i64 y, .int .i32 97] (by kernel_rfl) (fun w => ?_) (fun w hSw => ?_)) ?_
        · go_simp
        · exact (CV.out 97 w (HBel.out.trans ((HBR.out.trans (hSw.mono HBR.out.size)).mono HBel.out.size))).mono (fun e w' h => ⟨h.1, below_seq hSw h.2⟩)
        (try simp only [Act.put, List.setIfInBounds_toArray, List.set_cons_zero, List.set_cons_succ])
        refine AllS.take (i := 8) (v := ?_) (by rw [List.getElem?_toArray]; rfl) (by kernel_rfl) (by kernel_rfl) (by kernel_rfl) (KeepsIf.read (by rfl) ?_) ?_
        rotate_left
        · intro w hSw
          obtain ⟨k0, k1, k2, k3, k4, k5⟩ := K.out w (HBR.out.trans (hSw.mono HBR.out.size))
          go_simp
          (try with_reducible rfl)
        rotate_left
        (try simp only [Act.put, List.setIfInBounds_toArray, List.set_cons_zero, List.set_cons_succ])
        refine AllS.take (i := 9) (v := ?_) (by rw [List.getElem?_toArray]; rfl) (by kernel_rfl) (by kernel_rfl) (by kernel_rfl) (KeepsIf.read (by rfl) ?_) ?_
        rotate_left
        · intro w hSw
          go_simp
          (try with_reducible rfl)
        rotate_left
        (try simp only [Act.put, List.setIfInBounds_toArray, List.set_cons_zero, List.set_cons_succ])
        refine AllS.take (i := 10) (v := .int .i64 uy) (by rw [List.getElem?_toArray]; rfl) (by kernel_rfl) (by kernel_rfl) (by kernel_rfl) (KeepsIf.call 13 #[.agg #[.int .i64 Fa, .int .i64 Fd, .int .i64 Fg, .int .i64 Fx, .int .i64 Fo, .slice A 0 c], .int .i64 y] (by kernel_rfl) (fun w => ?_) (fun w hSw => ?_)) ?_
        · go_simp
        · exact (M2.out w).mono (fun e w' h => ⟨h.1, below_seq hSw h.2⟩)
        (try simp only [Act.put, List.setIfInBounds_toArray, List.set_cons_zero, List.set_cons_succ])
        refine AllS.take (i := 11) (v := ?_) (by rw [List.getElem?_toArray]; rfl) (by kernel_rfl) (by kernel_rfl) (by kernel_rfl) (KeepsIf.read (by rfl) ?_) ?_
        rotate_left
        · intro w hSw
          go_simp
          (try with_reducible rfl)
        rotate_left
        (try simp only [Act.put, List.setIfInBounds_toArray, List.set_cons_zero, List.set_cons_succ])
        refine AllS.take (i := 12) (v := ?_) (by rw [List.getElem?_toArray]; rfl) (by kernel_rfl) (by kernel_rfl) (by kernel_rfl) (KeepsIf.read (by rfl) ?_) ?_
        rotate_left
        · intro w hSw
          go_simp
          (try with_reducible rfl)
        rotate_left
        (try simp only [Act.put, List.setIfInBounds_toArray, List.set_cons_zero, List.set_cons_succ])
        refine AllS.take (i := 13) (v := ?_) (by rw [List.getElem?_toArray]; rfl) (by kernel_rfl) (by kernel_rfl) (by kernel_rfl) (KeepsIf.read (by rfl) ?_) ?_
        rotate_left
        · intro w hSw
          go_simp
          (try with_reducible rfl)
        rotate_left
        (try simp only [Act.put, List.setIfInBounds_toArray, List.set_cons_zero, List.set_cons_succ])
        refine AllS.done (by kernel_rfl) (hR.out _ ?_) _
        clear hR R
        intro w3 hb3
        clear HBR
        have HBR : Hid (Below w2.heap.size w2 w3) := hb3
        clear hb3
        go_wp2_with fail
        refine region_go (by kernel_rfl) (fun R hR => ?_)
        refine AllS.take (i := 0) (v := ?_) (by rw [List.getElem?_toArray]; rfl) (by kernel_rfl) (by kernel_rfl) (by kernel_rfl) (KeepsIf.read (by rfl) ?_) ?_
        rotate_left
        · intro w hSw
          go_simp
          (try with_reducible rfl)
        rotate_left
        (try simp only [Act.put, List.setIfInBounds_toArray, List.set_cons_zero, List.set_cons_succ])
        refine AllS.take (i := 1) (v := .bool false) (by rw [List.getElem?_toArray]; rfl) (by kernel_rfl) (by kernel_rfl) (by kernel_rfl) (KeepsIf.read (by rfl) (fun w hSw => ?_)) ?_
        · go_simp
          (all_goals first | omega | (simp; done) | (simp; omega))
        (try simp only [Act.put, List.setIfInBounds_toArray, List.set_cons_zero, List.set_cons_succ])
        refine AllS.take (i := 2) (v := ?_) (by rw [List.getElem?_toArray]; rfl) (by kernel_rfl) (by kernel_rfl) (by kernel_rfl) (KeepsIf.read (by rfl) ?_) ?_
        rotate_left
        · intro w hSw
          go_simp
          (try with_reducible rfl)
        rotate_left
        (try simp only [Act.put, List.setIfInBounds_toArray, List.set_cons_zero, List.set_cons_succ])
        refine AllS.take (i := 3) (v := ?_) (by rw [List.getElem?_toArray]; rfl) (by kernel_rfl) (by kernel_rfl) (by kernel_rfl) (KeepsIf.read (by rfl) ?_) ?_
        rotate_left
        · intro w hSw
          go_simp
          (try with_reducible rfl)
        rotate_left
        (try simp only [Act.put, List.setIfInBounds_toArray, List.set_cons_zero, List.set_cons_succ])
        refine AllS.take (i := 4) (v := .bool false) (by rw [List.getElem?_toArray]; rfl) (by kernel_rfl) (by kernel_rfl) (by kernel_rfl) (KeepsIf.read (by rfl) (fun w hSw => ?_)) ?_
        · go_simp
          (all_goals first | omega | (simp; done) | (simp; omega))
        (try simp only [Act.put, List.setIfInBounds_toArray, List.set_cons_zero, List.set_cons_succ])
        refine AllS.take (i := 5) (v := ?_) (by rw [List.getElem?_toArray]; rfl) (by kernel_rfl) (by kernel_rfl) (by kernel_rfl) (KeepsIf.read (by rfl) ?_) ?_
        rotate_left
        · intro w hSw
          go_simp
          (try with_reducible rfl)
        rotate_left
        (try simp only [Act.put, List.setIfInBounds_toArray, List.set_cons_zero, List.set_cons_succ])
        refine AllS.take (i := 6) (v := ?_) (by rw [List.getElem?_toArray]; rfl) (by kernel_rfl) (by kernel_rfl) (by kernel_rfl) (KeepsIf.read (by rfl) ?_) ?_
        rotate_left
        · intro w hSw
          go_simp
          (try with_reducible rfl)
        rotate_left
        (try simp only [Act.put, List.setIfInBounds_toArray, List.set_cons_zero, List.set_cons_succ])
        refine AllS.take (i := 7) (v := ?_) (by rw [List.getElem?_toArray]; rfl) (by kernel_rfl) (by kernel_rfl) (by kernel_rfl) (KeepsIf.read (by rfl) ?_) ?_
        rotate_left
        · intro w hSw
          go_simp
          (try with_reducible rfl)
        rotate_left
        (try simp only [Act.put, List.setIfInBounds_toArray, List.set_cons_zero, List.set_cons_succ])
        refine AllS.take (i := 8) (v := ?_) (by rw [List.getElem?_toArray]; rfl) (by kernel_rfl) (by kernel_rfl) (by kernel_rfl) (KeepsIf.read (by rfl) ?_) ?_
        rotate_left
        · intro w hSw
          go_simp
          (try with_reducible rfl)
        rotate_left
        (try simp only [Act.put, List.setIfInBounds_toArray, List.set_cons_zero, List.set_cons_succ])
        refine AllS.take (i := 9) (v := .bool false) (by rw [List.getElem?_toArray]; rfl) (by kernel_rfl) (by kernel_rfl) (by kernel_rfl) (KeepsIf.read (by rfl) (fun w hSw => ?_)) ?_
        · go_simp
          (all_goals first | omega | (simp; done) | (simp; omega))
        (try simp only [Act.put, List.setIfInBounds_toArray, List.set_cons_zero, List.set_cons_succ])
        refine AllS.take (i := 10) (v := ?_) (by rw [List.getElem?_toArray]; rfl) (by kernel_rfl) (by kernel_rfl) (by kernel_rfl) (KeepsIf.read (by rfl) ?_) ?_
        rotate_left
        · intro w hSw
          go_simp
          (try with_reducible rfl)
        rotate_left
        (try simp only [Act.put, List.setIfInBounds_toArray, List.set_cons_zero, List.set_cons_succ])
        refine AllS.take (i := 11) (v := ?_) (by rw [List.getElem?_toArray]; rfl) (by kernel_rfl) (by kernel_rfl) (by kernel_rfl) (KeepsIf.read (by rfl) ?_) ?_
        rotate_left
        · intro w hSw
          go_simp
          (try with_reducible rfl)
        rotate_left
        (try simp only [Act.put, List.setIfInBounds_toArray, List.set_cons_zero, List.set_cons_succ])
        refine AllS.take (i := 12) (v := ?_) (by rw [List.getElem?_toArray]; rfl) (by kernel_rfl) (by kernel_rfl) (by kernel_rfl) (KeepsIf.read (by rfl) ?_) ?_
        rotate_left
        · intro w hSw
          go_simp
          (try with_reducible rfl)
        rotate_left
        (try simp only [Act.put, List.setIfInBounds_toArray, List.set_cons_zero, List.set_cons_succ])
        refine AllS.take (i := 13) (v := .bool false) (by rw [List.getElem?_toArray]; rfl) (by kernel_rfl) (by kernel_rfl) (by kernel_rfl) (KeepsIf.read (by rfl) (fun w hSw => ?_)) ?_
        · go_simp
          (all_goals first | omega | (simp; done) | (simp; omega))
        (try simp only [Act.put, List.setIfInBounds_toArray, List.set_cons_zero, List.set_cons_succ])
        refine AllS.take (i := 14) (v := ?_) (by rw [List.getElem?_toArray]; rfl) (by kernel_rfl) (by kernel_rfl) (by kernel_rfl) (KeepsIf.read (by rfl) ?_) ?_
        rotate_left
        · intro w hSw
          go_simp
          (try with_reducible rfl)
        rotate_left
        (try simp only [Act.put, List.setIfInBounds_toArray, List.set_cons_zero, List.set_cons_succ])
        refine AllS.take (i := 15) (v := ?_) (by rw [List.getElem?_toArray]; rfl) (by kernel_rfl) (by kernel_rfl) (by kernel_rfl) (KeepsIf.read (by rfl) ?_) ?_
        rotate_left
        · intro w hSw
          go_simp
          (try with_reducible rfl)
        rotate_left
        (try simp only [Act.put, List.setIfInBounds_toArray, List.set_cons_zero, List.set_cons_succ])
        refine AllS.take (i := 16) (v := ?_) (by rw [List.getElem?_toArray]; rfl) (by kernel_rfl) (by kernel_rfl) (by kernel_rfl) (KeepsIf.read (by rfl) ?_) ?_
        rotate_left
        · intro w hSw
          go_simp
          (try with_reducible rfl)
        rotate_left
        (try simp only [Act.put, List.setIfInBounds_toArray, List.set_cons_zero, List.set_cons_succ])
        refine AllS.take (i := 17) (v := .bool false) (by rw [List.getElem?_toArray]; rfl) (by kernel_rfl) (by kernel_rfl) (by kernel_rfl) (KeepsIf.read (by rfl) (fun w hSw => ?_)) ?_
        · go_simp
          (all_goals first | omega | (simp; done) | (simp; omega))
        (try simp only [Act.put, List.setIfInBounds_toArray, List.set_cons_zero, List.set_cons_succ])
        refine AllS.take (i := 18) (v := ?_) (by rw [List.getElem?_toArray]; rfl) (by kernel_rfl) (by kernel_rfl) (by kernel_rfl) (KeepsIf.read (by rfl) ?_) ?_
        rotate_left
        · intro w hSw
          go_simp
          (try with_reducible rfl)
        rotate_left
        (try simp only [Act.put, List.setIfInBounds_toArray, List.set_cons_zero, List.set_cons_succ])
        refine AllS.take (i := 19) (v := ?_) (by rw [List.getElem?_toArray]; rfl) (by kernel_rfl) (by kernel_rfl) (by kernel_rfl) (KeepsIf.read (by rfl) ?_) ?_
        rotate_left
        · intro w hSw
          go_simp
          (try with_reducible rfl)
        rotate_left
        (try simp only [Act.put, List.setIfInBounds_toArray, List.set_cons_zero, List.set_cons_succ])
        refine AllS.take (i := 20) (v := ?_) (by rw [List.getElem?_toArray]; rfl) (by kernel_rfl) (by kernel_rfl) (by kernel_rfl) (KeepsIf.read (by rfl) ?_) ?_
        rotate_left
        · intro w hSw
          obtain ⟨k0, k1, k2, k3, k4, k5⟩ := K.out w (HBR.out.trans (hSw.mono HBR.out.size))
          go_simp
          (try with_reducible rfl)
        rotate_left
        (try simp only [Act.put, List.setIfInBounds_toArray, List.set_cons_zero, List.set_cons_succ])
        refine AllS.take (i := 21) (v := ?_) (by rw [List.getElem?_toArray]; rfl) (by kernel_rfl) (by kernel_rfl) (by kernel_rfl) (KeepsIf.read (by rfl) ?_) ?_
        rotate_left
        · intro w hSw
          go_simp
          (try with_reducible rfl)
        rotate_left
        (try simp only [Act.put, List.setIfInBounds_toArray, List.set_cons_zero, List.set_cons_succ])
        refine AllS.take (i := 22) (v := .int .i64 ux) (by rw [List.getElem?_toArray]; rfl) (by kernel_rfl) (by kernel_rfl) (by kernel_rfl) (KeepsIf.call 13 #[.agg #[.int .i64 Fa, .int .i64 Fd, .int .i64 Fg, .int .i64 Fx, .int .i64 Fo, .slice A 0 c], .int .i64 x] (by kernel_rfl) (fun w => ?_) (fun w hSw => ?_)) ?_
        · go_simp
        · exact (M1.out w).mono (fun e w' h => ⟨h.1, below_seq hSw h.2⟩)
        (try simp only [Act.put, List.setIfInBounds_toArray, List.set_cons_zero, List.set_cons_succ])
        refine AllS.take (i := 23) (v := ?_) (by rw [List.getElem?_toArray]; rfl) (by kernel_rfl) (by kernel_rfl) (by kernel_rfl) (KeepsIf.read (by rfl) ?_) ?_
        rotate_left
        · intro w hSw
          go_simp
          (try with_reducible rfl)
        rotate_left
        (try simp only [Act.put, List.setIfInBounds_toArray, List.set_cons_zero, List.set_cons_succ])
        refine AllS.take (i := 24) (v := .bool false) (by rw [List.getElem?_toArray]; rfl) (by kernel_rfl) (by kernel_rfl) (by kernel_rfl) (KeepsIf.read (by rfl) (fun w hSw => ?_)) ?_
        · go_simp
          (all_goals first | omega | (simp; done) | (simp; omega))
        (try simp only [Act.put, List.setIfInBounds_toArray, List.set_cons_zero, List.set_cons_succ])
        refine AllS.take (i := 25) (v := ?_) (by rw [List.getElem?_toArray]; rfl) (by kernel_rfl) (by kernel_rfl) (by kernel_rfl) (KeepsIf.read (by rfl) ?_) ?_
        rotate_left
        · intro w hSw
          go_simp
          (try with_reducible rfl)
        rotate_left
        (try simp only [Act.put, List.setIfInBounds_toArray, List.set_cons_zero, List.set_cons_succ])
        refine AllS.take (i := 26) (v := ?_) (by rw [List.getElem?_toArray]; rfl) (by kernel_rfl) (by kernel_rfl) (by kernel_rfl) (KeepsIf.read (by rfl) ?_) ?_
        rotate_left
        · intro w hSw
          go_simp
          (try with_reducible rfl)
        rotate_left
        (try simp only [Act.put, List.setIfInBounds_toArray, List.set_cons_zero, List.set_cons_succ])
        refine AllS.take (i := 27) (v := ?_) (by rw [List.getElem?_toArray]; rfl) (by kernel_rfl) (by kernel_rfl) (by kernel_rfl) (KeepsIf.read (by rfl) ?_) ?_
        rotate_left
        · intro w hSw
          obtain ⟨k0, k1, k2, k3, k4, k5⟩ := K.out w (HBR.out.trans (hSw.mono HBR.out.size))
          go_simp
          (try with_reducible rfl)
        rotate_left
        (try simp only [Act.put, List.setIfInBounds_toArray, List.set_cons_zero, List.set_cons_succ])
        refine AllS.take (i := 28) (v := ?_) (by rw [List.getElem?_toArray]; rfl) (by kernel_rfl) (by kernel_rfl) (by kernel_rfl) (KeepsIf.read (by rfl) ?_) ?_
        rotate_left
        · intro w hSw
          go_simp
          (try with_reducible rfl)
        rotate_left
        (try simp only [Act.put, List.setIfInBounds_toArray, List.set_cons_zero, List.set_cons_succ])
        refine AllS.take (i := 29) (v := .int .i64 dx) (by rw [List.getElem?_toArray]; rfl) (by kernel_rfl) (by kernel_rfl) (by kernel_rfl) (KeepsIf.call 15 #[.agg #[.int .i64 Fa, .int .i64 Fd, .int .i64 Fg, .int .i64 Fx, .int .i64 Fo, .slice A 0 c], .int .i64 x] (by kernel_rfl) (fun w => ?_) (fun w hSw => ?_)) ?_
        · go_simp
        · exact (M3.out w).mono (fun e w' h => ⟨h.1, below_seq hSw h.2⟩)
        (try simp only [Act.put, List.setIfInBounds_toArray, List.set_cons_zero, List.set_cons_succ])
        refine AllS.take (i := 30) (v := ?_) (by rw [List.getElem?_toArray]; rfl) (by kernel_rfl) (by kernel_rfl) (by kernel_rfl) (KeepsIf.read (by rfl) ?_) ?_
        rotate_left
        · intro w hSw
          obtain ⟨k0, k1, k2, k3, k4, k5⟩ := K.out w (HBR.out.trans (hSw.mono HBR.out.size))
          go_simp
          (try with_reducible rfl)
        rotate_left
        (try simp only [Act.put, List.setIfInBounds_toArray, List.set_cons_zero, List.set_cons_succ])
        refine AllS.take (i := 31) (v := ?_) (by rw [List.getElem?_toArray]; rfl) (by kernel_rfl) (by kernel_rfl) (by kernel_rfl) (KeepsIf.read (by rfl) ?_) ?_
        rotate_left
        · intro w hSw
          go_simp
          (try with_reducible rfl)
        rotate_left
        (try simp only [Act.put, List.setIfInBounds_toArray, List.set_cons_zero, List.set_cons_succ])
        refine AllS.take (i := 32) (v := .int .i64 dy) (by rw [List.getElem?_toArray]; rfl) (by kernel_rfl) (by kernel_rfl) (by kernel_rfl) (KeepsIf.call 15 #[.agg #[.int .i64 Fa, .int .i64 Fd, .int .i64 Fg, .int .i64 Fx, .int .i64 Fo, .slice A 0 c], .int .i64 y] (by kernel_rfl) (fun w => ?_) (fun w hSw => ?_)) ?_
        · go_simp
        · exact (M4.out w).mono (fun e w' h => ⟨h.1, below_seq hSw h.2⟩)
        (try simp only [Act.put, List.setIfInBounds_toArray, List.set_cons_zero, List.set_cons_succ])
        refine AllS.take (i := 33) (v := .bool false) (by rw [List.getElem?_toArray]; rfl) (by kernel_rfl) (by kernel_rfl) (by kernel_rfl) (KeepsIf.read (by rfl) (fun w hSw => ?_)) ?_
        · go_simp
          (all_goals first | omega | (simp; done) | (simp; omega))
        (try simp only [Act.put, List.setIfInBounds_toArray, List.set_cons_zero, List.set_cons_succ])
        refine AllS.take (i := 34) (v := ?_) (by rw [List.getElem?_toArray]; rfl) (by kernel_rfl) (by kernel_rfl) (by kernel_rfl) (KeepsIf.read (by rfl) ?_) ?_
        rotate_left
        · intro w hSw
          go_simp
          (try with_reducible rfl)
        rotate_left
        (try simp only [Act.put, List.setIfInBounds_toArray, List.set_cons_zero, List.set_cons_succ])
        refine AllS.done (by kernel_rfl) (hR.out _ ?_) _
        clear hR R
        intro w4 hb4
        have HBR4 : Hid (Below w2.heap.size w2 w4) := HBR.out.trans (hb4.mono HBR.out.size)
        clear HBR hb4
        have HBR := HBR4
        clear HBR4
        go_wp2_with fail
        refine region_go (by kernel_rfl) (fun R hR => ?_)
        refine AllS.take (i := 0) (v := ?_) (by rw [List.getElem?_toArray]; rfl) (by kernel_rfl) (by kernel_rfl) (by kernel_rfl) (KeepsIf.read (by rfl) ?_) ?_
        rotate_left
        · intro w hSw
          obtain ⟨k0, k1, k2, k3, k4, k5⟩ := K.out w (HBR.out.trans (hSw.mono HBR.out.size))
          go_simp
          (try with_reducible rfl)
        rotate_left
        (try simp only [Act.put, List.setIfInBounds_toArray, List.set_cons_zero, List.set_cons_succ])
        refine AllS.take (i := 1) (v := .int .i64 Fa) (by rw [List.getElem?_toArray]; rfl) (by kernel_rfl) (by kernel_rfl) (by kernel_rfl) (KeepsIf.call 13 #[.agg #[.int .i64 Fa, .int .i64 Fd, .int .i64 Fg, .int .i64 Fx, .int .i64 Fo, .slice A 0 c], .int .i64 1024] (by kernel_rfl) (fun w => ?_) (fun w hSw => ?_)) ?_
        · go_simp
        · exact (G0.out w).mono (fun e w' h => ⟨h.1, below_seq hSw h.2⟩)
        (try simp only [Act.put, List.setIfInBounds_toArray, List.set_cons_zero, List.set_cons_succ])
        refine AllS.take (i := 2) (v := ?_) (by rw [List.getElem?_toArray]; rfl) (by kernel_rfl) (by kernel_rfl) (by kernel_rfl) (KeepsIf.read (by rfl) ?_) ?_
        rotate_left
        · intro w hSw
          go_simp
          (try with_reducible rfl)
        rotate_left
        (try simp only [Act.put, List.setIfInBounds_toArray, List.set_cons_zero, List.set_cons_succ])
        refine AllS.take (i := 3) (v := ?_) (by rw [List.getElem?_toArray]; rfl) (by kernel_rfl) (by kernel_rfl) (by kernel_rfl) (KeepsIf.read (by rfl) ?_) ?_
        rotate_left
        · intro w hSw
          obtain ⟨k0, k1, k2, k3, k4, k5⟩ := K.out w (HBR.out.trans (hSw.mono HBR.out.size))
          go_simp
          (try with_reducible rfl)
        rotate_left
        (try simp only [Act.put, List.setIfInBounds_toArray, List.set_cons_zero, List.set_cons_succ])
        refine AllS.take (i := 4) (v := ?_) (by rw [List.getElem?_toArray]; rfl) (by kernel_rfl) (by kernel_rfl) (by kernel_rfl) (KeepsIf.read (by rfl) ?_) ?_
        rotate_left
        · intro w hSw
          go_simp
          (try with_reducible rfl)
        rotate_left
        (try simp only [Act.put, List.setIfInBounds_toArray, List.set_cons_zero, List.set_cons_succ])
        refine AllS.take (i := 5) (v := ?_) (by rw [List.getElem?_toArray]; rfl) (by kernel_rfl) (by kernel_rfl) (by kernel_rfl) (KeepsIf.read (by rfl) ?_) ?_
        rotate_left
        · intro w hSw
          go_simp
          (try with_reducible rfl)
        rotate_left
        (try simp only [Act.put, List.setIfInBounds_toArray, List.set_cons_zero, List.set_cons_succ])
        refine AllS.take (i := 6) (v := ?_) (by rw [List.getElem?_toArray]; rfl) (by kernel_rfl) (by kernel_rfl) (by kernel_rfl) (KeepsIf.read (by rfl) ?_) ?_
        rotate_left
        · intro w hSw
          obtain ⟨k0, k1, k2, k3, k4, k5⟩ := K.out w (HBR.out.trans (hSw.mono HBR.out.size))
          go_simp
          (try with_reducible rfl)
        rotate_left
        (try simp only [Act.put, List.setIfInBounds_toArray, List.set_cons_zero, List.set_cons_succ])
        refine AllS.take (i := 7) (v := .int .i64 Fd) (by rw [List.getElem?_toArray]; rfl) (by kernel_rfl) (by kernel_rfl) (by kernel_rfl) (KeepsIf.call 15 #[.agg #[.int .i64 Fa, .int .i64 Fd, .int .i64 Fg, .int .i64 Fx, .int .i64 Fo, .slice A 0 c], .int .i64 1024] (by kernel_rfl) (fun w => ?_) (fun w hSw => ?_)) ?_
        · go_simp
        · exact (G1.out w).mono (fun e w' h => ⟨h.1, below_seq hSw h.2⟩)
        (try simp only [Act.put, List.setIfInBounds_toArray, List.set_cons_zero, List.set_cons_succ])
        refine AllS.take (i := 8) (v := ?_) (by rw [List.getElem?_toArray]; rfl) (by kernel_rfl) (by kernel_rfl) (by kernel_rfl) (KeepsIf.read (by rfl) ?_) ?_
        rotate_left
        · intro w hSw
          go_simp
          (try with_reducible rfl)
        rotate_left
        (try simp only [Act.put, List.setIfInBounds_toArray, List.set_cons_zero, List.set_cons_succ])
        refine AllS.take (i := 9) (v := ?_) (by rw [List.getElem?_toArray]; rfl) (by kernel_rfl) (by kernel_rfl) (by kernel_rfl) (KeepsIf.read (by rfl) ?_) ?_
        rotate_left
        · intro w hSw
          obtain ⟨k0, k1, k2, k3, k4, k5⟩ := K.out w (HBR.out.trans (hSw.mono HBR.out.size))
          go_simp
          (try with_reducible rfl)
        rotate_left
        (try simp only [Act.put, List.setIfInBounds_toArray, List.set_cons_zero, List.set_cons_succ])
        refine AllS.take (i := 10) (v := ?_) (by rw [List.getElem?_toArray]; rfl) (by kernel_rfl) (by kernel_rfl) (by kernel_rfl) (KeepsIf.read (by rfl) ?_) ?_
        rotate_left
        · intro w hSw
          go_simp
          (try with_reducible rfl)
        rotate_left
        (try simp only [Act.put, List.setIfInBounds_toArray, List.set_cons_zero, List.set_cons_succ])
        refine AllS.take (i := 11) (v := ?_) (by rw [List.getElem?_toArray]; rfl) (by kernel_rfl) (by kernel_rfl) (by kernel_rfl) (KeepsIf.read (by rfl) ?_) ?_
        rotate_left
        · intro w hSw
          go_simp
          (try with_reducible rfl)
        rotate_left
        (try simp only [Act.put, List.setIfInBounds_toArray, List.set_cons_zero, List.set_cons_succ])
        refine AllS.take (i := 12) (v := ?_) (by rw [List.getElem?_toArray]; rfl) (by kernel_rfl) (by kernel_rfl) (by kernel_rfl) (KeepsIf.read (by rfl) ?_) ?_
        rotate_left
        · intro w hSw
          go_simp
          (try with_reducible rfl)
        rotate_left
        (try simp only [Act.put, List.setIfInBounds_toArray, List.set_cons_zero, List.set_cons_succ])
        refine AllS.take (i := 13) (v := ?_) (by rw [List.getElem?_toArray]; rfl) (by kernel_rfl) (by kernel_rfl) (by kernel_rfl) (KeepsIf.read (by rfl) ?_) ?_
        rotate_left
        · intro w hSw
          obtain ⟨k0, k1, k2, k3, k4, k5⟩ := K.out w (HBR.out.trans (hSw.mono HBR.out.size))
          go_simp
          (try with_reducible rfl)
        rotate_left
        (try simp only [Act.put, List.setIfInBounds_toArray, List.set_cons_zero, List.set_cons_succ])
        refine AllS.take (i := 14) (v := .int .i64 Fg) (by rw [List.getElem?_toArray]; rfl) (by kernel_rfl) (by kernel_rfl) (by kernel_rfl) (KeepsIf.call 16 #[.agg #[.int .i64 Fa, .int .i64 Fd, .int .i64 Fg, .int .i64 Fx, .int .i64 Fo, .slice A 0 c], .int .i64 1024] (by kernel_rfl) (fun w => ?_) (fun w hSw => ?_)) ?_
        · go_simp
        · exact (G2.out w).mono (fun e w' h => ⟨h.1, below_seq hSw h.2⟩)
        (try simp only [Act.put, List.setIfInBounds_toArray, List.set_cons_zero, List.set_cons_succ])
        refine AllS.take (i := 15) (v := ?_) (by rw [List.getElem?_toArray]; rfl) (by kernel_rfl) (by kernel_rfl) (by kernel_rfl) (KeepsIf.read (by rfl) ?_) ?_
        rotate_left
        · intro w hSw
          go_simp
          (try with_reducible rfl)
        rotate_left
        (try simp only [Act.put, List.setIfInBounds_toArray, List.set_cons_zero, List.set_cons_succ])
        refine AllS.take (i := 16) (v := ?_) (by rw [List.getElem?_toArray]; rfl) (by kernel_rfl) (by kernel_rfl) (by kernel_rfl) (KeepsIf.read (by rfl) ?_) ?_
        rotate_left
        · intro w hSw
          obtain ⟨k0, k1, k2, k3, k4, k5⟩ := K.out w (HBR.out.trans (hSw.mono HBR.out.size))
          go_simp
          (try with_reducible rfl)
        rotate_left
        (try simp only [Act.put, List.setIfInBounds_toArray, List.set_cons_zero, List.set_cons_succ])
        refine AllS.take (i := 17) (v := ?_) (by rw [List.getElem?_toArray]; rfl) (by kernel_rfl) (by kernel_rfl) (by kernel_rfl) (KeepsIf.read (by rfl) ?_) ?_
        rotate_left
        · intro w hSw
          go_simp
          (try with_reducible rfl)
        rotate_left
        (try simp only [Act.put, List.setIfInBounds_toArray, List.set_cons_zero, List.set_cons_succ])
        refine AllS.take (i := 18) (v := ?_) (by rw [List.getElem?_toArray]; rfl) (by kernel_rfl) (by kernel_rfl) (by kernel_rfl) (KeepsIf.read (by rfl) ?_) ?_
        rotate_left
        · intro w hSw
          go_simp
          (try with_reducible rfl)
        rotate_left
        (try simp only [Act.put, List.setIfInBounds_toArray, List.set_cons_zero, List.set_cons_succ])
        refine AllS.take (i := 19) (v := ?_) (by rw [List.getElem?_toArray]; rfl) (by kernel_rfl) (by kernel_rfl) (by kernel_rfl) (KeepsIf.read (by rfl) ?_) ?_
        rotate_left
        · intro w hSw
          go_simp
          (try with_reducible rfl)
        rotate_left
        (try simp only [Act.put, List.setIfInBounds_toArray, List.set_cons_zero, List.set_cons_succ])
        refine AllS.take (i := 20) (v := ?_) (by rw [List.getElem?_toArray]; rfl) (by kernel_rfl) (by kernel_rfl) (by kernel_rfl) (KeepsIf.read (by rfl) ?_) ?_
        rotate_left
        · intro w hSw
          obtain ⟨k0, k1, k2, k3, k4, k5⟩ := K.out w (HBR.out.trans (hSw.mono HBR.out.size))
          go_simp
          (try with_reducible rfl)
        rotate_left
        (try simp only [Act.put, List.setIfInBounds_toArray, List.set_cons_zero, List.set_cons_succ])
        refine AllS.take (i := 21) (v := .int .i64 Fx) (by rw [List.getElem?_toArray]; rfl) (by kernel_rfl) (by kernel_rfl) (by kernel_rfl) (KeepsIf.call 17 #[.agg #[.int .i64 Fa, .int .i64 Fd, .int .i64 Fg, .int .i64 Fx, .int .i64 Fo, .slice A 0 c], .int .i64 1024] (by kernel_rfl) (fun w => ?_) (fun w hSw => ?_)) ?_
        · go_simp
        · exact (G3.out w).mono (fun e w' h => ⟨h.1, below_seq hSw h.2⟩)
        (try simp only [Act.put, List.setIfInBounds_toArray, List.set_cons_zero, List.set_cons_succ])
        refine AllS.take (i := 22) (v := ?_) (by rw [List.getElem?_toArray]; rfl) (by kernel_rfl) (by kernel_rfl) (by kernel_rfl) (KeepsIf.read (by rfl) ?_) ?_
        rotate_left
        · intro w hSw
          go_simp
          (try with_reducible rfl)
        rotate_left
        (try simp only [Act.put, List.setIfInBounds_toArray, List.set_cons_zero, List.set_cons_succ])
        refine AllS.take (i := 23) (v := ?_) (by rw [List.getElem?_toArray]; rfl) (by kernel_rfl) (by kernel_rfl) (by kernel_rfl) (KeepsIf.read (by rfl) ?_) ?_
        rotate_left
        · intro w hSw
          obtain ⟨k0, k1, k2, k3, k4, k5⟩ := K.out w (HBR.out.trans (hSw.mono HBR.out.size))
          go_simp
          (try with_reducible rfl)
        rotate_left
        (try simp only [Act.put, List.setIfInBounds_toArray, List.set_cons_zero, List.set_cons_succ])
        refine AllS.take (i := 24) (v := ?_) (by rw [List.getElem?_toArray]; rfl) (by kernel_rfl) (by kernel_rfl) (by kernel_rfl) (KeepsIf.read (by rfl) ?_) ?_
        rotate_left
        · intro w hSw
          go_simp
          (try with_reducible rfl)
        rotate_left
        (try simp only [Act.put, List.setIfInBounds_toArray, List.set_cons_zero, List.set_cons_succ])
        refine AllS.take (i := 25) (v := ?_) (by rw [List.getElem?_toArray]; rfl) (by kernel_rfl) (by kernel_rfl) (by kernel_rfl) (KeepsIf.read (by rfl) ?_) ?_
        rotate_left
        · intro w hSw
          go_simp
          (try with_reducible rfl)
        rotate_left
        (try simp only [Act.put, List.setIfInBounds_toArray, List.set_cons_zero, List.set_cons_succ])
        refine AllS.take (i := 26) (v := ?_) (by rw [List.getElem?_toArray]; rfl) (by kernel_rfl) (by kernel_rfl) (by kernel_rfl) (KeepsIf.read (by rfl) ?_) ?_
        rotate_left
        · intro w hSw
          go_simp
          (try with_reducible rfl)
        rotate_left
        (try simp only [Act.put, List.setIfInBounds_toArray, List.set_cons_zero, List.set_cons_succ])
        refine AllS.take (i := 27) (v := ?_) (by rw [List.getElem?_toArray]; rfl) (by kernel_rfl) (by kernel_rfl) (by kernel_rfl) (KeepsIf.read (by rfl) ?_) ?_
        rotate_left
        · intro w hSw
          obtain ⟨k0, k1, k2, k3, k4, k5⟩ := K.out w (HBR.out.trans (hSw.mono HBR.out.size))
          go_simp
          (try with_reducible rfl)
        rotate_left
        (try simp only [Act.put, List.setIfInBounds_toArray, List.set_cons_zero, List.set_cons_succ])
        refine AllS.take (i := 28) (v := .int .i64 0) (by rw [List.getElem?_toArray]; rfl) (by kernel_rfl) (by kernel_rfl) (by kernel_rfl) (KeepsIf.call 13 #[.agg #[.int .i64 Fa, .int .i64 Fd, .int .i64 Fg, .int .i64 Fx, .int .i64 Fo, .slice A 0 c], .int .i64 0] (by kernel_rfl) (fun w => ?_) (fun w hSw => ?_)) ?_
        · go_simp
        · exact (Z1.out w).mono (fun e w' h => ⟨h.1, below_seq hSw h.2⟩)
        (try simp only [Act.put, List.setIfInBounds_toArray, List.set_cons_zero, List.set_cons_succ])
        refine AllS.take (i := 29) (v := ?_) (by rw [List.getElem?_toArray]; rfl) (by kernel_rfl) (by kernel_rfl) (by kernel_rfl) (KeepsIf.read (by rfl) ?_) ?_
        rotate_left
        · intro w hSw
          obtain ⟨k0, k1, k2, k3, k4, k5⟩ := K.out w (HBR.out.trans (hSw.mono HBR.out.size))
          go_simp
          (try with_reducible rfl)
        rotate_left
        (try simp only [Act.put, List.setIfInBounds_toArray, List.set_cons_zero, List.set_cons_succ])
        refine AllS.take (i := 30) (v := .int .i64 0) (by rw [List.getElem?_toArray]; rfl) (by kernel_rfl) (by kernel_rfl) (by kernel_rfl) (KeepsIf.call 15 #[.agg #[.int .i64 Fa, .int .i64 Fd, .int .i64 Fg, .int .i64 Fx, .int .i64 Fo, .slice A 0 c], .int .i64 0] (by kernel_rfl) (fun w => ?_) (fun w hSw => ?_)) ?_
        · go_simp
        · exact (Z2.out w).mono (fun e w' h => ⟨h.1, below_seq hSw h.2⟩)
        (try simp only [Act.put, List.setIfInBounds_toArray, List.set_cons_zero, List.set_cons_succ])
        refine AllS.take (i := 31) (v := ?_) (by rw [List.getElem?_toArray]; rfl) (by kernel_rfl) (by kernel_rfl) (by kernel_rfl) (KeepsIf.read (by rfl) ?_) ?_
        rotate_left
        · intro w hSw
          go_simp
          (try with_reducible rfl)
        rotate_left
        (try simp only [Act.put, List.setIfInBounds_toArray, List.set_cons_zero, List.set_cons_succ])
        refine AllS.take (i := 32) (v := ?_) (by rw [List.getElem?_toArray]; rfl) (by kernel_rfl) (by kernel_rfl) (by kernel_rfl) (KeepsIf.read (by rfl) ?_) ?_
        rotate_left
        · intro w hSw
          obtain ⟨k0, k1, k2, k3, k4, k5⟩ := K.out w (HBR.out.trans (hSw.mono HBR.out.size))
          go_simp
          (try with_reducible rfl)
        rotate_left
        (try simp only [Act.put, List.setIfInBounds_toArray, List.set_cons_zero, List.set_cons_succ])
        refine AllS.take (i := 33) (v := ?_) (by rw [List.getElem?_toArray]; rfl) (by kernel_rfl) (by kernel_rfl) (by kernel_rfl) (KeepsIf.read (by rfl) ?_) ?_
        rotate_left
        · intro w hSw
          go_simp
          (try with_reducible rfl)
        rotate_left
        (try simp only [Act.put, List.setIfInBounds_toArray, List.set_cons_zero, List.set_cons_succ])
        refine AllS.take (i := 34) (v := .int .i64 0) (by rw [List.getElem?_toArray]; rfl) (by kernel_rfl) (by kernel_rfl) (by kernel_rfl) (KeepsIf.call 11 #[.agg #[.int .i64 Fa, .int .i64 Fd, .int .i64 Fg, .int .i64 Fx, .int .i64 Fo, .slice A 0 c], .int .i64 0, .int .i32 97] (by kernel_rfl) (fun w => ?_) (fun w hSw => ?_)) ?_
        · go_simp
        · exact (CZ.out 97 w (HBel.out.trans ((HBR.out.trans (hSw.mono HBR.out.size)).mono HBel.out.size))).mono (fun e w' h => ⟨h.1, below_seq hSw h.2⟩)
        (try simp only [Act.put, List.setIfInBounds_toArray, List.set_cons_zero, List.set_cons_succ])
        refine AllS.take (i := 35) (v := ?_) (by rw [List.getElem?_toArray]; rfl) (by kernel_rfl) (by kernel_rfl) (by kernel_rfl) (KeepsIf.read (by rfl) ?_) ?_
        rotate_left
        · intro w hSw
          go_simp
          (try with_reducible rfl)
        rotate_left
        (try simp only [Act.put, List.setIfInBounds_toArray, List.set_cons_zero, List.set_cons_succ])
        refine AllS.take (i := 36) (v := ?_) (by rw [List.getElem?_toArray]; rfl) (by kernel_rfl) (by kernel_rfl) (by kernel_rfl) (KeepsIf.read (by rfl) ?_) ?_
        rotate_left
        · intro w hSw
          go_simp
          (try with_reducible rfl)
        rotate_left
        (try simp only [Act.put, List.setIfInBounds_toArray, List.set_cons_zero, List.set_cons_succ])
        refine AllS.take (i := 37) (v := ?_) (by rw [List.getElem?_toArray]; rfl) (by kernel_rfl) (by kernel_rfl) (by kernel_rfl) (KeepsIf.read (by rfl) ?_) ?_
        rotate_left
        · intro w hSw
          go_simp
          (try with_reducible rfl)
        rotate_left
        (try simp only [Act.put, List.setIfInBounds_toArray, List.set_cons_zero, List.set_cons_succ])
        refine AllS.take (i := 38) (v := ?_) (by rw [List.getElem?_toArray]; rfl) (by kernel_rfl) (by kernel_rfl) (by kernel_rfl) (KeepsIf.read (by rfl) ?_) ?_
        rotate_left
        · intro w hSw
          go_simp
          (try with_reducible rfl)
        rotate_left
        (try simp only [Act.put, List.setIfInBounds_toArray, List.set_cons_zero, List.set_cons_succ])
        refine AllS.take (i := 39) (v := .bool true) (by rw [List.getElem?_toArray]; rfl) (by kernel_rfl) (by kernel_rfl) (by kernel_rfl) (KeepsIf.call 8 #[] (by kernel_rfl) (fun w => ?_) (fun w hSw => ?_)) ?_
        · go_simp
        · exact (HH.out w).mono (fun e w' h => ⟨h.1, below_seq hSw h.2⟩)
        (try simp only [Act.put, List.setIfInBounds_toArray, List.set_cons_zero, List.set_cons_succ])
        refine AllS.take (i := 40) (v := ?_) (by rw [List.getElem?_toArray]; rfl) (by kernel_rfl) (by kernel_rfl) (by kernel_rfl) (KeepsIf.read (by rfl) ?_) ?_
        rotate_left
        · intro w hSw
          go_simp
          (try with_reducible rfl)
        rotate_left
        (try simp only [Act.put, List.setIfInBounds_toArray, List.set_cons_zero, List.set_cons_succ])
        refine AllS.take (i := 41) (v := ?_) (by rw [List.getElem?_toArray]; rfl) (by kernel_rfl) (by kernel_rfl) (by kernel_rfl) (KeepsIf.read (by rfl) ?_) ?_
        rotate_left
        · intro w hSw
          go_simp
          (try with_reducible rfl)
        rotate_left
        (try simp only [Act.put, List.setIfInBounds_toArray, List.set_cons_zero, List.set_cons_succ])
        refine AllS.done (by kernel_rfl) (hR.out _ ?_) _
        clear hR R
        intro w5 hb5
        go_wp2_with fail
        go_ret
        exact ⟨rfl, HBel.out.trans ((HBR.out.trans (hb5.mono HBR.out.size)).mono HBel.out.size)⟩
      · have hpos : 0 < n := by omega
        obtain ⟨m, rfl⟩ : ∃ m, n = m + 1 := ⟨n - 1, by omega⟩
        obtain ⟨e, he⟩ : ∃ e, Frs[m]? = some e := ⟨_, List.getElem?_eq_getElem (by rw [HL.out]; omega)⟩
        obtain ⟨a, cap, o, hv, ha, _, d1, _⟩ := HI.out.get bel2 he
        injection hv with hv1 hv2 hv3
        subst hv1 hv3
        obtain ⟨r, hr⟩ : ∃ r, e.t = r := ⟨_, rfl⟩
        rw [hr] at d1
        have hm1 : ((m : Int) + 1 - 1) = m := by omega
        have hmz : (m : Int) + 1 ≤ 256 := by omega
        have hmz0 : (0 : Int) < (m : Int) + 1 := by omega
        clear he hr hv2
        go_wp2_with fail
        rw [HX0.out, HY0.out]
        obtain ⟨q1, q2, q3⟩ := U1 r
        have HBR : Hid (Below w2.heap.size w2 w2) := Below.refl _ _
        refine region_go (by kernel_rfl) (fun R hR => ?_)
        refine AllS.take (i := 0) (v := ?_) (by rw [List.getElem?_toArray]; rfl) (by kernel_rfl) (by kernel_rfl) (by kernel_rfl) (KeepsIf.read (by rfl) ?_) ?_
        rotate_left
        · intro w hSw
          obtain ⟨k0, k1, k2, k3, k4, k5⟩ := K.out w (HBR.out.trans (hSw.mono HBR.out.size))
          go_simp
          (try with_reducible rfl)
        rotate_left
        (try simp only [Act.put, List.setIfInBounds_toArray, List.set_cons_zero, List.set_cons_succ])
        refine AllS.take (i := 1) (v := ?_) (by rw [List.getElem?_toArray]; rfl) (by kernel_rfl) (by kernel_rfl) (by kernel_rfl) (KeepsIf.read (by rfl) ?_) ?_
        rotate_left
        · intro w hSw
          go_simp
          (try with_reducible rfl)
        rotate_left
        (try simp only [Act.put, List.setIfInBounds_toArray, List.set_cons_zero, List.set_cons_succ])
        refine AllS.take (i := 2) (v := ?_) (by rw [List.getElem?_toArray]; rfl) (by kernel_rfl) (by kernel_rfl) (by kernel_rfl) (KeepsIf.read (by rfl) ?_) ?_
        rotate_left
        · intro w hSw
          go_simp
          (try with_reducible rfl)
        rotate_left
        (try simp only [Act.put, List.setIfInBounds_toArray, List.set_cons_zero, List.set_cons_succ])
        refine AllS.take (i := 3) (v := .int .i64 (u r)) (by rw [List.getElem?_toArray]; rfl) (by kernel_rfl) (by kernel_rfl) (by kernel_rfl) (KeepsIf.call 11 #[.agg #[.int .i64 Fa, .int .i64 Fd, .int .i64 Fg, .int .i64 Fx, .int .i64 Fo, .slice (some a) (m + 1) c], .int .i64 x, .int .i32 r] (by kernel_rfl) (fun w => ?_) (fun w hSw => ?_)) ?_
        · go_simp
        · exact (CU.out r w (HBel.out.trans ((HBR.out.trans (hSw.mono HBR.out.size)).mono HBel.out.size))).mono (fun e w' h => ⟨h.1, below_seq hSw h.2⟩)
        (try simp only [Act.put, List.setIfInBounds_toArray, List.set_cons_zero, List.set_cons_succ])
        refine AllS.take (i := 4) (v := ?_) (by rw [List.getElem?_toArray]; rfl) (by kernel_rfl) (by kernel_rfl) (by kernel_rfl) (KeepsIf.read (by rfl) ?_) ?_
        rotate_left
        · intro w hSw
          obtain ⟨k0, k1, k2, k3, k4, k5⟩ := K.out w (HBR.out.trans (hSw.mono HBR.out.size))
          go_simp
          (try with_reducible rfl)
        rotate_left
        (try simp only [Act.put, List.setIfInBounds_toArray, List.set_cons_zero, List.set_cons_succ])
        refine AllS.take (i := 5) (v := ?_) (by rw [List.getElem?_toArray]; rfl) (by kernel_rfl) (by kernel_rfl) (by kernel_rfl) (KeepsIf.read (by rfl) ?_) ?_
        rotate_left
        · intro w hSw
          go_simp
          (try with_reducible rfl)
        rotate_left
        (try simp only [Act.put, List.setIfInBounds_toArray, List.set_cons_zero, List.set_cons_succ])
        refine AllS.take (i := 6) (v := ?_) (by rw [List.getElem?_toArray]; rfl) (by kernel_rfl) (by kernel_rfl) (by kernel_rfl) (KeepsIf.read (by rfl) ?_) ?_
        rotate_left
        · intro w hSw
          go_simp
          (try with_reducible rfl)
        rotate_left
        (try simp only [Act.put, List.setIfInBounds_toArray, List.set_cons_zero, List.set_cons_succ])
        refine AllS.take (i := 7) (v := .int .i64 (v r)) (by rw [List.getElem?_toArray]; rfl) (by kernel_rfl) (by kernel_rfl) (by kernel_rfl) (KeepsIf.call 11 #[.agg #[.int .i64 Fa, .int .i64 Fd, .int .i64 Fg, .int .i64 Fx, .int .i64 Fo, .slice (some a) (m + 1) c], .int .i64 y, .int .i32 r] (by kernel_rfl) (fun w => ?_) (fun w hSw => ?_)) ?_
        · go_simp
        · exact (CV.out r w (HBel.out.trans ((HBR.out.trans (hSw.mono HBR.out.size)).mono HBel.out.size))).mono (fun e w' h => ⟨h.1, below_seq hSw h.2⟩)
        (try simp only [Act.put, List.setIfInBounds_toArray, List.set_cons_zero, List.set_cons_succ])
        refine AllS.take (i := 8) (v := ?_) (by rw [List.getElem?_toArray]; rfl) (by kernel_rfl) (by kernel_rfl) (by kernel_rfl) (KeepsIf.read (by rfl) ?_) ?_
        rotate_left
        · intro w hSw
          obtain ⟨k0, k1, k2, k3, k4, k5⟩ := K.out w (HBR.out.trans (hSw.mono HBR.out.size))
          go_simp
          (try with_reducible rfl)
        rotate_left
        (try simp only [Act.put, List.setIfInBounds_toArray, List.set_cons_zero, List.set_cons_succ])
        refine AllS.take (i := 9) (v := ?_) (by rw [List.getElem?_toArray]; rfl) (by kernel_rfl) (by kernel_rfl) (by kernel_rfl) (KeepsIf.read (by rfl) ?_) ?_
        rotate_left
        · intro w hSw
          go_simp
          (try with_reducible rfl)
        rotate_left
        (try simp only [Act.put, List.setIfInBounds_toArray, List.set_cons_zero, List.set_cons_succ])
        refine AllS.take (i := 10) (v := .int .i64 uy) (by rw [List.getElem?_toArray]; rfl) (by kernel_rfl) (by kernel_rfl) (by kernel_rfl) (KeepsIf.call 13 #[.agg #[.int .i64 Fa, .int .i64 Fd, .int .i64 Fg, .int .i64 Fx, .int .i64 Fo, .slice (some a) (m + 1) c], .int .i64 y] (by kernel_rfl) (fun w => ?_) (fun w hSw => ?_)) ?_
        · go_simp
        · exact (M2.out w).mono (fun e w' h => ⟨h.1, below_seq hSw h.2⟩)
        (try simp only [Act.put, List.setIfInBounds_toArray, List.set_cons_zero, List.set_cons_succ])
        refine AllS.take (i := 11) (v := ?_) (by rw [List.getElem?_toArray]; rfl) (by kernel_rfl) (by kernel_rfl) (by kernel_rfl) (KeepsIf.read (by rfl) ?_) ?_
        rotate_left
        · intro w hSw
          go_simp
          (try with_reducible rfl)
        rotate_left
        (try simp only [Act.put, List.setIfInBounds_toArray, List.set_cons_zero, List.set_cons_succ])
        refine AllS.take (i := 12) (v := ?_) (by rw [List.getElem?_toArray]; rfl) (by kernel_rfl) (by kernel_rfl) (by kernel_rfl) (KeepsIf.read (by rfl) ?_) ?_
        rotate_left
        · intro w hSw
          go_simp
          (try with_reducible rfl)
        rotate_left
        (try simp only [Act.put, List.setIfInBounds_toArray, List.set_cons_zero, List.set_cons_succ])
        refine AllS.take (i := 13) (v := ?_) (by rw [List.getElem?_toArray]; rfl) (by kernel_rfl) (by kernel_rfl) (by kernel_rfl) (KeepsIf.read (by rfl) ?_) ?_
        rotate_left
        · intro w hSw
          go_simp
          (try with_reducible rfl)
        rotate_left
        (try simp only [Act.put, List.setIfInBounds_toArray, List.set_cons_zero, List.set_cons_succ])
        refine AllS.done (by kernel_rfl) (hR.out _ ?_) _
        clear hR R
        intro w3 hb3
        clear HBR
        have HBR : Hid (Below w2.heap.size w2 w3) := hb3
        clear hb3
        go_wp2_with fail
        refine region_go (by kernel_rfl) (fun R hR => ?_)
        refine AllS.take (i := 0) (v := ?_) (by rw [List.getElem?_toArray]; rfl) (by kernel_rfl) (by kernel_rfl) (by kernel_rfl) (KeepsIf.read (by rfl) ?_) ?_
        rotate_left
        · intro w hSw
          go_simp
          (try with_reducible rfl)
        rotate_left
        (try simp only [Act.put, List.setIfInBounds_toArray, List.set_cons_zero, List.set_cons_succ])
        refine AllS.take (i := 1) (v := .bool false) (by rw [List.getElem?_toArray]; rfl) (by kernel_rfl) (by kernel_rfl) (by kernel_rfl) (KeepsIf.read (by rfl) (fun w hSw => ?_)) ?_
        · go_simp
          (all_goals first | omega | (simp; done) | (simp; omega))
        (try simp only [Act.put, List.setIfInBounds_toArray, List.set_cons_zero, List.set_cons_succ])
        refine AllS.take (i := 2) (v := ?_) (by rw [List.getElem?_toArray]; rfl) (by kernel_rfl) (by kernel_rfl) (by kernel_rfl) (KeepsIf.read (by rfl) ?_) ?_
        rotate_left
        · intro w hSw
          go_simp
          (try with_reducible rfl)
        rotate_left
        (try simp only [Act.put, List.setIfInBounds_toArray, List.set_cons_zero, List.set_cons_succ])
        refine AllS.take (i := 3) (v := ?_) (by rw [List.getElem?_toArray]; rfl) (by kernel_rfl) (by kernel_rfl) (by kernel_rfl) (KeepsIf.read (by rfl) ?_) ?_
        rotate_left
        · intro w hSw
          go_simp
          (try with_reducible rfl)
        rotate_left
        (try simp only [Act.put, List.setIfInBounds_toArray, List.set_cons_zero, List.set_cons_succ])
        refine AllS.take (i := 4) (v := .bool false) (by rw [List.getElem?_toArray]; rfl) (by kernel_rfl) (by kernel_rfl) (by kernel_rfl) (KeepsIf.read (by rfl) (fun w hSw => ?_)) ?_
        · go_simp
          (all_goals first | omega | (simp; done) | (simp; omega))
        (try simp only [Act.put, List.setIfInBounds_toArray, List.set_cons_zero, List.set_cons_succ])
        refine AllS.take (i := 5) (v := ?_) (by rw [List.getElem?_toArray]; rfl) (by kernel_rfl) (by kernel_rfl) (by kernel_rfl) (KeepsIf.read (by rfl) ?_) ?_
        rotate_left
        · intro w hSw
          go_simp
          (try with_reducible rfl)
        rotate_left
        (try simp only [Act.put, List.setIfInBounds_toArray, List.set_cons_zero, List.set_cons_succ])
        refine AllS.take (i := 6) (v := ?_) (by rw [List.getElem?_toArray]; rfl) (by kernel_rfl) (by kernel_rfl) (by kernel_rfl) (KeepsIf.read (by rfl) ?_) ?_
        rotate_left
        · intro w hSw
          go_simp
          (try with_reducible rfl)
        rotate_left
        (try simp only [Act.put, List.setIfInBounds_toArray, List.set_cons_zero, List.set_cons_succ])
        refine AllS.take (i := 7) (v := ?_) (by rw [List.getElem?_toArray]; rfl) (by kernel_rfl) (by kernel_rfl) (by kernel_rfl) (KeepsIf.read (by rfl) ?_) ?_
        rotate_left
        · intro w hSw
          go_simp
          (try with_reducible rfl)
        rotate_left
        (try simp only [Act.put, List.setIfInBounds_toArray, List.set_cons_zero, List.set_cons_succ])
        refine AllS.take (i := 8) (v := ?_) (by rw [List.getElem?_toArray]; rfl) (by kernel_rfl) (by kernel_rfl) (by kernel_rfl) (KeepsIf.read (by rfl) ?_) ?_
        rotate_left
        · intro w hSw
          go_simp
          (try with_reducible rfl)
        rotate_left
        (try simp only [Act.put, List.setIfInBounds_toArray, List.set_cons_zero, List.set_cons_succ])
        refine AllS.take (i := 9) (v := .bool false) (by rw [List.getElem?_toArray]; rfl) (by kernel_rfl) (by kernel_rfl) (by kernel_rfl) (KeepsIf.read (by rfl) (fun w hSw => ?_)) ?_
        · go_simp
          (all_goals first | omega | (simp; done) | (simp; omega))
        (try simp only [Act.put, List.setIfInBounds_toArray, List.set_cons_zero, List.set_cons_succ])
        refine AllS.take (i := 10) (v := ?_) (by rw [List.getElem?_toArray]; rfl) (by kernel_rfl) (by kernel_rfl) (by kernel_rfl) (KeepsIf.read (by rfl) ?_) ?_
        rotate_left
        · intro w hSw
          go_simp
          (try with_reducible rfl)
        rotate_left
        (try simp only [Act.put, List.setIfInBounds_toArray, List.set_cons_zero, List.set_cons_succ])
        refine AllS.take (i := 11) (v := ?_) (by rw [List.getElem?_toArray]; rfl) (by kernel_rfl) (by kernel_rfl) (by kernel_rfl) (KeepsIf.read (by rfl) ?_) ?_
        rotate_left
        · intro w hSw
          go_simp
          (try with_reducible rfl)
        rotate_left
        (try simp only [Act.put, List.setIfInBounds_toArray, List.set_cons_zero, List.set_cons_succ])
        refine AllS.take (i := 12) (v := ?_) (by rw [List.getElem?_toArray]; rfl) (by kernel_rfl) (by kernel_rfl) (by kernel_rfl) (KeepsIf.read (by rfl) ?_) ?_
        rotate_left
        · intro w hSw
          go_simp
          (try with_reducible rfl)
        rotate_left
        (try simp only [Act.put, List.setIfInBounds_toArray, List.set_cons_zero, List.set_cons_succ])
        refine AllS.take (i := 13) (v := .bool false) (by rw [List.getElem?_toArray]; rfl) (by kernel_rfl) (by kernel_rfl) (by kernel_rfl) (KeepsIf.read (by rfl) (fun w hSw => ?_)) ?_
        · go_simp
          (all_goals first | omega | (simp; done) | (simp; omega))
        (try simp only [Act.put, List.setIfInBounds_toArray, List.set_cons_zero, List.set_cons_succ])
        refine AllS.take (i := 14) (v := ?_) (by rw [List.getElem?_toArray]; rfl) (by kernel_rfl) (by kernel_rfl) (by kernel_rfl) (KeepsIf.read (by rfl) ?_) ?_
        rotate_left
        · intro w hSw
          go_simp
          (try with_reducible rfl)
        rotate_left
        (try simp only [Act.put, List.setIfInBounds_toArray, List.set_cons_zero, List.set_cons_succ])
        refine AllS.take (i := 15) (v := ?_) (by rw [List.getElem?_toArray]; rfl) (by kernel_rfl) (by kernel_rfl) (by kernel_rfl) (KeepsIf.read (by rfl) ?_) ?_
        rotate_left
        · intro w hSw
          go_simp
          (try with_reducible rfl)
        rotate_left
        (try simp only [Act.put, List.setIfInBounds_toArray, List.set_cons_zero, List.set_cons_succ])
        refine AllS.take (i := 16) (v := ?_) (by rw [List.getElem?_toArray]; rfl) (by kernel_rfl) (by kernel_rfl) (by kernel_rfl) (KeepsIf.read (by rfl) ?_) ?_
        rotate_left
        · intro w hSw
          go_simp
          (try with_reducible rfl)
        rotate_left
        (try simp only [Act.put, List.setIfInBounds_toArray, List.set_cons_zero, List.set_cons_succ])
        refine AllS.take (i := 17) (v := .bool false) (by rw [List.getElem?_toArray]; rfl) (by kernel_rfl) (by kernel_rfl) (by kernel_rfl) (KeepsIf.read (by rfl) (fun w hSw => ?_)) ?_
        · go_simp
          (all_goals first | omega | (simp; done) | (simp; omega))
        (try simp only [Act.put, List.setIfInBounds_toArray, List.set_cons_zero, List.set_cons_succ])
        refine AllS.take (i := 18) (v := ?_) (by rw [List.getElem?_toArray]; rfl) (by kernel_rfl) (by kernel_rfl) (by kernel_rfl) (KeepsIf.read (by rfl) ?_) ?_
        rotate_left
        · intro w hSw
          go_simp
          (try with_reducible rfl)
        rotate_left
        (try simp only [Act.put, List.setIfInBounds_toArray, List.set_cons_zero, List.set_cons_succ])
        refine AllS.take (i := 19) (v := ?_) (by rw [List.getElem?_toArray]; rfl) (by kernel_rfl) (by kernel_rfl) (by kernel_rfl) (KeepsIf.read (by rfl) ?_) ?_
        rotate_left
        · intro w hSw
          go_simp
          (try with_reducible rfl)
        rotate_left
        (try simp only [Act.put, List.setIfInBounds_toArray, List.set_cons_zero, List.set_cons_succ])
        refine AllS.take (i := 20) (v := ?_) (by rw [List.getElem?_toArray]; rfl) (by kernel_rfl) (by kernel_rfl) (by kernel_rfl) (KeepsIf.read (by rfl) ?_) ?_
        rotate_left
        · intro w hSw
          obtain ⟨k0, k1, k2, k3, k4, k5⟩ := K.out w (HBR.out.trans (hSw.mono HBR.out.size))
          go_simp
          (try with_reducible rfl)
        rotate_left
        (try simp only [Act.put, List.setIfInBounds_toArray, List.set_cons_zero, List.set_cons_succ])
        refine AllS.take (i := 21) (v := ?_) (by rw [List.getElem?_toArray]; rfl) (by kernel_rfl) (by kernel_rfl) (by kernel_rfl) (KeepsIf.read (by rfl) ?_) ?_
        rotate_left
        · intro w hSw
          go_simp
          (try with_reducible rfl)
        rotate_left
        (try simp only [Act.put, List.setIfInBounds_toArray, List.set_cons_zero, List.set_cons_succ])
        refine AllS.take (i := 22) (v := .int .i64 ux) (by rw [List.getElem?_toArray]; rfl) (by kernel_rfl) (by kernel_rfl) (by kernel_rfl) (KeepsIf.call 13 #[.agg #[.int .i64 Fa, .int .i64 Fd, .int .i64 Fg, .int .i64 Fx, .int .i64 Fo, .slice (some a) (m + 1) c], .int .i64 x] (by kernel_rfl) (fun w => ?_) (fun w hSw => ?_)) ?_
        · go_simp
        · exact (M1.out w).mono (fun e w' h => ⟨h.1, below_seq hSw h.2⟩)
        (try simp only [Act.put, List.setIfInBounds_toArray, List.set_cons_zero, List.set_cons_succ])
        refine AllS.take (i := 23) (v := ?_) (by rw [List.getElem?_toArray]; rfl) (by kernel_rfl) (by kernel_rfl) (by kernel_rfl) (KeepsIf.read (by rfl) ?_) ?_
        rotate_left
        · intro w hSw
          go_simp
          (try with_reducible rfl)
        rotate_left
        (try simp only [Act.put, List.setIfInBounds_toArray, List.set_cons_zero, List.set_cons_succ])
        refine AllS.take (i := 24) (v := .bool false) (by rw [List.getElem?_toArray]; rfl) (by kernel_rfl) (by kernel_rfl) (by kernel_rfl) (KeepsIf.read (by rfl) (fun w hSw => ?_)) ?_
        · go_simp
          (all_goals first | omega | (simp; done) | (simp; omega))
        (try simp only [Act.put, List.setIfInBounds_toArray, List.set_cons_zero, List.set_cons_succ])
        refine AllS.take (i := 25) (v := ?_) (by rw [List.getElem?_toArray]; rfl) (by kernel_rfl) (by kernel_rfl) (by kernel_rfl) (KeepsIf.read (by rfl) ?_) ?_
        rotate_left
        · intro w hSw
          go_simp
          (try with_reducible rfl)
        rotate_left
        (try simp only [Act.put, List.setIfInBounds_toArray, List.set_cons_zero, List.set_cons_succ])
        refine AllS.take (i := 26) (v := ?_) (by rw [List.getElem?_toArray]; rfl) (by kernel_rfl) (by kernel_rfl) (by kernel_rfl) (KeepsIf.read (by rfl) ?_) ?_
        rotate_left
        · intro w hSw
          go_simp
          (try with_reducible rfl)
        rotate_left
        (try simp only [Act.put, List.setIfInBounds_toArray, List.set_cons_zero, List.set_cons_succ])
        refine AllS.take (i := 27) (v := ?_) (by rw [List.getElem?_toArray]; rfl) (by kernel_rfl) (by kernel_rfl) (by kernel_rfl) (KeepsIf.read (by rfl) ?_) ?_
        rotate_left
        · intro w hSw
          obtain ⟨k0, k1, k2, k3, k4, k5⟩ := K.out w (HBR.out.trans (hSw.mono HBR.out.size))
          go_simp
          (try with_reducible rfl)
        rotate_left
        (try simp only [Act.put, List.setIfInBounds_toArray, List.set_cons_zero, List.set_cons_succ])
        refine AllS.take (i := 28) (v := ?_) (by rw [List.getElem?_toArray]; rfl) (by kernel_rfl) (by kernel_rfl) (by kernel_rfl) (KeepsIf.read (by rfl) ?_) ?_
        rotate_left
        · intro w hSw
          go_simp
          (try with_reducible rfl)
        rotate_left
        (try simp only [Act.put, List.setIfInBounds_toArray, List.set_cons_zero, List.set_cons_succ])
        refine AllS.take (i := 29) (v := .int .i64 dx) (by rw [List.getElem?_toArray]; rfl) (by kernel_rfl) (by kernel_rfl) (by kernel_rfl) (KeepsIf.call 15 #[.agg #[.int .i64 Fa, .int .i64 Fd, .int .i64 Fg, .int .i64 Fx, .int .i64 Fo, .slice (some a) (m + 1) c], .int .i64 x] (by kernel_rfl) (fun w => ?_) (fun w hSw => ?_)) ?_
        · go_simp
        · exact (M3.out w).mono (fun e w' h => ⟨h.1, below_seq hSw h.2⟩)
        (try simp only [Act.put, List.setIfInBounds_toArray, List.set_cons_zero, List.set_cons_succ])
        refine AllS.take (i := 30) (v := ?_) (by rw [List.getElem?_toArray]; rfl) (by kernel_rfl) (by kernel_rfl) (by kernel_rfl) (KeepsIf.read (by rfl) ?_) ?_
        rotate_left
        · intro w hSw
          obtain ⟨k0, k1, k2, k3, k4, k5⟩ := K.out w (HBR.out.trans (hSw.mono HBR.out.size))
          go_simp
          (try with_reducible rfl)
        rotate_left
        (try simp only [Act.put, List.setIfInBounds_toArray, List.set_cons_zero, List.set_cons_succ])
        refine AllS.take (i := 31) (v := ?_) (by rw [List.getElem?_toArray]; rfl) (by kernel_rfl) (by kernel_rfl) (by kernel_rfl) (KeepsIf.read (by rfl) ?_) ?_
        rotate_left
        · intro w hSw
          go_simp
          (try with_reducible rfl)
        rotate_left
        (try simp only [Act.put, List.setIfInBounds_toArray, List.set_cons_zero, List.set_cons_succ])
        refine AllS.take (i := 32) (v := .int .i64 dy) (by rw [List.getElem?_toArray]; rfl) (by kernel_rfl) (by kernel_rfl) (by kernel_rfl) (KeepsIf.call 15 #[.agg #[.int .i64 Fa, .int .i64 Fd, .int .i64 Fg, .int .i64 Fx, .int .i64 Fo, .slice (some a) (m + 1) c], .int .i64 y] (by kernel_rfl) (fun w => ?_) (fun w hSw => ?_)) ?_
        · go_simp
        · exact (M4.out w).mono (fun e w' h => ⟨h.1, below_seq hSw h.2⟩)
        (try simp only [Act.put, List.setIfInBounds_toArray, List.set_cons_zero, List.set_cons_succ])
        refine AllS.take (i := 33) (v := .bool false) (by rw [List.getElem?_toArray]; rfl) (by kernel_rfl) (by kernel_rfl) (by kernel_rfl) (KeepsIf.read (by rfl) (fun w hSw => ?_)) ?_
        · go_simp
          (all_goals first | omega | (simp; done) | (simp; omega))
        (try simp only [Act.put, List.setIfInBounds_toArray, List.set_cons_zero, List.set_cons_succ])
        refine AllS.take (i := 34) (v := ?_) (by rw [List.getElem?_toArray]; rfl) (by kernel_rfl) (by kernel_rfl) (by kernel_rfl) (KeepsIf.read (by rfl) ?_) ?_
        rotate_left
        · intro w hSw
          go_simp
          (try with_reducible rfl)
        rotate_left
        (try simp only [Act.put, List.setIfInBounds_toArray, List.set_cons_zero, List.set_cons_succ])
        refine AllS.done (by kernel_rfl) (hR.out _ ?_) _
        clear hR R
        intro w4 hb4
        have HBR4 : Hid (Below w2.heap.size w2 w4) := HBR.out.trans (hb4.mono HBR.out.size)
        clear HBR hb4
        have HBR := HBR4
        clear HBR4
        go_wp2_with fail
        refine region_go (by kernel_rfl) (fun R hR => ?_)
        refine AllS.take (i := 0) (v := ?_) (by rw [List.getElem?_toArray]; rfl) (by kernel_rfl) (by kernel_rfl) (by kernel_rfl) (KeepsIf.read (by rfl) ?_) ?_
        rotate_left
        · intro w hSw
          obtain ⟨k0, k1, k2, k3, k4, k5⟩ := K.out w (HBR.out.trans (hSw.mono HBR.out.size))
          go_simp
          (try with_reducible rfl)
        rotate_left
        (try simp only [Act.put, List.setIfInBounds_toArray, List.set_cons_zero, List.set_cons_succ])
        refine AllS.take (i := 1) (v := .int .i64 Fa) (by rw [List.getElem?_toArray]; rfl) (by kernel_rfl) (by kernel_rfl) (by kernel_rfl) (KeepsIf.call 13 #[.agg #[.int .i64 Fa, .int .i64 Fd, .int .i64 Fg, .int .i64 Fx, .int .i64 Fo, .slice (some a) (m + 1) c], .int .i64 1024] (by kernel_rfl) (fun w => ?_) (fun w hSw => ?_)) ?_
        · go_simp
        · exact (G0.out w).mono (fun e w' h => ⟨h.1, below_seq hSw h.2⟩)
        (try simp only [Act.put, List.setIfInBounds_toArray, List.set_cons_zero, List.set_cons_succ])
        refine AllS.take (i := 2) (v := ?_) (by rw [List.getElem?_toArray]; rfl) (by kernel_rfl) (by kernel_rfl) (by kernel_rfl) (KeepsIf.read (by rfl) ?_) ?_
        rotate_left
        · intro w hSw
          go_simp
          (try with_reducible rfl)
        rotate_left
        (try simp only [Act.put, List.setIfInBounds_toArray, List.set_cons_zero, List.set_cons_succ])
        refine AllS.take (i := 3) (v := ?_) (by rw [List.getElem?_toArray]; rfl) (by kernel_rfl) (by kernel_rfl) (by kernel_rfl) (KeepsIf.read (by rfl) ?_) ?_
        rotate_left
        · intro w hSw
          obtain ⟨k0, k1, k2, k3, k4, k5⟩ := K.out w (HBR.out.trans (hSw.mono HBR.out.size))
          go_simp
          (try with_reducible rfl)
        rotate_left
        (try simp only [Act.put, List.setIfInBounds_toArray, List.set_cons_zero, List.set_cons_succ])
        refine AllS.take (i := 4) (v := ?_) (by rw [List.getElem?_toArray]; rfl) (by kernel_rfl) (by kernel_rfl) (by kernel_rfl) (KeepsIf.read (by rfl) ?_) ?_
        rotate_left
        · intro w hSw
          go_simp
          (try with_reducible rfl)
        rotate_left
        (try simp only [Act.put, List.setIfInBounds_toArray, List.set_cons_zero, List.set_cons_succ])
        refine AllS.take (i := 5) (v := ?_) (by rw [List.getElem?_toArray]; rfl) (by kernel_rfl) (by kernel_rfl) (by kernel_rfl) (KeepsIf.read (by rfl) ?_) ?_
        rotate_left
        · intro w hSw
          go_simp
          (try with_reducible rfl)
        rotate_left
        (try simp only [Act.put, List.setIfInBounds_toArray, List.set_cons_zero, List.set_cons_succ])
        refine AllS.take (i := 6) (v := ?_) (by rw [List.getElem?_toArray]; rfl) (by kernel_rfl) (by kernel_rfl) (by kernel_rfl) (KeepsIf.read (by rfl) ?_) ?_
        rotate_left
        · intro w hSw
          obtain ⟨k0, k1, k2, k3, k4, k5⟩ := K.out w (HBR.out.trans (hSw.mono HBR.out.size))
          go_simp
          (try with_reducible rfl)
        rotate_left
        (try simp only [Act.put, List.setIfInBounds_toArray, List.set_cons_zero, List.set_cons_succ])
        refine AllS.take (i := 7) (v := .int .i64 Fd) (by rw [List.getElem?_toArray]; rfl) (by kernel_rfl) (by kernel_rfl) (by kernel_rfl) (KeepsIf.call 15 #[.agg #[.int .i64 Fa, .int .i64 Fd, .int .i64 Fg, .int .i64 Fx, .int .i64 Fo, .slice (some a) (m + 1) c], .int .i64 1024] (by kernel_rfl) (fun w => ?_) (fun w hSw => ?_)) ?_
        · go_simp
        · exact (G1.out w).mono (fun e w' h => ⟨h.1, below_seq hSw h.2⟩)
        (try simp only [Act.put, List.setIfInBounds_toArray, List.set_cons_zero, List.set_cons_succ])
        refine AllS.take (i := 8) (v := ?_) (by rw [List.getElem?_toArray]; rfl) (by kernel_rfl) (by kernel_rfl) (by kernel_rfl) (KeepsIf.read (by rfl) ?_) ?_
        rotate_left
        · intro w hSw
          go_simp
          (try with_reducible rfl)
        rotate_left
        (try simp only [Act.put, List.setIfInBounds_toArray, List.set_cons_zero, List.set_cons_succ])
        refine AllS.take (i := 9) (v := ?_) (by rw [List.getElem?_toArray]; rfl) (by kernel_rfl) (by kernel_rfl) (by kernel_rfl) (KeepsIf.read (by rfl) ?_) ?_
        rotate_left
        · intro w hSw
          obtain ⟨k0, k1, k2, k3, k4, k5⟩ := K.out w (HBR.out.trans (hSw.mono HBR.out.size))
          go_simp
          (try with_reducible rfl)
        rotate_left
        (try simp only [Act.put, List.setIfInBounds_toArray, List.set_cons_zero, List.set_cons_succ])
        refine AllS.take (i := 10) (v := ?_) (by rw [List.getElem?_toArray]; rfl) (by kernel_rfl) (by kernel_rfl) (by kernel_rfl) (KeepsIf.read (by rfl) ?_) ?_
        rotate_left
        · intro w hSw
          go_simp
          (try with_reducible rfl)
        rotate_left
        (try simp only [Act.put, List.setIfInBounds_toArray, List.set_cons_zero, List.set_cons_succ])
        refine AllS.take (i := 11) (v := ?_) (by rw [List.getElem?_toArray]; rfl) (by kernel_rfl) (by kernel_rfl) (by kernel_rfl) (KeepsIf.read (by rfl) ?_) ?_
        rotate_left
        · intro w hSw
          go_simp
          (try with_reducible rfl)
        rotate_left
        (try simp only [Act.put, List.setIfInBounds_toArray, List.set_cons_zero, List.set_cons_succ])
        refine AllS.take (i := 12) (v := ?_) (by rw [List.getElem?_toArray]; rfl) (by kernel_rfl) (by kernel_rfl) (by kernel_rfl) (KeepsIf.read (by rfl) ?_) ?_
        rotate_left
        · intro w hSw
          go_simp
          (try with_reducible rfl)
        rotate_left
        (try simp only [Act.put, List.setIfInBounds_toArray, List.set_cons_zero, List.set_cons_succ])
        refine AllS.take (i := 13) (v := ?_) (by rw [List.getElem?_toArray]; rfl) (by kernel_rfl) (by kernel_rfl) (by kernel_rfl) (KeepsIf.read (by rfl) ?_) ?_
        rotate_left
        · intro w hSw
          obtain ⟨k0, k1, k2, k3, k4, k5⟩ := K.out w (HBR.out.trans (hSw.mono HBR.out.size))
          go_simp
          (try with_reducible rfl)
        rotate_left
        (try simp only [Act.put, List.setIfInBounds_toArray, List.set_cons_zero, List.set_cons_succ])
        refine AllS.take (i := 14) (v := .int .i64 Fg) (by rw [List.getElem?_toArray]; rfl) (by kernel_rfl) (by kernel_rfl) (by kernel_rfl) (KeepsIf.call 16 #[.agg #[.int .i64 Fa, .int .i64 Fd, .int .i64 Fg, .int .i64 Fx, .int .i64 Fo, .slice (some a) (m + 1) c], .int .i64 1024] (by kernel_rfl) (fun w => ?_) (fun w hSw => ?_)) ?_
        · go_simp
        · exact (G2.out w).mono (fun e w' h => ⟨h.1, below_seq hSw h.2⟩)
        (try simp only [Act.put, List.setIfInBounds_toArray, List.set_cons_zero, List.set_cons_succ])
        refine AllS.take (i := 15) (v := ?_) (by rw [List.getElem?_toArray]; rfl) (by kernel_rfl) (by kernel_rfl) (by kernel_rfl) (KeepsIf.read (by rfl) ?_) ?_
        rotate_left
        · intro w hSw
          go_simp
          (try with_reducible rfl)
        rotate_left
        (try simp only [Act.put, List.setIfInBounds_toArray, List.set_cons_zero, List.set_cons_succ])
        refine AllS.take (i := 16) (v := ?_) (by rw [List.getElem?_toArray]; rfl) (by kernel_rfl) (by kernel_rfl) (by kernel_rfl) (KeepsIf.read (by rfl) ?_) ?_
        rotate_left
        · intro w hSw
          obtain ⟨k0, k1, k2, k3, k4, k5⟩ := K.out w (HBR.out.trans (hSw.mono HBR.out.size))
          go_simp
          (try with_reducible rfl)
        rotate_left
        (try simp only [Act.put, List.setIfInBounds_toArray, List.set_cons_zero, List.set_cons_succ])
        refine AllS.take (i := 17) (v := ?_) (by rw [List.getElem?_toArray]; rfl) (by kernel_rfl) (by kernel_rfl) (by kernel_rfl) (KeepsIf.read (by rfl) ?_) ?_
        rotate_left
        · intro w hSw
          go_simp
          (try with_reducible rfl)
        rotate_left
        (try simp only [Act.put, List.setIfInBounds_toArray, List.set_cons_zero, List.set_cons_succ])
        refine AllS.take (i := 18) (v := ?_) (by rw [List.getElem?_toArray]; rfl) (by kernel_rfl) (by kernel_rfl) (by kernel_rfl) (KeepsIf.read (by rfl) ?_) ?_
        rotate_left
        · intro w hSw
          go_simp
          (try with_reducible rfl)
        rotate_left
        (try simp only [Act.put, List.setIfInBounds_toArray, List.set_cons_zero, List.set_cons_succ])
        refine AllS.take (i := 19) (v := ?_) (by rw [List.getElem?_toArray]; rfl) (by kernel_rfl) (by kernel_rfl) (by kernel_rfl) (KeepsIf.read (by rfl) ?_) ?_
        rotate_left
        · intro w hSw
          go_simp
          (try with_reducible rfl)
        rotate_left
        (try simp only [Act.put, List.setIfInBounds_toArray, List.set_cons_zero, List.set_cons_succ])
        refine AllS.take (i := 20) (v := ?_) (by rw [List.getElem?_toArray]; rfl) (by kernel_rfl) (by kernel_rfl) (by kernel_rfl) (KeepsIf.read (by rfl) ?_) ?_
        rotate_left
        · intro w hSw
          obtain ⟨k0, k1, k2, k3, k4, k5⟩ := K.out w (HBR.out.trans (hSw.mono HBR.out.size))
          go_simp
          (try with_reducible rfl)
        rotate_left
        (try simp only [Act.put, List.setIfInBounds_toArray, List.set_cons_zero, List.set_cons_succ])
        refine AllS.take (i := 21) (v := .int .i64 Fx) (by rw [List.getElem?_toArray]; rfl) (by kernel_rfl) (by kernel_rfl) (by kernel_rfl) (KeepsIf.call 17 #[.agg #[.int .i64 Fa, .int .i64 Fd, .int .i64 Fg, .int .i64 Fx, .int .i64 Fo, .slice (some a) (m + 1) c], .int .i64 1024] (by kernel_rfl) (fun w => ?_) (fun w hSw => ?_)) ?_
        · go_simp
        · exact (G3.out w).mono (fun e w' h => ⟨h.1, below_seq hSw h.2⟩)
        (try simp only [Act.put, List.setIfInBounds_toArray, List.set_cons_zero, List.set_cons_succ])
        refine AllS.take (i := 22) (v := ?_) (by rw [List.getElem?_toArray]; rfl) (by kernel_rfl) (by kernel_rfl) (by kernel_rfl) (KeepsIf.read (by rfl) ?_) ?_
        rotate_left
        · intro w hSw
          go_simp
          (try with_reducible rfl)
        rotate_left
        (try simp only [Act.put, List.setIfInBounds_toArray, List.set_cons_zero, List.set_cons_succ])
        refine AllS.take (i := 23) (v := ?_) (by rw [List.getElem?_toArray]; rfl) (by kernel_rfl) (by kernel_rfl) (by kernel_rfl) (KeepsIf.read (by rfl) ?_) ?_
        rotate_left
        · intro w hSw
          obtain ⟨k0, k1, k2, k3, k4, k5⟩ := K.out w (HBR.out.trans (hSw.mono HBR.out.size))
          go_simp
          (try with_reducible rfl)
        rotate_left
        (try simp only [Act.put, List.setIfInBounds_toArray, List.set_cons_zero, List.set_cons_succ])
        refine AllS.take (i := 24) (v := ?_) (by rw [List.getElem?_toArray]; rfl) (by kernel_rfl) (by kernel_rfl) (by kernel_rfl) (KeepsIf.read (by rfl) ?_) ?_
        rotate_left
        · intro w hSw
          go_simp
          (try with_reducible rfl)
        rotate_left
        (try simp only [Act.put, List.setIfInBounds_toArray, List.set_cons_zero, List.set_cons_succ])
        refine AllS.take (i := 25) (v := ?_) (by rw [List.getElem?_toArray]; rfl) (by kernel_rfl) (by kernel_rfl) (by kernel_rfl) (KeepsIf.read (by rfl) ?_) ?_
        rotate_left
        · intro w hSw
          go_simp
          (try with_reducible rfl)
        rotate_left
        (try simp only [Act.put, List.setIfInBounds_toArray, List.set_cons_zero, List.set_cons_succ])
        refine AllS.take (i := 26) (v := ?_) (by rw [List.getElem?_toArray]; rfl) (by kernel_rfl) (by kernel_rfl) (by kernel_rfl) (KeepsIf.read (by rfl) ?_) ?_
        rotate_left
        · intro w hSw
          go_simp
          (try with_reducible rfl)
        rotate_left
        (try simp only [Act.put, List.setIfInBounds_toArray, List.set_cons_zero, List.set_cons_succ])
        refine AllS.take (i := 27) (v := ?_) (by rw [List.getElem?_toArray]; rfl) (by kernel_rfl) (by kernel_rfl) (by kernel_rfl) (KeepsIf.read (by rfl) ?_) ?_
        rotate_left
        · intro w hSw
          obtain ⟨k0, k1, k2, k3, k4, k5⟩ := K.out w (HBR.out.trans (hSw.mono HBR.out.size))
          go_simp
          (try with_reducible rfl)
        rotate_left
        (try simp only [Act.put, List.setIfInBounds_toArray, List.set_cons_zero, List.set_cons_succ])
        refine AllS.take (i := 28) (v := .int .i64 0) (by rw [List.getElem?_toArray]; rfl) (by kernel_rfl) (by kernel_rfl) (by kernel_rfl) (KeepsIf.call 13 #[.agg #[.int .i64 Fa, .int .i64 Fd, .int .i64 Fg, .int .i64 Fx, .int .i64 Fo, .slice (some a) (m + 1) c], .int .i64 0] (by kernel_rfl) (fun w => ?_) (fun w hSw => ?_)) ?_
        · go_simp
        · exact (Z1.out w).mono (fun e w' h => ⟨h.1, below_seq hSw h.2⟩)
        (try simp only [Act.put, List.setIfInBounds_toArray, List.set_cons_zero, List.set_cons_succ])
        refine AllS.take (i := 29) (v := ?_) (by rw [List.getElem?_toArray]; rfl) (by kernel_rfl) (by kernel_rfl) (by kernel_rfl) (KeepsIf.read (by rfl) ?_) ?_
        rotate_left
        · intro w hSw
          obtain ⟨k0, k1, k2, k3, k4, k5⟩ := K.out w (HBR.out.trans (hSw.mono HBR.out.size))
          go_simp
          (try with_reducible rfl)
        rotate_left
        (try simp only [Act.put, List.setIfInBounds_toArray, List.set_cons_zero, List.set_cons_succ])
        refine AllS.take (i := 30) (v := .int .i64 0) (by rw [List.getElem?_toArray]; rfl) (by kernel_rfl) (by kernel_rfl) (by kernel_rfl) (KeepsIf.call 15 #[.agg #[.int .i64 Fa, .int .i64 Fd, .int .i64 Fg, .int .i64 Fx, .int .i64 Fo, .slice (some a) (m + 1) c], .int .i64 0] (by kernel_rfl) (fun w => ?_) (fun w hSw => ?_)) ?_
        · go_simp
        · exact (Z2.out w).mono (fun e w' h => ⟨h.1, below_seq hSw h.2⟩)
        (try simp only [Act.put, List.setIfInBounds_toArray, List.set_cons_zero, List.set_cons_succ])
        refine AllS.take (i := 31) (v := ?_) (by rw [List.getElem?_toArray]; rfl) (by kernel_rfl) (by kernel_rfl) (by kernel_rfl) (KeepsIf.read (by rfl) ?_) ?_
        rotate_left
        · intro w hSw
          go_simp
          (try with_reducible rfl)
        rotate_left
        (try simp only [Act.put, List.setIfInBounds_toArray, List.set_cons_zero, List.set_cons_succ])
        refine AllS.take (i := 32) (v := ?_) (by rw [List.getElem?_toArray]; rfl) (by kernel_rfl) (by kernel_rfl) (by kernel_rfl) (KeepsIf.read (by rfl) ?_) ?_
        rotate_left
        · intro w hSw
          obtain ⟨k0, k1, k2, k3, k4, k5⟩ := K.out w (HBR.out.trans (hSw.mono HBR.out.size))
          go_simp
          (try with_reducible rfl)
        rotate_left
        (try simp only [Act.put, List.setIfInBounds_toArray, List.set_cons_zero, List.set_cons_succ])
        refine AllS.take (i := 33) (v := ?_) (by rw [List.getElem?_toArray]; rfl) (by kernel_rfl) (by kernel_rfl) (by kernel_rfl) (KeepsIf.read (by rfl) ?_) ?_
        rotate_left
        · intro w hSw
          go_simp
          (try with_reducible rfl)
        rotate_left
        (try simp only [Act.put, List.setIfInBounds_toArray, List.set_cons_zero, List.set_cons_succ])
        refine AllS.take (i := 34) (v := .int .i64 0) (by rw [List.getElem?_toArray]; rfl) (by kernel_rfl) (by kernel_rfl) (by kernel_rfl) (KeepsIf.call 11 #[.agg #[.int .i64 Fa, .int .i64 Fd, .int .i64 Fg, .int .i64 Fx, .int .i64 Fo, .slice (some a) (m + 1) c], .int .i64 0, .int .i32 r] (by kernel_rfl) (fun w => ?_) (fun w hSw => ?_)) ?_
        · go_simp
        · exact (CZ.out r w (HBel.out.trans ((HBR.out.trans (hSw.mono HBR.out.size)).mono HBel.out.size))).mono (fun e w' h => ⟨h.1, below_seq hSw h.2⟩)
        (try simp only [Act.put, List.setIfInBounds_toArray, List.set_cons_zero, List.set_cons_succ])
        refine AllS.take (i := 35) (v := ?_) (by rw [List.getElem?_toArray]; rfl) (by kernel_rfl) (by kernel_rfl) (by kernel_rfl) (KeepsIf.read (by rfl) ?_) ?_
        rotate_left
        · intro w hSw
          go_simp
          (try with_reducible rfl)
        rotate_left
        (try simp only [Act.put, List.setIfInBounds_toArray, List.set_cons_zero, List.set_cons_succ])
        refine AllS.take (i := 36) (v := ?_) (by rw [List.getElem?_toArray]; rfl) (by kernel_rfl) (by kernel_rfl) (by kernel_rfl) (KeepsIf.read (by rfl) ?_) ?_
        rotate_left
        · intro w hSw
          go_simp
          (try with_reducible rfl)
        rotate_left
        (try simp only [Act.put, List.setIfInBounds_toArray, List.set_cons_zero, List.set_cons_succ])
        refine AllS.take (i := 37) (v := ?_) (by rw [List.getElem?_toArray]; rfl) (by kernel_rfl) (by kernel_rfl) (by kernel_rfl) (KeepsIf.read (by rfl) ?_) ?_
        rotate_left
        · intro w hSw
          go_simp
          (try with_reducible rfl)
        rotate_left
        (try simp only [Act.put, List.setIfInBounds_toArray, List.set_cons_zero, List.set_cons_succ])
        refine AllS.take (i := 38) (v := ?_) (by rw [List.getElem?_toArray]; rfl) (by kernel_rfl) (by kernel_rfl) (by kernel_rfl) (KeepsIf.read (by rfl) ?_) ?_
        rotate_left
        · intro w hSw
          go_simp
          (try with_reducible rfl)
        rotate_left
        (try simp only [Act.put, List.setIfInBounds_toArray, List.set_cons_zero, List.set_cons_succ])
        refine AllS.take (i := 39) (v := .bool true) (by rw [List.getElem?_toArray]; rfl) (by kernel_rfl) (by kernel_rfl) (by kernel_rfl) (KeepsIf.call 8 #[] (by kernel_rfl) (fun w => ?_) (fun w hSw => ?_)) ?_
        · go_simp
        · exact (HH.out w).mono (fun e w' h => ⟨h.1, below_seq hSw h.2⟩)
        (try simp only [Act.put, List.setIfInBounds_toArray, List.set_cons_zero, List.set_cons_succ])
        refine AllS.take (i := 40) (v := ?_) (by rw [List.getElem?_toArray]; rfl) (by kernel_rfl) (by kernel_rfl) (by kernel_rfl) (KeepsIf.read (by rfl) ?_) ?_
        rotate_left
        · intro w hSw
          go_simp
          (try with_reducible rfl)
        rotate_left
        (try simp only [Act.put, List.setIfInBounds_toArray, List.set_cons_zero, List.set_cons_succ])
        refine AllS.take (i := 41) (v := ?_) (by rw [List.getElem?_toArray]; rfl) (by kernel_rfl) (by kernel_rfl) (by kernel_rfl) (KeepsIf.read (by rfl) ?_) ?_
        rotate_left
        · intro w hSw
          go_simp
          (try with_reducible rfl)
        rotate_left
        (try simp only [Act.put, List.setIfInBounds_toArray, List.set_cons_zero, List.set_cons_succ])
        refine AllS.done (by kernel_rfl) (hR.out _ ?_) _
        clear hR R
        intro w5 hb5
        go_wp2_with fail
        go_ret
        exact ⟨rfl, HBel.out.trans ((HBR.out.trans (hb5.mono HBR.out.size)).mono HBel.out.size)⟩
end Go.Proofs.Ytlbncmgecfnnbaa
