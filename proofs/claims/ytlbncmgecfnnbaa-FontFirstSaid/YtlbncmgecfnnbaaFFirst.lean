/- The walk of FontFirst: it returns true. Conditions: the numbers fit their kinds, the ranges lie in memory. -/
import Derived.Test.YtlbncmgecfnnbaaFGrows
namespace Go.Proofs.Ytlbncmgecfnnbaa
open Go.ChangeShapes Go.WideShapes Go.ChangeAt Go.RowKit

theorem any_step {l : List Rg} {k : Nat} {x : Rg} (r : Int) (h : l[k]? = some x) : (l.take (k + 1)).any (inB r) = ((l.take k).any (inB r) || inB r x) := by
  rw [List.take_add_one, h]
  simp

set_option maxRecDepth 100000 in
set_option maxHeartbeats 8000000 in
theorem ffirst_any (F : Fnt) (r : Int) (w : World) (hF : F.In w) (hw : F.Wf) :
    Calls Try.prog 6 #[F.val, .int .i32 r] w fun e w' => e = .returned (.bool true) ∧ Below w.heap.size w w' := by
  have CA : Hid (∀ (z : Int) W, Below w.heap.size w W → Calls Try.prog 11 #[F.val, .int .i64 1024, .int .i32 z] W fun e w' => e = .returned (.int .i64 (atI (fnd F.o z F.rs) 1024)) ∧ Below W.heap.size W w') := fun z W hW => fadv_any F 1024 z W (hF.below hW) hw (by simp [W64])
  have C1 : Hid (∀ W, Below w.heap.size w W → Calls Try.prog 9 #[F.val] W fun e w' => e = .returned (.int .i64 F.chk) ∧ Below W.heap.size W w') := fun W hW => fcheck_any F W (hF.below hW) hw
  have HH : Hid (∀ W : World, Calls Try.prog 8 #[] W fun e w' => e = .returned (.bool true) ∧ Below W.heap.size W w') := fhead_any
  have HBA : Hid (Below w.heap.size w (w.alloc (.cells F.cells 24))) := below_alloc _ _
  have HBX : Hid (Blk (w.alloc (.cells F.cells 24)) w.heap.size 24 F.cells) := Blk.new _ _ _
  have HCK := Lib.hid (chk_of F)
  have HON := Lib.hid (fun h => ok_nums (F := F) h)
  have HI := Lib.hid hF
  have hlen := hw.len
  obtain ⟨A, c, hA⟩ := hF.form
  obtain ⟨n, hn⟩ : ∃ n, F.rs.length = n := ⟨_, rfl⟩
  have HL := Lib.hid hn
  rw [hn] at hA hlen
  clear hF hw hn
  obtain ⟨Fa, Fd, Fg, Fx, Fo, Fv, Frs⟩ := F
  simp only [Fnt.val, Fnt.cells] at *
  subst hA
  go_enter Try.func6, Try.ntmps6
  by_cases h3 : n ≤ 300
  · have h3z : (n : Int) ≤ 300 := by omega
    clear hlen
    go_wp2_with fail
    refine (C1.out _ HBA.out).mono ?_
    rintro e w1 ⟨rfl, b1⟩
    have bel : Below w.heap.size w w1 := below_seq HBA.out b1
    have HX : Hid (Blk w1 w.heap.size 24 #[.int .i64 Fa, .int .i64 Fd, .int .i64 Fg, .int .i64 Fx, .int .i64 Fo, .slice A n c]) := HBX.out.keep (S := fun _ => False) (Mod.of_below b1) id
    clear b1 HBA HBX C1
    rcases HCK.out with ⟨hok, hz⟩ | ⟨_, hz⟩
    case inr =>
      rw [hz]
      go_wp2_with fail
      refine (HH.out _).mono ?_
      rintro e w3 ⟨rfl, b3⟩
      go_wp2_with fail
      go_ret
      exact ⟨rfl, bel.trans (b3.mono bel.size)⟩
    case inl =>
      rw [hz]
      obtain ⟨_, _, _, _, n5, n6, n7⟩ := HON.out hok
      have HV := Lib.hid n7
      have HO : Hid (atI Fo 1024 = Fo) := atI_whole _ n5
      clear n5 n6 n7 hok hz HON HCK
      have HX0 := HX.out
      have c5 : w1.cell? ⟨w.heap.size, 5, none⟩ = some (.slice A n c) := HX0.cell 5
      clear HX0
      go_wp2_with fail
      go_loopg [5, 6] n (fun kx s5 s6 wr => ∃ (k : Nat) (bb : Bool), s5 = .bool bb ∧ s6 = .int .i64 k ∧ k ≤ n ∧ kx = n - k ∧ Below w.heap.size w wr ∧ Blk wr w.heap.size 24 #[.int .i64 Fa, .int .i64 Fd, .int .i64 Fg, .int .i64 Fx, .int .i64 Fo, .slice A n c] ∧ Hid (bb = (Frs.take k).any (inB r)))
      case atStart => exact ⟨0, false, rfl, rfl, Nat.zero_le _, by omega, bel, HX.out, by simp [Hid]⟩
      case round =>
        clear c5 bel HX
        obtain ⟨k, bb, rfl, rfl, hk, rfl, bel, hB, I⟩ := hrel
        have c5 : wr.cell? ⟨w.heap.size, 5, none⟩ = some (.slice A n c) := hB.cell 5
        have HB := Lib.hid hB
        have HBel := Lib.hid bel
        clear hB
        by_cases hlt : k < n
        · have hkl : k < Frs.length := by rw [HL.out]; exact hlt
          obtain ⟨x, hx⟩ : ∃ x, Frs[k]? = some x := ⟨_, List.getElem?_eq_getElem hkl⟩
          obtain ⟨a, cap, o, hv, ha, d0, d1, d2⟩ := HI.out.get bel hx
          injection hv with hv1 hv2 hv3
          subst hv1 hv3
          have hmem := List.mem_of_getElem? hx
          obtain ⟨v1, v2, v3, v4, v5⟩ := vr_above Frs (-1) HV.out x hmem
          have HS := Lib.hid (any_step r hx)
          have CX : Hid (∀ z, x.f ≤ z → z ≤ x.t → ∀ W, Below w.heap.size w W → Calls Try.prog 11 #[.agg #[.int .i64 Fa, .int .i64 Fd, .int .i64 Fg, .int .i64 Fx, .int .i64 Fo, .slice (some a) n c], .int .i64 1024, .int .i32 z] W fun e w' => e = .returned (.int .i64 x.a) ∧ Below W.heap.size W w') := fun z z1 z2 W hW => by
            have h := CA.out z W hW
            rw [fnd_in Fo z Frs (-1) HV.out x hmem z1 z2, atI_whole _ ⟨v4, v5⟩] at h
            exact h
          have hkz : (k : Int) < n := by omega
          obtain ⟨xf, xt, xa⟩ := x
          simp only at d0 d1 d2 v1 v2 v3 v4 v5 CX HS
          obtain ⟨m, hm⟩ : ∃ m : Nat, (xt - xf) / 2 = (m : Int) := ⟨((xt - xf) / 2).toNat, by omega⟩
          obtain ⟨d, hd⟩ : ∃ d : Nat, xt - xf = (d : Int) := ⟨(xt - xf).toNat, by omega⟩
          have e1 : IntKind.i32.wrap (xt - xf) = (d : Int) := by rw [hd]; exact IntWalk.i32_in _ (by omega)
          have e2 : (d : Int).tdiv 2 = (m : Int) := by rw [Int.tdiv_eq_ediv_of_nonneg (by omega)]; omega
          have e2b : (d : Int) / 2 = (m : Int) := by omega
          have e2c : IntKind.i32.wrap (m : Int) = (m : Int) := IntWalk.i32_in _ (by omega)
          have e3 : IntKind.i32.wrap (xf + (m : Int)) = xf + (m : Int) := IntWalk.i32_in _ (by omega)
          have P1 := Lib.hid (CX.out xf (by omega) (by omega))
          have P2 := Lib.hid (CX.out xt (by omega) (by omega))
          have P3 := Lib.hid (CX.out (xf + m) (by omega) (by omega))
          have HW1 : Hid (Below wr.heap.size wr (wr.alloc (.cells #[.int .i32 xf, .int .i32 xt, .int .i64 xa] 38))) := below_alloc _ _
          have HW2 : Hid (Below w.heap.size w (wr.alloc (.cells #[.int .i32 xf, .int .i32 xt, .int .i64 xa] 38))) := HBel.out.trans (HW1.out.mono HBel.out.size)
          have K : Hid (∀ W, Below (wr.alloc (.cells #[.int .i32 xf, .int .i32 xt, .int .i64 xa] 38)).heap.size (wr.alloc (.cells #[.int .i32 xf, .int .i32 xt, .int .i64 xa] 38)) W → W.cell? ⟨w.heap.size, 0, none⟩ = some (.int .i64 Fa) ∧ W.cell? ⟨w.heap.size, 1, none⟩ = some (.int .i64 Fd) ∧ W.cell? ⟨w.heap.size, 2, none⟩ = some (.int .i64 Fg) ∧ W.cell? ⟨w.heap.size, 3, none⟩ = some (.int .i64 Fx) ∧ W.cell? ⟨w.heap.size, 4, none⟩ = some (.int .i64 Fo) ∧ W.cell? ⟨w.heap.size, 5, none⟩ = some (.slice (some a) n c) ∧ W.cell? ⟨wr.heap.size, 0, none⟩ = some (.int .i32 xf) ∧ W.cell? ⟨wr.heap.size, 1, none⟩ = some (.int .i32 xt) ∧ W.cell? ⟨wr.heap.size, 2, none⟩ = some (.int .i64 xa)) := fun W hW => by
            have h := (HB.out.alloc (.cells #[.int .i32 xf, .int .i32 xt, .int .i64 xa] 38)).keep (S := fun _ => False) (Mod.of_below hW) id
            have g := (Blk.new wr 38 #[.int .i32 xf, .int .i32 xt, .int .i64 xa]).keep (S := fun _ => False) (Mod.of_below hW) id
            exact ⟨h.cell 0, h.cell 1, h.cell 2, h.cell 3, h.cell 4, h.cell 5, g.cell 0, g.cell 1, g.cell 2⟩
          clear hx hkl hv2 hmem CX hm hd CA v1 v2 v3 v4 v5
          go_wp2_with fail
          refine region_go (by kernel_rfl) (fun R hR => ?_)
          refine AllS.take (i := 0) (v := ?_) (by rw [List.getElem?_toArray]; rfl) (by kernel_rfl) (by kernel_rfl) (by kernel_rfl) (KeepsIf.read (by rfl) ?_) ?_
          rotate_left
          · intro w hSw
            obtain ⟨k0, k1, k2, k3, k4, k5, k6, k7, k8⟩ := K.out w hSw
            go_simp
            (try with_reducible rfl)
          rotate_left
          (try simp only [Act.put, List.setIfInBounds_toArray, List.set_cons_zero, List.set_cons_succ])
          refine AllS.take (i := 1) (v := ?_) (by rw [List.getElem?_toArray]; rfl) (by kernel_rfl) (by kernel_rfl) (by kernel_rfl) (KeepsIf.read (by rfl) ?_) ?_
          rotate_left
          · intro w hSw
            go_simp
            (try with_reducible rfl)
          rotate_left
          (try simp only [Act.put, List.setIfInBounds_toArray, List.set_cons_zero, List.set_cons_succ])
          refine AllS.take (i := 2) (v := ?_) (by rw [List.getElem?_toArray]; rfl) (by kernel_rfl) (by kernel_rfl) (by kernel_rfl) (KeepsIf.read (by rfl) ?_) ?_
          rotate_left
          · intro w hSw
            obtain ⟨k0, k1, k2, k3, k4, k5, k6, k7, k8⟩ := K.out w hSw
            go_simp
            (try with_reducible rfl)
          rotate_left
          (try simp only [Act.put, List.setIfInBounds_toArray, List.set_cons_zero, List.set_cons_succ])
          refine AllS.take (i := 3) (v := .int .i64 xa) (by rw [List.getElem?_toArray]; rfl) (by kernel_rfl) (by kernel_rfl) (by kernel_rfl) (KeepsIf.call 11 #[.agg #[.int .i64 Fa, .int .i64 Fd, .int .i64 Fg, .int .i64 Fx, .int .i64 Fo, .slice (some a) n c], .int .i64 1024, .int .i32 xf] (by kernel_rfl) (fun w => ?_) (fun w hSw => ?_)) ?_
          · go_simp
          · exact (P1.out w (HW2.out.trans (hSw.mono HW2.out.size))).mono (fun e w' h => ⟨h.1, below_seq hSw h.2⟩)
          (try simp only [Act.put, List.setIfInBounds_toArray, List.set_cons_zero, List.set_cons_succ])
          refine AllS.take (i := 4) (v := ?_) (by rw [List.getElem?_toArray]; rfl) (by kernel_rfl) (by kernel_rfl) (by kernel_rfl) (KeepsIf.read (by rfl) ?_) ?_
          rotate_left
          · intro w hSw
            go_simp
            (try with_reducible rfl)
          rotate_left
          (try simp only [Act.put, List.setIfInBounds_toArray, List.set_cons_zero, List.set_cons_succ])
          refine AllS.take (i := 5) (v := ?_) (by rw [List.getElem?_toArray]; rfl) (by kernel_rfl) (by kernel_rfl) (by kernel_rfl) (KeepsIf.read (by rfl) ?_) ?_
          rotate_left
          · intro w hSw
            obtain ⟨k0, k1, k2, k3, k4, k5, k6, k7, k8⟩ := K.out w hSw
            go_simp
            (try with_reducible rfl)
          rotate_left
          (try simp only [Act.put, List.setIfInBounds_toArray, List.set_cons_zero, List.set_cons_succ])
          refine AllS.take (i := 6) (v := ?_) (by rw [List.getElem?_toArray]; rfl) (by kernel_rfl) (by kernel_rfl) (by kernel_rfl) (KeepsIf.read (by rfl) ?_) ?_
          rotate_left
          · intro w hSw
            go_simp
            (try with_reducible rfl)
          rotate_left
          (try simp only [Act.put, List.setIfInBounds_toArray, List.set_cons_zero, List.set_cons_succ])
          refine AllS.take (i := 7) (v := ?_) (by rw [List.getElem?_toArray]; rfl) (by kernel_rfl) (by kernel_rfl) (by kernel_rfl) (KeepsIf.read (by rfl) ?_) ?_
          rotate_left
          · intro w hSw
            go_simp
            (try with_reducible rfl)
          rotate_left
          (try simp only [Act.put, List.setIfInBounds_toArray, List.set_cons_zero, List.set_cons_succ])
          refine AllS.take (i := 8) (v := ?_) (by rw [List.getElem?_toArray]; rfl) (by kernel_rfl) (by kernel_rfl) (by kernel_rfl) (KeepsIf.read (by rfl) ?_) ?_
          rotate_left
          · intro w hSw
            obtain ⟨k0, k1, k2, k3, k4, k5, k6, k7, k8⟩ := K.out w hSw
            go_simp
            (try with_reducible rfl)
          rotate_left
          (try simp only [Act.put, List.setIfInBounds_toArray, List.set_cons_zero, List.set_cons_succ])
          refine AllS.take (i := 9) (v := ?_) (by rw [List.getElem?_toArray]; rfl) (by kernel_rfl) (by kernel_rfl) (by kernel_rfl) (KeepsIf.read (by rfl) ?_) ?_
          rotate_left
          · intro w hSw
            go_simp
            (try with_reducible rfl)
          rotate_left
          (try simp only [Act.put, List.setIfInBounds_toArray, List.set_cons_zero, List.set_cons_succ])
          refine AllS.take (i := 10) (v := ?_) (by rw [List.getElem?_toArray]; rfl) (by kernel_rfl) (by kernel_rfl) (by kernel_rfl) (KeepsIf.read (by rfl) ?_) ?_
          rotate_left
          · intro w hSw
            obtain ⟨k0, k1, k2, k3, k4, k5, k6, k7, k8⟩ := K.out w hSw
            go_simp
            (try with_reducible rfl)
          rotate_left
          (try simp only [Act.put, List.setIfInBounds_toArray, List.set_cons_zero, List.set_cons_succ])
          refine AllS.take (i := 11) (v := .int .i64 xa) (by rw [List.getElem?_toArray]; rfl) (by kernel_rfl) (by kernel_rfl) (by kernel_rfl) (KeepsIf.call 11 #[.agg #[.int .i64 Fa, .int .i64 Fd, .int .i64 Fg, .int .i64 Fx, .int .i64 Fo, .slice (some a) n c], .int .i64 1024, .int .i32 xt] (by kernel_rfl) (fun w => ?_) (fun w hSw => ?_)) ?_
          · go_simp
          · exact (P2.out w (HW2.out.trans (hSw.mono HW2.out.size))).mono (fun e w' h => ⟨h.1, below_seq hSw h.2⟩)
          (try simp only [Act.put, List.setIfInBounds_toArray, List.set_cons_zero, List.set_cons_succ])
          refine AllS.take (i := 12) (v := ?_) (by rw [List.getElem?_toArray]; rfl) (by kernel_rfl) (by kernel_rfl) (by kernel_rfl) (KeepsIf.read (by rfl) ?_) ?_
          rotate_left
          · intro w hSw
            go_simp
            (try with_reducible rfl)
          rotate_left
          (try simp only [Act.put, List.setIfInBounds_toArray, List.set_cons_zero, List.set_cons_succ])
          refine AllS.take (i := 13) (v := ?_) (by rw [List.getElem?_toArray]; rfl) (by kernel_rfl) (by kernel_rfl) (by kernel_rfl) (KeepsIf.read (by rfl) ?_) ?_
          rotate_left
          · intro w hSw
            obtain ⟨k0, k1, k2, k3, k4, k5, k6, k7, k8⟩ := K.out w hSw
            go_simp
            (try with_reducible rfl)
          rotate_left
          (try simp only [Act.put, List.setIfInBounds_toArray, List.set_cons_zero, List.set_cons_succ])
          refine AllS.take (i := 14) (v := ?_) (by rw [List.getElem?_toArray]; rfl) (by kernel_rfl) (by kernel_rfl) (by kernel_rfl) (KeepsIf.read (by rfl) ?_) ?_
          rotate_left
          · intro w hSw
            go_simp
            (try with_reducible rfl)
          rotate_left
          (try simp only [Act.put, List.setIfInBounds_toArray, List.set_cons_zero, List.set_cons_succ])
          refine AllS.take (i := 15) (v := ?_) (by rw [List.getElem?_toArray]; rfl) (by kernel_rfl) (by kernel_rfl) (by kernel_rfl) (KeepsIf.read (by rfl) ?_) ?_
          rotate_left
          · intro w hSw
            go_simp
            (try with_reducible rfl)
          rotate_left
          (try simp only [Act.put, List.setIfInBounds_toArray, List.set_cons_zero, List.set_cons_succ])
          refine AllS.take (i := 16) (v := ?_) (by rw [List.getElem?_toArray]; rfl) (by kernel_rfl) (by kernel_rfl) (by kernel_rfl) (KeepsIf.read (by rfl) ?_) ?_
          rotate_left
          · intro w hSw
            go_simp
            (try with_reducible rfl)
          rotate_left
          (try simp only [Act.put, List.setIfInBounds_toArray, List.set_cons_zero, List.set_cons_succ])
          refine AllS.take (i := 17) (v := ?_) (by rw [List.getElem?_toArray]; rfl) (by kernel_rfl) (by kernel_rfl) (by kernel_rfl) (KeepsIf.read (by rfl) ?_) ?_
          rotate_left
          · intro w hSw
            obtain ⟨k0, k1, k2, k3, k4, k5, k6, k7, k8⟩ := K.out w hSw
            go_simp
            (try with_reducible rfl)
          rotate_left
          (try simp only [Act.put, List.setIfInBounds_toArray, List.set_cons_zero, List.set_cons_succ])
          refine AllS.take (i := 18) (v := ?_) (by rw [List.getElem?_toArray]; rfl) (by kernel_rfl) (by kernel_rfl) (by kernel_rfl) (KeepsIf.read (by rfl) ?_) ?_
          rotate_left
          · intro w hSw
            go_simp
            (try with_reducible rfl)
          rotate_left
          (try simp only [Act.put, List.setIfInBounds_toArray, List.set_cons_zero, List.set_cons_succ])
          refine AllS.take (i := 19) (v := ?_) (by rw [List.getElem?_toArray]; rfl) (by kernel_rfl) (by kernel_rfl) (by kernel_rfl) (KeepsIf.read (by rfl) ?_) ?_
          rotate_left
          · intro w hSw
            obtain ⟨k0, k1, k2, k3, k4, k5, k6, k7, k8⟩ := K.out w hSw
            go_simp
            (try with_reducible rfl)
          rotate_left
          (try simp only [Act.put, List.setIfInBounds_toArray, List.set_cons_zero, List.set_cons_succ])
          refine AllS.take (i := 20) (v := ?_) (by rw [List.getElem?_toArray]; rfl) (by kernel_rfl) (by kernel_rfl) (by kernel_rfl) (KeepsIf.read (by rfl) ?_) ?_
          rotate_left
          · intro w hSw
            go_simp
            (try with_reducible rfl)
          rotate_left
          (try simp only [Act.put, List.setIfInBounds_toArray, List.set_cons_zero, List.set_cons_succ])
          refine AllS.take (i := 21) (v := ?_) (by rw [List.getElem?_toArray]; rfl) (by kernel_rfl) (by kernel_rfl) (by kernel_rfl) (KeepsIf.read (by rfl) ?_) ?_
          rotate_left
          · intro w hSw
            obtain ⟨k0, k1, k2, k3, k4, k5, k6, k7, k8⟩ := K.out w hSw
            go_simp
            (try with_reducible rfl)
          rotate_left
          (try simp only [Act.put, List.setIfInBounds_toArray, List.set_cons_zero, List.set_cons_succ])
          refine AllS.take (i := 22) (v := ?_) (by rw [List.getElem?_toArray]; rfl) (by kernel_rfl) (by kernel_rfl) (by kernel_rfl) (KeepsIf.read (by rfl) ?_) ?_
          rotate_left
          · intro w hSw
            go_simp
            (try with_reducible rfl)
          rotate_left
          (try simp only [Act.put, List.setIfInBounds_toArray, List.set_cons_zero, List.set_cons_succ])
          refine AllS.take (i := 23) (v := ?_) (by rw [List.getElem?_toArray]; rfl) (by kernel_rfl) (by kernel_rfl) (by kernel_rfl) (KeepsIf.read (by rfl) ?_) ?_
          rotate_left
          · intro w hSw
            obtain ⟨k0, k1, k2, k3, k4, k5, k6, k7, k8⟩ := K.out w hSw
            go_simp
            (try with_reducible rfl)
          rotate_left
          (try simp only [Act.put, List.setIfInBounds_toArray, List.set_cons_zero, List.set_cons_succ])
          refine AllS.take (i := 24) (v := ?_) (by rw [List.getElem?_toArray]; rfl) (by kernel_rfl) (by kernel_rfl) (by kernel_rfl) (KeepsIf.read (by rfl) ?_) ?_
          rotate_left
          · intro w hSw
            go_simp
            (try with_reducible rfl)
          rotate_left
          (try simp only [Act.put, List.setIfInBounds_toArray, List.set_cons_zero, List.set_cons_succ])
          refine AllS.take (i := 25) (v := ?_) (by rw [List.getElem?_toArray]; rfl) (by kernel_rfl) (by kernel_rfl) (by kernel_rfl) (KeepsIf.read (by rfl) ?_) ?_
          rotate_left
          · intro w hSw
            go_simp
            (try with_reducible rfl)
          rotate_left
          (try simp only [Act.put, List.setIfInBounds_toArray, List.set_cons_zero, List.set_cons_succ])
          refine AllS.take (i := 26) (v := ?_) (by rw [List.getElem?_toArray]; rfl) (by kernel_rfl) (by kernel_rfl) (by kernel_rfl) (KeepsIf.read (by rfl) ?_) ?_
          rotate_left
          · intro w hSw
            go_simp
            (try with_reducible rfl)
          rotate_left
          (try simp only [Act.put, List.setIfInBounds_toArray, List.set_cons_zero, List.set_cons_succ])
          refine AllS.take (i := 27) (v := .int .i64 xa) (by rw [List.getElem?_toArray]; rfl) (by kernel_rfl) (by kernel_rfl) (by kernel_rfl) (KeepsIf.call 11 #[.agg #[.int .i64 Fa, .int .i64 Fd, .int .i64 Fg, .int .i64 Fx, .int .i64 Fo, .slice (some a) n c], .int .i64 1024, .int .i32 (xf + m)] (by kernel_rfl) (fun w => ?_) (fun w hSw => ?_)) ?_
          · go_simp
          · exact (P3.out w (HW2.out.trans (hSw.mono HW2.out.size))).mono (fun e w' h => ⟨h.1, below_seq hSw h.2⟩)
          (try simp only [Act.put, List.setIfInBounds_toArray, List.set_cons_zero, List.set_cons_succ])
          refine AllS.take (i := 28) (v := ?_) (by rw [List.getElem?_toArray]; rfl) (by kernel_rfl) (by kernel_rfl) (by kernel_rfl) (KeepsIf.read (by rfl) ?_) ?_
          rotate_left
          · intro w hSw
            go_simp
            (try with_reducible rfl)
          rotate_left
          (try simp only [Act.put, List.setIfInBounds_toArray, List.set_cons_zero, List.set_cons_succ])
          refine AllS.take (i := 29) (v := ?_) (by rw [List.getElem?_toArray]; rfl) (by kernel_rfl) (by kernel_rfl) (by kernel_rfl) (KeepsIf.read (by rfl) ?_) ?_
          rotate_left
          · intro w hSw
            obtain ⟨k0, k1, k2, k3, k4, k5, k6, k7, k8⟩ := K.out w hSw
            go_simp
            (try with_reducible rfl)
          rotate_left
          (try simp only [Act.put, List.setIfInBounds_toArray, List.set_cons_zero, List.set_cons_succ])
          refine AllS.take (i := 30) (v := ?_) (by rw [List.getElem?_toArray]; rfl) (by kernel_rfl) (by kernel_rfl) (by kernel_rfl) (KeepsIf.read (by rfl) ?_) ?_
          rotate_left
          · intro w hSw
            go_simp
            (try with_reducible rfl)
          rotate_left
          (try simp only [Act.put, List.setIfInBounds_toArray, List.set_cons_zero, List.set_cons_succ])
          refine AllS.take (i := 31) (v := ?_) (by rw [List.getElem?_toArray]; rfl) (by kernel_rfl) (by kernel_rfl) (by kernel_rfl) (KeepsIf.read (by rfl) ?_) ?_
          rotate_left
          · intro w hSw
            go_simp
            (try with_reducible rfl)
          rotate_left
          (try simp only [Act.put, List.setIfInBounds_toArray, List.set_cons_zero, List.set_cons_succ])
          refine AllS.done (by kernel_rfl) (hR.out _ ?_) _
          clear hR R
          intro w3 hb3
          obtain ⟨_, _, _, _, _, _, g0, g1, _⟩ := K.out w3 hb3
          have bel3 : Below w.heap.size w w3 := HW2.out.trans (hb3.mono HW2.out.size)
          have HB3 : Hid (Blk w3 w.heap.size 24 #[.int .i64 Fa, .int .i64 Fd, .int .i64 Fg, .int .i64 Fx, .int .i64 Fo, .slice (some a) n c]) := (HB.out.alloc (.cells #[.int .i32 xf, .int .i32 xt, .int .i64 xa] 38)).keep (S := fun _ => False) (Mod.of_below hb3) id
          clear hb3 bel d0 d1 d2 c5 e1 e2 e2b e2c e3
          cases bb with
          | true =>
            go_wp2_with fail
            go_roundg (n - (k + 1))
            case measure => omega
            case rel => exact ⟨k + 1, true, rfl, by go_num, by omega, rfl, bel3, HB3.out, by show _ = _; rw [HS.out, ← I.out]; rfl⟩
          | false =>
            by_cases q1 : xf ≤ r
            · by_cases q2 : r ≤ xt
              · go_wp2_with fail
                go_roundg (n - (k + 1))
                case measure => omega
                case rel => exact ⟨k + 1, true, rfl, by go_num, by omega, rfl, bel3, HB3.out, by show _ = _; rw [HS.out, ← I.out, show inB r ⟨xf, xt, xa⟩ = true from decide_eq_true ⟨q1, q2⟩]; rfl⟩
              · go_wp2_with fail
                go_roundg (n - (k + 1))
                case measure => omega
                case rel => exact ⟨k + 1, false, rfl, by go_num, by omega, rfl, bel3, HB3.out, by show _ = _; rw [HS.out, ← I.out, show inB r ⟨xf, xt, xa⟩ = false from decide_eq_false (by show ¬ (xf ≤ r ∧ r ≤ xt); omega)]; rfl⟩
            · go_wp2_with fail
              go_roundg (n - (k + 1))
              case measure => omega
              case rel => exact ⟨k + 1, false, rfl, by go_num, by omega, rfl, bel3, HB3.out, by show _ = _; rw [HS.out, ← I.out, show inB r ⟨xf, xt, xa⟩ = false from decide_eq_false (by show ¬ (xf ≤ r ∧ r ≤ xt); omega)]; rfl⟩
        · obtain rfl : k = n := by omega
          have HALL : Hid (bb = Frs.any (inB r)) := by
            have := I.out
            rw [← HL.out, List.take_length] at this
            exact this
          have K : Hid (∀ W, Below wr.heap.size wr W → W.cell? ⟨w.heap.size, 0, none⟩ = some (.int .i64 Fa) ∧ W.cell? ⟨w.heap.size, 1, none⟩ = some (.int .i64 Fd) ∧ W.cell? ⟨w.heap.size, 2, none⟩ = some (.int .i64 Fg) ∧ W.cell? ⟨w.heap.size, 3, none⟩ = some (.int .i64 Fx) ∧ W.cell? ⟨w.heap.size, 4, none⟩ = some (.int .i64 Fo) ∧ W.cell? ⟨w.heap.size, 5, none⟩ = some (.slice A k c)) := fun W hW => by
            have h := HB.out.keep (S := fun _ => False) (Mod.of_below hW) id
            exact ⟨h.cell 0, h.cell 1, h.cell 2, h.cell 3, h.cell 4, h.cell 5⟩
          cases bb with
          | true =>
            go_wp2_with fail
            refine region_go (by kernel_rfl) (fun R hR => ?_)
            refine AllS.take (i := 0) (v := ?_) (by rw [List.getElem?_toArray]; rfl) (by kernel_rfl) (by kernel_rfl) (by kernel_rfl) (KeepsIf.read (by rfl) ?_) ?_
            rotate_left
            · intro w hSw
              go_simp
              (try with_reducible rfl)
            rotate_left
            (try simp only [Act.put, List.setIfInBounds_toArray, List.set_cons_zero, List.set_cons_succ])
            refine AllS.take (i := 1) (v := ?_) (by rw [List.getElem?_toArray]; rfl) (by kernel_rfl) (by kernel_rfl) (by kernel_rfl) (KeepsIf.read (by rfl) ?_) ?_
            rotate_left
            · intro w hSw
              go_simp
              (try with_reducible rfl)
            rotate_left
            (try simp only [Act.put, List.setIfInBounds_toArray, List.set_cons_zero, List.set_cons_succ])
            refine AllS.take (i := 2) (v := undef) (by rw [List.getElem?_toArray]; rfl) (by kernel_rfl) (by kernel_rfl) (by kernel_rfl) (KeepsIf.un (by kernel_rfl)) ?_
            (try simp only [Act.put, List.setIfInBounds_toArray, List.set_cons_zero, List.set_cons_succ])
            refine AllS.take (i := 3) (v := undef) (by rw [List.getElem?_toArray]; rfl) (by kernel_rfl) (by kernel_rfl) (by kernel_rfl) (KeepsIf.un (by kernel_rfl)) ?_
            (try simp only [Act.put, List.setIfInBounds_toArray, List.set_cons_zero, List.set_cons_succ])
            refine AllS.take (i := 4) (v := undef) (by rw [List.getElem?_toArray]; rfl) (by kernel_rfl) (by kernel_rfl) (by kernel_rfl) (KeepsIf.un (by kernel_rfl)) ?_
            (try simp only [Act.put, List.setIfInBounds_toArray, List.set_cons_zero, List.set_cons_succ])
            refine AllS.take (i := 5) (v := undef) (by rw [List.getElem?_toArray]; rfl) (by kernel_rfl) (by kernel_rfl) (by kernel_rfl) (KeepsIf.un (by kernel_rfl)) ?_
            (try simp only [Act.put, List.setIfInBounds_toArray, List.set_cons_zero, List.set_cons_succ])
            refine AllS.take (i := 6) (v := undef) (by rw [List.getElem?_toArray]; rfl) (by kernel_rfl) (by kernel_rfl) (by kernel_rfl) (KeepsIf.un (by kernel_rfl)) ?_
            (try simp only [Act.put, List.setIfInBounds_toArray, List.set_cons_zero, List.set_cons_succ])
            refine AllS.take (i := 7) (v := undef) (by rw [List.getElem?_toArray]; rfl) (by kernel_rfl) (by kernel_rfl) (by kernel_rfl) (KeepsIf.un (by kernel_rfl)) ?_
            (try simp only [Act.put, List.setIfInBounds_toArray, List.set_cons_zero, List.set_cons_succ])
            refine AllS.take (i := 8) (v := ?_) (by rw [List.getElem?_toArray]; rfl) (by kernel_rfl) (by kernel_rfl) (by kernel_rfl) (KeepsIf.read (by rfl) ?_) ?_
            rotate_left
            · intro w hSw
              go_simp
              (try with_reducible rfl)
            rotate_left
            (try simp only [Act.put, List.setIfInBounds_toArray, List.set_cons_zero, List.set_cons_succ])
            refine AllS.take (i := 9) (v := ?_) (by rw [List.getElem?_toArray]; rfl) (by kernel_rfl) (by kernel_rfl) (by kernel_rfl) (KeepsIf.read (by rfl) ?_) ?_
            rotate_left
            · intro w hSw
              go_simp
              (try with_reducible rfl)
            rotate_left
            (try simp only [Act.put, List.setIfInBounds_toArray, List.set_cons_zero, List.set_cons_succ])
            refine AllS.take (i := 10) (v := .bool true) (by rw [List.getElem?_toArray]; rfl) (by kernel_rfl) (by kernel_rfl) (by kernel_rfl) (KeepsIf.call 8 #[] (by kernel_rfl) (fun w => ?_) (fun w hSw => ?_)) ?_
            · go_simp
            · exact (HH.out w).mono (fun e w' h => ⟨h.1, below_seq hSw h.2⟩)
            (try simp only [Act.put, List.setIfInBounds_toArray, List.set_cons_zero, List.set_cons_succ])
            refine AllS.take (i := 11) (v := ?_) (by rw [List.getElem?_toArray]; rfl) (by kernel_rfl) (by kernel_rfl) (by kernel_rfl) (KeepsIf.read (by rfl) ?_) ?_
            rotate_left
            · intro w hSw
              go_simp
              (try with_reducible rfl)
            rotate_left
            (try simp only [Act.put, List.setIfInBounds_toArray, List.set_cons_zero, List.set_cons_succ])
            refine AllS.take (i := 12) (v := ?_) (by rw [List.getElem?_toArray]; rfl) (by kernel_rfl) (by kernel_rfl) (by kernel_rfl) (KeepsIf.read (by rfl) ?_) ?_
            rotate_left
            · intro w hSw
              go_simp
              (try with_reducible rfl)
            rotate_left
            (try simp only [Act.put, List.setIfInBounds_toArray, List.set_cons_zero, List.set_cons_succ])
            refine AllS.done (by kernel_rfl) (hR.out _ ?_) _
            clear hR R
            intro w3 hb3
            go_wp2_with fail
            go_ret
            exact ⟨rfl, HBel.out.trans (hb3.mono HBel.out.size)⟩
          | false =>
            have P1 : Hid (∀ W, Below w.heap.size w W → Calls Try.prog 11 #[.agg #[.int .i64 Fa, .int .i64 Fd, .int .i64 Fg, .int .i64 Fx, .int .i64 Fo, .slice A k c], .int .i64 1024, .int .i32 r] W fun e w' => e = .returned (.int .i64 Fo) ∧ Below W.heap.size W w') := fun W hW => by
              have h := CA.out r W hW
              rw [fnd_out Fo r Frs (fun x hx hin => by
                have h1 := HALL.out.symm
                rw [List.any_eq_false] at h1
                exact h1 x hx (decide_eq_true hin)), HO.out] at h
              exact h
            go_wp2_with fail
            refine region_go (by kernel_rfl) (fun R hR => ?_)
            refine AllS.take (i := 0) (v := ?_) (by rw [List.getElem?_toArray]; rfl) (by kernel_rfl) (by kernel_rfl) (by kernel_rfl) (KeepsIf.read (by rfl) ?_) ?_
            rotate_left
            · intro w hSw
              go_simp
              (try with_reducible rfl)
            rotate_left
            (try simp only [Act.put, List.setIfInBounds_toArray, List.set_cons_zero, List.set_cons_succ])
            refine AllS.take (i := 1) (v := ?_) (by rw [List.getElem?_toArray]; rfl) (by kernel_rfl) (by kernel_rfl) (by kernel_rfl) (KeepsIf.read (by rfl) ?_) ?_
            rotate_left
            · intro w hSw
              go_simp
              (try with_reducible rfl)
            rotate_left
            (try simp only [Act.put, List.setIfInBounds_toArray, List.set_cons_zero, List.set_cons_succ])
            refine AllS.take (i := 2) (v := ?_) (by rw [List.getElem?_toArray]; rfl) (by kernel_rfl) (by kernel_rfl) (by kernel_rfl) (KeepsIf.read (by rfl) ?_) ?_
            rotate_left
            · intro w hSw
              obtain ⟨k0, k1, k2, k3, k4, k5⟩ := K.out w hSw
              go_simp
              (try with_reducible rfl)
            rotate_left
            (try simp only [Act.put, List.setIfInBounds_toArray, List.set_cons_zero, List.set_cons_succ])
            refine AllS.take (i := 3) (v := ?_) (by rw [List.getElem?_toArray]; rfl) (by kernel_rfl) (by kernel_rfl) (by kernel_rfl) (KeepsIf.read (by rfl) ?_) ?_
            rotate_left
            · intro w hSw
              go_simp
              (try with_reducible rfl)
            rotate_left
            (try simp only [Act.put, List.setIfInBounds_toArray, List.set_cons_zero, List.set_cons_succ])
            refine AllS.take (i := 4) (v := .int .i64 Fo) (by rw [List.getElem?_toArray]; rfl) (by kernel_rfl) (by kernel_rfl) (by kernel_rfl) (KeepsIf.call 11 #[.agg #[.int .i64 Fa, .int .i64 Fd, .int .i64 Fg, .int .i64 Fx, .int .i64 Fo, .slice A k c], .int .i64 1024, .int .i32 r] (by kernel_rfl) (fun w => ?_) (fun w hSw => ?_)) ?_
            · go_simp
            · exact (P1.out w (HBel.out.trans (hSw.mono HBel.out.size))).mono (fun e w' h => ⟨h.1, below_seq hSw h.2⟩)
            (try simp only [Act.put, List.setIfInBounds_toArray, List.set_cons_zero, List.set_cons_succ])
            refine AllS.take (i := 5) (v := ?_) (by rw [List.getElem?_toArray]; rfl) (by kernel_rfl) (by kernel_rfl) (by kernel_rfl) (KeepsIf.read (by rfl) ?_) ?_
            rotate_left
            · intro w hSw
              go_simp
              (try with_reducible rfl)
            rotate_left
            (try simp only [Act.put, List.setIfInBounds_toArray, List.set_cons_zero, List.set_cons_succ])
            refine AllS.take (i := 6) (v := ?_) (by rw [List.getElem?_toArray]; rfl) (by kernel_rfl) (by kernel_rfl) (by kernel_rfl) (KeepsIf.read (by rfl) ?_) ?_
            rotate_left
            · intro w hSw
              obtain ⟨k0, k1, k2, k3, k4, k5⟩ := K.out w hSw
              go_simp
              (try with_reducible rfl)
            rotate_left
            (try simp only [Act.put, List.setIfInBounds_toArray, List.set_cons_zero, List.set_cons_succ])
            refine AllS.take (i := 7) (v := ?_) (by rw [List.getElem?_toArray]; rfl) (by kernel_rfl) (by kernel_rfl) (by kernel_rfl) (KeepsIf.read (by rfl) ?_) ?_
            rotate_left
            · intro w hSw
              go_simp
              (try with_reducible rfl)
            rotate_left
            (try simp only [Act.put, List.setIfInBounds_toArray, List.set_cons_zero, List.set_cons_succ])
            refine AllS.take (i := 8) (v := ?_) (by rw [List.getElem?_toArray]; rfl) (by kernel_rfl) (by kernel_rfl) (by kernel_rfl) (KeepsIf.read (by rfl) ?_) ?_
            rotate_left
            · intro w hSw
              go_simp
              (try with_reducible rfl)
            rotate_left
            (try simp only [Act.put, List.setIfInBounds_toArray, List.set_cons_zero, List.set_cons_succ])
            refine AllS.take (i := 9) (v := ?_) (by rw [List.getElem?_toArray]; rfl) (by kernel_rfl) (by kernel_rfl) (by kernel_rfl) (KeepsIf.read (by rfl) ?_) ?_
            rotate_left
            · intro w hSw
              go_simp
              (try with_reducible rfl)
            rotate_left
            (try simp only [Act.put, List.setIfInBounds_toArray, List.set_cons_zero, List.set_cons_succ])
            refine AllS.take (i := 10) (v := .bool true) (by rw [List.getElem?_toArray]; rfl) (by kernel_rfl) (by kernel_rfl) (by kernel_rfl) (KeepsIf.call 8 #[] (by kernel_rfl) (fun w => ?_) (fun w hSw => ?_)) ?_
            · go_simp
            · exact (HH.out w).mono (fun e w' h => ⟨h.1, below_seq hSw h.2⟩)
            (try simp only [Act.put, List.setIfInBounds_toArray, List.set_cons_zero, List.set_cons_succ])
            refine AllS.take (i := 11) (v := ?_) (by rw [List.getElem?_toArray]; rfl) (by kernel_rfl) (by kernel_rfl) (by kernel_rfl) (KeepsIf.read (by rfl) ?_) ?_
            rotate_left
            · intro w hSw
              go_simp
              (try with_reducible rfl)
            rotate_left
            (try simp only [Act.put, List.setIfInBounds_toArray, List.set_cons_zero, List.set_cons_succ])
            refine AllS.take (i := 12) (v := ?_) (by rw [List.getElem?_toArray]; rfl) (by kernel_rfl) (by kernel_rfl) (by kernel_rfl) (KeepsIf.read (by rfl) ?_) ?_
            rotate_left
            · intro w hSw
              go_simp
              (try with_reducible rfl)
            rotate_left
            (try simp only [Act.put, List.setIfInBounds_toArray, List.set_cons_zero, List.set_cons_succ])
            refine AllS.done (by kernel_rfl) (hR.out _ ?_) _
            clear hR R
            intro w3 hb3
            go_wp2_with fail
            go_ret
            exact ⟨rfl, HBel.out.trans (hb3.mono HBel.out.size)⟩
  · have h3z : ¬ (n : Int) ≤ 300 := by omega
    go_wp2_with fail
    refine (HH.out _).mono ?_
    rintro e w3 ⟨rfl, b3⟩
    go_wp2_with fail
    go_ret
    exact ⟨rfl, below_seq HBA.out b3⟩
end Go.Proofs.Ytlbncmgecfnnbaa
