/- Contracts of font.Text and of the document's Text. Conditions: the numbers fit their kinds, at most 500 code points, all lies in memory. -/
import Derived.Test.YtlbncmgecfnnbaaF3
import Derived.Test.YtlbncmgecfnnbaaRegS
namespace Go.Proofs.Ytlbncmgecfnnbaa
open Go.ChangeShapes Go.WideShapes Go.ChangeAt Go.RowKit

set_option maxRecDepth 100000 in
set_option maxHeartbeats 2000000 in
theorem ftext_any (F : Fnt) (s : Int) (zs : List Int) (v : Value) (w : World) (hF : F.In w) (hw : F.Wf) (hs : W64 s) (hR : Row (fun _ => False) w v (zs.map (Value.int .i32))) (hz : zs.length ≤ 500) :
    Calls Try.prog 18 #[F.val, .int .i64 s, v] w fun e w' => e = .returned (.int .i64 (txt F.o s F.rs 0 zs)) ∧ Below w.heap.size w w' := by
  have C1 : Hid (∀ (r : Int) (W : World), Below w.heap.size w W → Calls Try.prog 11 #[F.val, .int .i64 s, .int .i32 r] W fun e w' => e = .returned (.int .i64 (atI (fnd F.o r F.rs) s)) ∧ Below W.heap.size W w') := fun r W hW => fadv_any F s r W (hF.below hW) hw hs
  have HR := Lib.hid hR
  obtain ⟨A, cap, hA⟩ := hR.form
  rw [List.length_map] at hA
  obtain ⟨n, hn⟩ : ∃ n, zs.length = n := ⟨_, rfl⟩
  have HN := Lib.hid hn
  rw [hn] at hA hz
  clear hR hF hw hs hn
  obtain ⟨Fa, Fd, Fg, Fx, Fo, Fv, Frs⟩ := F
  simp only [Fnt.val, Fnt.cells] at *
  subst hA
  go_enter Try.func18, Try.ntmps18
  go_wp2_with fail
  go_loopg [7, 12] n (fun kx s7 s8 wr => ∃ k : Nat, s7 = .int .i64 (txt Fo s Frs 0 (zs.take k)) ∧ s8 = .int .i64 k ∧ k ≤ n ∧ kx = n - k ∧ Below w.heap.size w wr ∧ Blk wr w.heap.size 24 #[.int .i64 Fa, .int .i64 Fd, .int .i64 Fg, .int .i64 Fx, .int .i64 Fo, Fv])
  case atStart => exact ⟨0, by simp [txt], rfl, Nat.zero_le _, by omega, below_alloc _ _, Blk.new _ _ _⟩
  case round =>
    obtain ⟨k, rfl, rfl, hk, rfl, bel, hB⟩ := hrel
    have HB := Lib.hid hB
    have HBel := Lib.hid bel
    by_cases hlt : k < n
    · have hkl : k < zs.length := by rw [HN.out]; exact hlt
      obtain ⟨r, hr⟩ : ∃ r, zs[k]? = some r := ⟨_, List.getElem?_eq_getElem hkl⟩
      have HT : Hid (txt Fo s Frs 0 (zs.take (k + 1)) = ext (txt Fo s Frs 0 (zs.take k)) (atI (fnd Fo r Frs) s)) := by
        show _ = _
        rw [List.take_add_one, hr]
        exact txt_snoc Fo s Frs _ 0 r
      have HM := Lib.hid (txt_bd Fo s Frs (zs.take k) 0 (by omega) (by omega))
      have HA := Lib.hid (atI_bd (fnd Fo r Frs) s)
      have C2 : Hid (∀ W : World, Below wr.heap.size wr W → Calls Try.prog 11 #[.agg #[.int .i64 Fa, .int .i64 Fd, .int .i64 Fg, .int .i64 Fx, .int .i64 Fo, Fv], .int .i64 s, .int .i32 r] W fun e w' => e = .returned (.int .i64 (atI (fnd Fo r Frs) s)) ∧ Below W.heap.size W w') := fun W hW => C1.out r W (HBel.out.trans (hW.mono HBel.out.size))
      obtain ⟨a, cap2, hv, hab, _, hcell⟩ := HR.out.at_ (by simp; omega)
      injection hv with hv1 hv2 hv3
      subst hv1 hv3
      have hcz : wr.cell? (a.add k) = some (.int .i32 r) := (bel.cell (p := a.add k) (by rw [block_of_add]; exact hab)).trans (hcell k _ (by rw [List.getElem?_map, hr]; rfl))
      have c0 : wr.cell? ⟨w.heap.size, 0, none⟩ = some (.int .i64 Fa) := hB.cell 0
      have c1 : wr.cell? ⟨w.heap.size, 1, none⟩ = some (.int .i64 Fd) := hB.cell 1
      have c2 : wr.cell? ⟨w.heap.size, 2, none⟩ = some (.int .i64 Fg) := hB.cell 2
      have c3 : wr.cell? ⟨w.heap.size, 3, none⟩ = some (.int .i64 Fx) := hB.cell 3
      have c4 : wr.cell? ⟨w.heap.size, 4, none⟩ = some (.int .i64 Fo) := hB.cell 4
      have c5 : wr.cell? ⟨w.heap.size, 5, none⟩ = some Fv := hB.cell 5
      have hkz : (k : Int) < n := by omega
      obtain ⟨m, hm⟩ : ∃ m, txt Fo s Frs 0 (zs.take k) = m := ⟨_, rfl⟩
      obtain ⟨y, hy⟩ : ∃ y, atI (fnd Fo r Frs) s = y := ⟨_, rfl⟩
      rw [hy] at HT HA C2
      rw [hm] at HT HM ⊢
      clear hv2 hcell hr hkl C1 hB hm hy
      have C3 := Lib.hid (fun W => fext_any m y W HM.out HA.out)
      go_wp2_with fail
      refine (C2.out _ (Below.refl _ _)).mono ?_
      rintro e w2 ⟨rfl, b2⟩
      go_wp2_with fail
      refine (C3.out _).mono ?_
      rintro e w3 ⟨rfl, b3⟩
      have b23 := below_seq b2 b3
      go_wp2_with fail
      go_roundg (n - (k + 1))
      case measure => omega
      case rel => exact ⟨k + 1, by rw [HT.out], by go_num, by omega, rfl, bel.trans (b23.mono bel.size), HB.out.keep (S := fun _ => False) (Mod.of_below b23) id⟩
    · obtain rfl : k = n := by omega
      have e : zs.take k = zs := by rw [← HN.out, List.take_length]
      rw [e]
      clear e
      go_wp2_with fail
      go_ret
      exact ⟨rfl, bel⟩

set_option maxRecDepth 100000 in
set_option maxHeartbeats 2000000 in
theorem rtext_any (F : Fnt) (s : Int) (zs : List Int) (v : Value) (w : World) (hF : F.In w) (hw : F.Wf) (hs : W64 s) (hR : Row (fun _ => False) w v (zs.map (Value.int .i32))) (hz : zs.length ≤ 500) :
    Calls Try.prog 19 #[F.val, .int .i64 s, v] w fun e w' => e = .returned (.int .i64 (txt F.o s F.rs 0 zs)) ∧ Below w.heap.size w w' := by
  have C1 : Hid (∀ (r : Int) (W : World), Below w.heap.size w W → Calls Try.prog 12 #[F.val, .int .i64 s, .int .i32 r] W fun e w' => e = .returned (.int .i64 (atI (fnd F.o r F.rs) s)) ∧ Below W.heap.size W w') := fun r W hW => radv_any F s r W (hF.below hW) hw hs
  have HR := Lib.hid hR
  obtain ⟨A, cap, hA⟩ := hR.form
  rw [List.length_map] at hA
  obtain ⟨n, hn⟩ : ∃ n, zs.length = n := ⟨_, rfl⟩
  have HN := Lib.hid hn
  rw [hn] at hA hz
  clear hR hF hw hs hn
  obtain ⟨Fa, Fd, Fg, Fx, Fo, Fv, Frs⟩ := F
  simp only [Fnt.val, Fnt.cells] at *
  subst hA
  go_enter Try.func19, Try.ntmps19
  go_wp2_with fail
  go_loopg [7, 8] n (fun kx s7 s8 wr => ∃ k : Nat, s7 = .int .i64 (txt Fo s Frs 0 (zs.take k)) ∧ s8 = .int .i64 k ∧ k ≤ n ∧ kx = n - k ∧ Below w.heap.size w wr ∧ Blk wr w.heap.size 24 #[.int .i64 Fa, .int .i64 Fd, .int .i64 Fg, .int .i64 Fx, .int .i64 Fo, Fv])
  case atStart => exact ⟨0, by simp [txt], rfl, Nat.zero_le _, by omega, below_alloc _ _, Blk.new _ _ _⟩
  case round =>
    obtain ⟨k, rfl, rfl, hk, rfl, bel, hB⟩ := hrel
    have HB := Lib.hid hB
    have HBel := Lib.hid bel
    by_cases hlt : k < n
    · have hkl : k < zs.length := by rw [HN.out]; exact hlt
      obtain ⟨r, hr⟩ : ∃ r, zs[k]? = some r := ⟨_, List.getElem?_eq_getElem hkl⟩
      have HT : Hid (txt Fo s Frs 0 (zs.take (k + 1)) = ext (txt Fo s Frs 0 (zs.take k)) (atI (fnd Fo r Frs) s)) := by
        show _ = _
        rw [List.take_add_one, hr]
        exact txt_snoc Fo s Frs _ 0 r
      have HM := Lib.hid (txt_bd Fo s Frs (zs.take k) 0 (by omega) (by omega))
      have HA := Lib.hid (atI_bd (fnd Fo r Frs) s)
      have C2 : Hid (∀ W : World, Below wr.heap.size wr W → Calls Try.prog 12 #[.agg #[.int .i64 Fa, .int .i64 Fd, .int .i64 Fg, .int .i64 Fx, .int .i64 Fo, Fv], .int .i64 s, .int .i32 r] W fun e w' => e = .returned (.int .i64 (atI (fnd Fo r Frs) s)) ∧ Below W.heap.size W w') := fun W hW => C1.out r W (HBel.out.trans (hW.mono HBel.out.size))
      obtain ⟨a, cap2, hv, hab, _, hcell⟩ := HR.out.at_ (by simp; omega)
      injection hv with hv1 hv2 hv3
      subst hv1 hv3
      have hcz : wr.cell? (a.add k) = some (.int .i32 r) := (bel.cell (p := a.add k) (by rw [block_of_add]; exact hab)).trans (hcell k _ (by rw [List.getElem?_map, hr]; rfl))
      have c0 : wr.cell? ⟨w.heap.size, 0, none⟩ = some (.int .i64 Fa) := hB.cell 0
      have c1 : wr.cell? ⟨w.heap.size, 1, none⟩ = some (.int .i64 Fd) := hB.cell 1
      have c2 : wr.cell? ⟨w.heap.size, 2, none⟩ = some (.int .i64 Fg) := hB.cell 2
      have c3 : wr.cell? ⟨w.heap.size, 3, none⟩ = some (.int .i64 Fx) := hB.cell 3
      have c4 : wr.cell? ⟨w.heap.size, 4, none⟩ = some (.int .i64 Fo) := hB.cell 4
      have c5 : wr.cell? ⟨w.heap.size, 5, none⟩ = some Fv := hB.cell 5
      have hkz : (k : Int) < n := by omega
      obtain ⟨m, hm⟩ : ∃ m, txt Fo s Frs 0 (zs.take k) = m := ⟨_, rfl⟩
      obtain ⟨y, hy⟩ : ∃ y, atI (fnd Fo r Frs) s = y := ⟨_, rfl⟩
      rw [hy] at HT HA C2
      rw [hm] at HT HM ⊢
      clear hv2 hcell hr hkl C1 hB hm hy
      have K : Hid (∀ W, Below wr.heap.size wr W → W.cell? ⟨w.heap.size, 0, none⟩ = some (.int .i64 Fa) ∧ W.cell? ⟨w.heap.size, 1, none⟩ = some (.int .i64 Fd) ∧ W.cell? ⟨w.heap.size, 2, none⟩ = some (.int .i64 Fg) ∧ W.cell? ⟨w.heap.size, 3, none⟩ = some (.int .i64 Fx) ∧ W.cell? ⟨w.heap.size, 4, none⟩ = some (.int .i64 Fo) ∧ W.cell? ⟨w.heap.size, 5, none⟩ = some Fv ∧ W.cell? (a.add k) = some (.int .i32 r)) := fun W hW => by
        have hl := HB.out.lt
        have hl2 : (a.add k).block < wr.heap.size := by rw [block_of_add]; have := HBel.out.size; omega
        exact ⟨(hW.cell hl).trans c0, (hW.cell hl).trans c1, (hW.cell hl).trans c2, (hW.cell hl).trans c3, (hW.cell hl).trans c4, (hW.cell hl).trans c5, (hW.cell hl2).trans hcz⟩
      go_wp2_with fail
      refine region_go (by kernel_rfl) (fun R hR => ?_)
      refine AllS.take (i := 0) (v := ?_) (by rw [List.getElem?_toArray]; rfl) (by kernel_rfl) (by kernel_rfl) (by kernel_rfl) (KeepsIf.read (by rfl) ?_) ?_
      rotate_left
      · intro w hSw
        go_simp
        (try with_reducible rfl)
      rotate_left
      (try simp only [Act.put, List.setIfInBounds_toArray, List.set_cons_zero, List.set_cons_succ])
      refine AllS.take (i := 1) (v := ?_) (by rw [List.getElem?_toArray]; rfl) (by kernel_rfl) (by kernel_rfl) (by kernel_rfl) (KeepsIf.read (by rfl) ?_) ?_
      rotate_left
      · intro w hSw
        obtain ⟨k0, k1, k2, k3, k4, k5, k6⟩ := K.out w hSw
        go_simp
        (try with_reducible rfl)
      rotate_left
      (try simp only [Act.put, List.setIfInBounds_toArray, List.set_cons_zero, List.set_cons_succ])
      refine AllS.take (i := 2) (v := ?_) (by rw [List.getElem?_toArray]; rfl) (by kernel_rfl) (by kernel_rfl) (by kernel_rfl) (KeepsIf.read (by rfl) ?_) ?_
      rotate_left
      · intro w hSw
        go_simp
        (try with_reducible rfl)
      rotate_left
      (try simp only [Act.put, List.setIfInBounds_toArray, List.set_cons_zero, List.set_cons_succ])
      refine AllS.take (i := 3) (v := ?_) (by rw [List.getElem?_toArray]; rfl) (by kernel_rfl) (by kernel_rfl) (by kernel_rfl) (KeepsIf.read (by rfl) ?_) ?_
      rotate_left
      · intro w hSw
        go_simp
        (try with_reducible rfl)
      rotate_left
      (try simp only [Act.put, List.setIfInBounds_toArray, List.set_cons_zero, List.set_cons_succ])
      refine AllS.take (i := 4) (v := ?_) (by rw [List.getElem?_toArray]; rfl) (by kernel_rfl) (by kernel_rfl) (by kernel_rfl) (KeepsIf.read (by rfl) ?_) ?_
      rotate_left
      · intro w hSw
        go_simp
        (try with_reducible rfl)
      rotate_left
      (try simp only [Act.put, List.setIfInBounds_toArray, List.set_cons_zero, List.set_cons_succ])
      refine AllS.take (i := 5) (v := ?_) (by rw [List.getElem?_toArray]; rfl) (by kernel_rfl) (by kernel_rfl) (by kernel_rfl) (KeepsIf.read (by rfl) ?_) ?_
      rotate_left
      · intro w hSw
        go_simp
        (try with_reducible rfl)
      rotate_left
      (try simp only [Act.put, List.setIfInBounds_toArray, List.set_cons_zero, List.set_cons_succ])
      refine AllS.take (i := 6) (v := ?_) (by rw [List.getElem?_toArray]; rfl) (by kernel_rfl) (by kernel_rfl) (by kernel_rfl) (KeepsIf.read (by rfl) ?_) ?_
      rotate_left
      · intro w hSw
        obtain ⟨k0, k1, k2, k3, k4, k5, k6⟩ := K.out w hSw
        go_simp
        (try with_reducible rfl)
      rotate_left
      (try simp only [Act.put, List.setIfInBounds_toArray, List.set_cons_zero, List.set_cons_succ])
      refine AllS.take (i := 7) (v := .int .i64 y) (by rw [List.getElem?_toArray]; rfl) (by kernel_rfl) (by kernel_rfl) (by kernel_rfl) (KeepsIf.call 12 #[.agg #[.int .i64 Fa, .int .i64 Fd, .int .i64 Fg, .int .i64 Fx, .int .i64 Fo, Fv], .int .i64 s, .int .i32 r] (by kernel_rfl) (fun w => ?_) (fun w hSw => ?_)) ?_
      · go_simp
      · exact (C2.out w hSw).mono (fun e w' h => ⟨h.1, below_seq hSw h.2⟩)
      (try simp only [Act.put, List.setIfInBounds_toArray, List.set_cons_zero, List.set_cons_succ])
      refine AllS.take (i := 8) (v := ?_) (by rw [List.getElem?_toArray]; rfl) (by kernel_rfl) (by kernel_rfl) (by kernel_rfl) (KeepsIf.read (by rfl) ?_) ?_
      rotate_left
      · intro w hSw
        go_simp
        (try with_reducible rfl)
      rotate_left
      (try simp only [Act.put, List.setIfInBounds_toArray, List.set_cons_zero, List.set_cons_succ])
      refine AllS.take (i := 9) (v := ?_) (by rw [List.getElem?_toArray]; rfl) (by kernel_rfl) (by kernel_rfl) (by kernel_rfl) (KeepsIf.read (by rfl) ?_) ?_
      rotate_left
      · intro w hSw
        go_simp
        (try with_reducible rfl)
      rotate_left
      (try simp only [Act.put, List.setIfInBounds_toArray, List.set_cons_zero, List.set_cons_succ])
      refine AllS.take (i := 10) (v := ?_) (by rw [List.getElem?_toArray]; rfl) (by kernel_rfl) (by kernel_rfl) (by kernel_rfl) (KeepsIf.read (by rfl) ?_) ?_
      rotate_left
      · intro w hSw
        go_simp
        (try with_reducible rfl)
      rotate_left
      (try simp only [Act.put, List.setIfInBounds_toArray, List.set_cons_zero, List.set_cons_succ])
      refine AllS.done (by kernel_rfl) (hR.out _ ?_) _
      clear hR R
      intro w' hb
      go_wp2_with fail
      go_roundg (n - (k + 1))
      case measure => omega
      case rel =>
        have hm1 := HM.out
        have hy1 := HA.out
        have e1 : IntKind.i64.wrap (m + y) = m + y := IntWalk.i64_in _ (by omega)
        have e2 : min (m + y) 4611686018427387904 = ext m y := by unfold ext; split <;> omega
        exact ⟨k + 1, by rw [HT.out, e1, e2], by go_num, by omega, rfl, bel.trans (hb.mono bel.size), HB.out.keep (S := fun _ => False) (Mod.of_below hb) id⟩
    · obtain rfl : k = n := by omega
      have e : zs.take k = zs := by rw [← HN.out, List.take_length]
      rw [e]
      clear e
      go_wp2_with fail
      go_ret
      exact ⟨rfl, bel⟩
end Go.Proofs.Ytlbncmgecfnnbaa
