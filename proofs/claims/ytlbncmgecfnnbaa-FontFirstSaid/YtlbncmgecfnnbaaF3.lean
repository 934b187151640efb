/- Contracts of font.Advance, Up, Down, Gap, X and extend, and of the document's Advance. Conditions: the numbers fit their kinds, the ranges lie in memory. -/
import Derived.Test.YtlbncmgecfnnbaaF2
namespace Go.Proofs.Ytlbncmgecfnnbaa
open Go.ChangeShapes Go.WideShapes Go.ChangeAt Go.RowKit

theorem box_facts {w W : World} {F : Fnt} (hF : F.In w) (hW : Below (w.alloc (.cells F.cells 24)).heap.size (w.alloc (.cells F.cells 24)) W) :
    Blk W w.heap.size 24 F.cells ∧ F.In W ∧ Below w.heap.size w W :=
  ⟨(Blk.new w 24 F.cells).keep (S := fun _ => False) (Mod.of_below hW) id, (hF.below (below_alloc _ _)).below hW, below_seq (below_alloc _ _) hW⟩

theorem fnd_w64 (F : Fnt) (r : Int) (hw : F.Wf) : W64 (fnd F.o r F.rs) := fnd_wf F.o r hw.o F.rs fun x hx => (hw.rs x hx).2.2

set_option maxRecDepth 100000 in
set_option maxHeartbeats 1000000 in
theorem fadv_any (F : Fnt) (s r : Int) (w : World) (hF : F.In w) (hw : F.Wf) (hs : W64 s) :
    Calls Try.prog 11 #[F.val, .int .i64 s, .int .i32 r] w fun e w' => e = .returned (.int .i64 (atI (fnd F.o r F.rs) s)) ∧ Below w.heap.size w w' := by
  have C1 : Hid (∀ W, Below (w.alloc (.cells F.cells 24)).heap.size (w.alloc (.cells F.cells 24)) W → Calls Try.prog 25 #[F.val, .int .i32 r] W fun e w' => e = .returned (.int .i64 (fnd F.o r F.rs)) ∧ Below W.heap.size W w') := fun W hW => fnum_any F r W (box_facts hF hW).2.1 hw
  have C2 : Hid (∀ w : World, Calls Try.prog 24 #[.int .i64 s, .int .i64 (fnd F.o r F.rs)] w fun e w' => e = .returned (.int .i64 (atI (fnd F.o r F.rs) s)) ∧ Below w.heap.size w w') := fun w => fat_any s _ w hs (fnd_w64 F r hw)
  have HB : Hid (Below w.heap.size w (w.alloc (.cells F.cells 24))) := below_alloc _ _
  obtain ⟨n, hn⟩ : ∃ n, fnd F.o r F.rs = n := ⟨_, rfl⟩
  rw [hn] at C1 C2 ⊢
  obtain ⟨y, hy⟩ : ∃ y, atI n s = y := ⟨_, rfl⟩
  rw [hy] at C2 ⊢
  obtain ⟨Fa, Fd, Fg, Fx, Fo, Fv, Frs⟩ := F
  simp only [Fnt.val, Fnt.cells] at C1 C2 HB ⊢
  clear hn hy hF hw hs
  go_enter Try.func11, Try.ntmps11
  go_wp2_with fail
  refine (C1.out _ (Below.refl _ _)).mono ?_
  rintro e w1 ⟨rfl, b1⟩
  go_wp2_with fail
  refine (C2.out _).mono ?_
  rintro e w2 ⟨rfl, b2⟩
  go_wp2_with fail
  go_ret
  exact ⟨rfl, below_seq HB.out (below_seq b1 b2)⟩

set_option maxRecDepth 100000 in
set_option maxHeartbeats 1000000 in
theorem fup_any (F : Fnt) (s : Int) (w : World) (hw : F.Wf) (hs : W64 s) :
    Calls Try.prog 13 #[F.val, .int .i64 s] w fun e w' => e = .returned (.int .i64 (atI F.a s)) ∧ Below w.heap.size w w' := by
  have C2 : Hid (∀ w : World, Calls Try.prog 24 #[.int .i64 s, .int .i64 F.a] w fun e w' => e = .returned (.int .i64 (atI F.a s)) ∧ Below w.heap.size w w') := fun w => fat_any s _ w hs hw.a
  have HB : Hid (Below w.heap.size w (w.alloc (.cells F.cells 24))) := below_alloc _ _
  obtain ⟨y, hy⟩ : ∃ y, atI F.a s = y := ⟨_, rfl⟩
  rw [hy] at C2 ⊢
  obtain ⟨Fa, Fd, Fg, Fx, Fo, Fv, Frs⟩ := F
  simp only [Fnt.val, Fnt.cells] at C2 HB ⊢
  clear hy hw hs
  go_enter Try.func13, Try.ntmps13
  go_wp2_with fail
  refine (C2.out _).mono ?_
  rintro e w2 ⟨rfl, b2⟩
  go_wp2_with fail
  go_ret
  exact ⟨rfl, below_seq HB.out b2⟩

set_option maxRecDepth 100000 in
set_option maxHeartbeats 1000000 in
theorem fdown_any (F : Fnt) (s : Int) (w : World) (hw : F.Wf) (hs : W64 s) :
    Calls Try.prog 15 #[F.val, .int .i64 s] w fun e w' => e = .returned (.int .i64 (atI F.d s)) ∧ Below w.heap.size w w' := by
  have C2 : Hid (∀ w : World, Calls Try.prog 24 #[.int .i64 s, .int .i64 F.d] w fun e w' => e = .returned (.int .i64 (atI F.d s)) ∧ Below w.heap.size w w') := fun w => fat_any s _ w hs hw.d
  have HB : Hid (Below w.heap.size w (w.alloc (.cells F.cells 24))) := below_alloc _ _
  obtain ⟨y, hy⟩ : ∃ y, atI F.d s = y := ⟨_, rfl⟩
  rw [hy] at C2 ⊢
  obtain ⟨Fa, Fd, Fg, Fx, Fo, Fv, Frs⟩ := F
  simp only [Fnt.val, Fnt.cells] at C2 HB ⊢
  clear hy hw hs
  go_enter Try.func15, Try.ntmps15
  go_wp2_with fail
  refine (C2.out _).mono ?_
  rintro e w2 ⟨rfl, b2⟩
  go_wp2_with fail
  go_ret
  exact ⟨rfl, below_seq HB.out b2⟩

set_option maxRecDepth 100000 in
set_option maxHeartbeats 1000000 in
theorem fgap_any (F : Fnt) (s : Int) (w : World) (hw : F.Wf) (hs : W64 s) :
    Calls Try.prog 16 #[F.val, .int .i64 s] w fun e w' => e = .returned (.int .i64 (atI F.g s)) ∧ Below w.heap.size w w' := by
  have C2 : Hid (∀ w : World, Calls Try.prog 24 #[.int .i64 s, .int .i64 F.g] w fun e w' => e = .returned (.int .i64 (atI F.g s)) ∧ Below w.heap.size w w') := fun w => fat_any s _ w hs hw.g
  have HB : Hid (Below w.heap.size w (w.alloc (.cells F.cells 24))) := below_alloc _ _
  obtain ⟨y, hy⟩ : ∃ y, atI F.g s = y := ⟨_, rfl⟩
  rw [hy] at C2 ⊢
  obtain ⟨Fa, Fd, Fg, Fx, Fo, Fv, Frs⟩ := F
  simp only [Fnt.val, Fnt.cells] at C2 HB ⊢
  clear hy hw hs
  go_enter Try.func16, Try.ntmps16
  go_wp2_with fail
  refine (C2.out _).mono ?_
  rintro e w2 ⟨rfl, b2⟩
  go_wp2_with fail
  go_ret
  exact ⟨rfl, below_seq HB.out b2⟩

set_option maxRecDepth 100000 in
set_option maxHeartbeats 1000000 in
theorem fxh_any (F : Fnt) (s : Int) (w : World) (hw : F.Wf) (hs : W64 s) :
    Calls Try.prog 17 #[F.val, .int .i64 s] w fun e w' => e = .returned (.int .i64 (atI F.x s)) ∧ Below w.heap.size w w' := by
  have C2 : Hid (∀ w : World, Calls Try.prog 24 #[.int .i64 s, .int .i64 F.x] w fun e w' => e = .returned (.int .i64 (atI F.x s)) ∧ Below w.heap.size w w') := fun w => fat_any s _ w hs hw.x
  have HB : Hid (Below w.heap.size w (w.alloc (.cells F.cells 24))) := below_alloc _ _
  obtain ⟨y, hy⟩ : ∃ y, atI F.x s = y := ⟨_, rfl⟩
  rw [hy] at C2 ⊢
  obtain ⟨Fa, Fd, Fg, Fx, Fo, Fv, Frs⟩ := F
  simp only [Fnt.val, Fnt.cells] at C2 HB ⊢
  clear hy hw hs
  go_enter Try.func17, Try.ntmps17
  go_wp2_with fail
  refine (C2.out _).mono ?_
  rintro e w2 ⟨rfl, b2⟩
  go_wp2_with fail
  go_ret
  exact ⟨rfl, below_seq HB.out b2⟩

/-- a length and an advance -/
theorem ext_is (n x : Int) (h1 : 0 ≤ n ∧ n ≤ 4611686018427387904) (h2 : 0 ≤ x ∧ x ≤ 8589934592) : (fitE (n + x) = 0 ∧ fitV (n + x) = ext n x ∧ n + x ≤ 4611686018427387904) ∨ (fitE (n + x) = 10 ∧ ext n x = 4611686018427387904) := by
  unfold fitE fitV ext
  by_cases h : n + x ≤ 4611686018427387904
  · left
    rw [if_pos (by omega), if_pos (by omega), if_pos h]
    exact ⟨rfl, rfl, h⟩
  · right
    rw [if_neg (by omega), if_neg h]
    exact ⟨rfl, rfl⟩

set_option maxHeartbeats 1000000 in
theorem fext_any (n x : Int) (w : World) (h1 : 0 ≤ n ∧ n ≤ 4611686018427387904) (h2 : 0 ≤ x ∧ x ≤ 8589934592) :
    Calls Try.prog 27 #[.int .i64 n, .int .i64 x] w fun e w' => e = .returned (.int .i64 (ext n x)) ∧ Below w.heap.size w w' := by
  have C : Hid (∀ (t : TypeId) (g : Nat) (w0 : World), g = w0.heap.size → Calls Try.prog 35 #[.slice (some ⟨g, 0, none⟩) 2 2] (w0.alloc (.cells #[.int .i64 n, .int .i64 x] t)) fun e w' => e = .returned (.tuple #[.int .i64 (fitV (n + x)), .int .i64 (fitE (n + x))]) ∧ (w0.alloc (.cells #[.int .i64 n, .int .i64 x] t)) = w') := fun t g w0 hg => sum2 n x t g w0 hg (by omega) (by omega)
  have HB : Hid (∀ o, Below w.heap.size w (w.alloc o)) := fun o => below_alloc w o
  have E := ext_is n x h1 h2
  obtain ⟨v, hv⟩ : ∃ v, fitV (n + x) = v := ⟨_, rfl⟩
  obtain ⟨er, her⟩ : ∃ er, fitE (n + x) = er := ⟨_, rfl⟩
  obtain ⟨y, hy⟩ : ∃ y, ext n x = y := ⟨_, rfl⟩
  rw [hv, her, hy] at E
  rw [hv, her] at C
  rw [hy]
  clear hv her hy h1 h2
  rcases E with ⟨rfl, rfl, _⟩ | ⟨rfl, rfl⟩
  · go_enter Try.func27, Try.ntmps27
    go_wp2_with fail
    refine (C.out _ _ _ rfl).mono ?_
    rintro e w2 ⟨rfl, rfl⟩
    go_wp2_with fail
    go_ret
    exact ⟨rfl, HB.out _⟩
  · go_enter Try.func27, Try.ntmps27
    go_wp2_with fail
    refine (C.out _ _ _ rfl).mono ?_
    rintro e w2 ⟨rfl, rfl⟩
    go_wp2_with fail
    go_ret
    exact ⟨rfl, HB.out _⟩

set_option maxRecDepth 100000 in
set_option maxHeartbeats 2000000 in
theorem radv_any (F : Fnt) (s r : Int) (w : World) (hF : F.In w) (hw : F.Wf) (hs : W64 s) :
    Calls Try.prog 12 #[F.val, .int .i64 s, .int .i32 r] w fun e w' => e = .returned (.int .i64 (atI (fnd F.o r F.rs) s)) ∧ Below w.heap.size w w' := by
  have C1 : Hid (∀ (x : Rg) (w : World), x ∈ F.rs → Calls Try.prog 14 #[.int .i64 x.a, .int .i64 s] w fun e w' => e = .returned (.int .i64 (atI x.a s)) ∧ Below w.heap.size w w') := fun x w hx => rat_any _ s w (hw.rs x hx).2.2 hs
  have C2 := Lib.hid (fun w => rat_any F.o s w hw.o hs)
  have HI := Lib.hid hF
  have HN := Lib.hid (fun h => fnd_out F.o r F.rs h)
  have HA := Lib.hid (fnd_at F.o r F.rs)
  have hlen := hw.len
  obtain ⟨A, c, hA⟩ := hF.form
  obtain ⟨m, hm⟩ : ∃ m, fnd F.o r F.rs = m := ⟨_, rfl⟩
  rw [hm] at HN HA ⊢
  obtain ⟨n, hn⟩ : ∃ n, F.rs.length = n := ⟨_, rfl⟩
  rw [hn] at hlen hA
  have HL := Lib.hid hn
  obtain ⟨Fa, Fd, Fg, Fx, Fo, Fv, Frs⟩ := F
  simp only [Fnt.val, Fnt.cells] at *
  subst hA
  clear hm hn hF hw hs
  go_enter Try.func12, Try.ntmps12
  go_wp2_with fail
  go_loopg [7] n (fun kx s7 wr => ∃ k : Nat, s7 = .int .i64 k ∧ k ≤ n ∧ kx = n - k ∧ Below w.heap.size w wr ∧ Blk wr w.heap.size 24 #[.int .i64 Fa, .int .i64 Fd, .int .i64 Fg, .int .i64 Fx, .int .i64 Fo, .slice A n c] ∧ Hid (∀ j y, j < k → Frs[j]? = some y → inB r y = false))
  case atStart => exact ⟨0, rfl, Nat.zero_le _, by omega, below_alloc _ _, Blk.new _ _ _, fun j _ h => absurd h (Nat.not_lt_zero j)⟩
  case round =>
    obtain ⟨k, rfl, hk, rfl, bel, hB, I⟩ := hrel
    have c5 : wr.cell? ⟨w.heap.size, 5, none⟩ = some (.slice A n c) := hB.cell 5
    have c4 : wr.cell? ⟨w.heap.size, 4, none⟩ = some (.int .i64 Fo) := hB.cell 4
    have HB := Lib.hid hB
    clear hB
    by_cases hlt : k < n
    · have hkl : k < Frs.length := by rw [HL.out]; exact hlt
      obtain ⟨x, hx⟩ : ∃ x, Frs[k]? = some x := ⟨_, List.getElem?_eq_getElem hkl⟩
      obtain ⟨a, cap, o, hv, ha, d0, d1, d2⟩ := HI.out.get bel hx
      injection hv with hv1 hv2 hv3
      subst hv1 hv3
      have HX := Lib.hid hx
      have hkz : (k : Int) < n := by omega
      have step : Hid (inB r x = false → ∀ j y, j < k + 1 → Frs[j]? = some y → inB r y = false) := fun hp j y hj hy => by
        rcases Nat.lt_or_ge j k with h | h
        · exact I.out j y h hy
        · obtain rfl : j = k := by omega
          rw [HX.out] at hy
          injection hy with hy
          subst hy
          exact hp
      clear hx hkl hv2
      obtain ⟨xf, xt, xa⟩ := x
      simp only at d0 d1 d2
      by_cases ha1 : xf ≤ r
      · by_cases hb1 : r ≤ xt
        · have e := HA.out k _ HX.out (decide_eq_true ⟨ha1, hb1⟩) I.out
          have C3 := Lib.hid (fun W => C1.out _ W (List.mem_of_getElem? HX.out))
          simp only at e C3
          subst e
          go_wp2_with fail
          refine (C3.out _).mono ?_
          rintro e w2 ⟨rfl, b2⟩
          go_wp2_with fail
          go_ret
          exact ⟨rfl, bel.trans (b2.mono bel.size)⟩
        · have st := Lib.hid (step.out (decide_eq_false (by show ¬ (xf ≤ r ∧ r ≤ xt); omega)))
          go_wp2_with fail
          go_roundg (n - (k + 1))
          case measure => omega
          case rel => exact ⟨k + 1, by go_num, by omega, rfl, bel, HB.out, st.out⟩
      · have st := Lib.hid (step.out (decide_eq_false (by show ¬ (xf ≤ r ∧ r ≤ xt); omega)))
        go_wp2_with fail
        go_roundg (n - (k + 1))
        case measure => omega
        case rel => exact ⟨k + 1, by go_num, by omega, rfl, bel, HB.out, st.out⟩
    · obtain rfl : k = n := by omega
      have e := HN.out (fun x hx h => by
        obtain ⟨j, hj⟩ := List.getElem?_of_mem hx
        have := I.out j x (by rw [← HL.out]; exact (List.getElem?_eq_some_iff.1 hj).1) hj
        unfold inB at this
        exact of_decide_eq_false this h)
      subst e
      go_wp2_with fail
      refine (C2.out _).mono ?_
      rintro e w2 ⟨rfl, b2⟩
      go_wp2_with fail
      go_ret
      exact ⟨rfl, bel.trans (b2.mono bel.size)⟩
end Go.Proofs.Ytlbncmgecfnnbaa
