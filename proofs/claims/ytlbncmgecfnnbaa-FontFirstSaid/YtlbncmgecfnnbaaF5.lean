/- Which fonts may be: contracts of font.validRanges and font.Check, and of the document's Check and Small. Conditions: the numbers fit their kinds, the ranges lie in memory. -/
import Derived.Test.YtlbncmgecfnnbaaF3
namespace Go.Proofs.Ytlbncmgecfnnbaa
open Go.ChangeShapes Go.WideShapes Go.ChangeAt Go.RowKit

/-- may ranges be, behind e? -/
def vrB : Int → List Rg → Bool
  | _, [] => true
  | e, x :: l => decide (e < x.f ∧ x.f ≤ x.t ∧ x.t ≤ 1114111) && (mayB x.a && vrB x.t l)
theorem vrB_vr : ∀ (l : List Rg) (e : Int), vrB e l = true → vr e l
  | [], _, _ => trivial
  | x :: l, e, h => by
    simp only [vrB, Bool.and_eq_true, decide_eq_true_eq] at h
    obtain ⟨⟨h1, h2, h3⟩, h4, h5⟩ := h
    have h6 := of_decide_eq_true h4
    exact ⟨h1, h2, h3, h6.1, h6.2, vrB_vr l _ h5⟩
def Fnt.okB (F : Fnt) : Bool := mayB F.a && (mayB F.d && (mayB F.g && (mayB F.x && (mayB F.o && (decide (F.rs.length ≤ 256) && vrB (-1) F.rs)))))
def Fnt.chk (F : Fnt) : Int := if F.okB then 0 else 50

theorem vrB_at {l : List Rg} {k : Nat} {x : Rg} (h : l[k]? = some x) (e : Int) : vrB e (l.drop k) = (decide (e < x.f ∧ x.f ≤ x.t ∧ x.t ≤ 1114111) && (mayB x.a && vrB x.t (l.drop (k + 1)))) := by
  obtain ⟨hk, rfl⟩ := List.getElem?_eq_some_iff.1 h
  rw [List.drop_eq_getElem_cons hk]
  rfl
theorem vrB_end (l : List Rg) (e : Int) : vrB e (l.drop l.length) = true := by rw [List.drop_length]; rfl

set_option maxRecDepth 100000 in
set_option maxHeartbeats 2000000 in
theorem fvr_any (F : Fnt) (w : World) (hF : F.In w) (hw : F.Wf) :
    Calls Try.prog 22 #[F.v] w fun e w' => e = .returned (.bool (vrB (-1) F.rs)) ∧ Below w.heap.size w w' := by
  have HI := Lib.hid hF
  have HW := Lib.hid hw.rs
  have hlen := hw.len
  obtain ⟨A, c, hA⟩ := hF.form
  obtain ⟨n, hn⟩ : ∃ n, F.rs.length = n := ⟨_, rfl⟩
  rw [hn] at hlen hA
  have HL := Lib.hid hn
  obtain ⟨Fa, Fd, Fg, Fx, Fo, Fv, Frs⟩ := F
  simp only at *
  subst hA
  clear hn hF hw
  obtain ⟨B, hB⟩ : ∃ B, vrB (-1) Frs = B := ⟨_, rfl⟩
  have HB0 := Lib.hid hB
  rw [hB]
  clear hB
  go_enter Try.func22, Try.ntmps22
  go_wp2_with fail
  go_loopg [3, 8] n (fun kx s3 s8 wr => ∃ (k : Nat) (e : Int), s3 = .int .i32 e ∧ s8 = .int .i64 k ∧ W32 e ∧ k ≤ n ∧ kx = n - k ∧ Below w.heap.size w wr ∧ Hid (B = vrB e (Frs.drop k)))
  case atStart => exact ⟨0, -1, rfl, rfl, by simp [W32], Nat.zero_le _, by omega, Below.refl _ _, HB0.out.symm⟩
  case round =>
    obtain ⟨k, e, rfl, rfl, he, hk, rfl, bel, I⟩ := hrel
    by_cases hlt : k < n
    · have hkl : k < Frs.length := by rw [HL.out]; exact hlt
      obtain ⟨x, hx⟩ : ∃ x, Frs[k]? = some x := ⟨_, List.getElem?_eq_getElem hkl⟩
      obtain ⟨a, cap, o, hv, ha, d0, d1, d2⟩ := HI.out.get bel hx
      injection hv with hv1 hv2 hv3
      subst hv1 hv3
      have HV : Hid (vrB e (Frs.drop k) = (decide (e < x.f ∧ x.f ≤ x.t ∧ x.t ≤ 1114111) && (mayB x.a && vrB x.t (Frs.drop (k + 1))))) := vrB_at hx e
      obtain ⟨w1, w2, w3⟩ := HW.out x (List.mem_of_getElem? hx)
      have CM := Lib.hid (fun W => fvalid_any x.a W w3)
      have hkz : (k : Int) < n := by omega
      obtain ⟨xf, xt, xa⟩ := x
      simp only [W32] at w1 w2 he d0 d1 d2 HV CM
      clear hx hkl hv2 w3
      have HB2 : Hid (Below w.heap.size w (wr.alloc (.cells #[.int .i32 xf, .int .i32 xt, .int .i64 xa] 38))) := bel.alloc bel.size _
      by_cases h1 : e < xf
      · by_cases h2 : xf ≤ xt
        · by_cases h3 : xt ≤ 1114111
          · rw [decide_eq_true (show e < xf ∧ xf ≤ xt ∧ xt ≤ 1114111 from ⟨h1, h2, h3⟩), Bool.true_and] at HV
            obtain ⟨b, hb⟩ : ∃ b, mayB xa = b := ⟨_, rfl⟩
            rw [hb] at CM HV
            clear hb
            cases b with
            | true =>
              rw [Bool.true_and] at HV
              go_wp2_with fail
              refine (CM.out _).mono ?_
              rintro e w2 ⟨rfl, rfl⟩
              go_wp2_with fail
              go_roundg (n - (k + 1))
              case measure => omega
              case rel => exact ⟨k + 1, xt, rfl, by go_num, by simp only [W32]; omega, by omega, rfl, HB2.out, by rw [← HV.out]; exact I.out⟩
            | false =>
              have HE : Hid (Ending.returned (.bool false) = .returned (.bool B)) := retb <| Eq.symm <| (I.out.trans HV.out)
              go_wp2_with fail
              refine (CM.out _).mono ?_
              rintro e w2 ⟨rfl, rfl⟩
              go_wp2_with fail
              go_ret
              exact ⟨HE.out, HB2.out⟩
          · rw [decide_eq_false (show ¬ (e < xf ∧ xf ≤ xt ∧ xt ≤ 1114111) by omega), Bool.false_and] at HV
            have HE : Hid (Ending.returned (.bool false) = .returned (.bool B)) := retb <| Eq.symm <| (I.out.trans HV.out)
            go_wp2_with fail
            go_ret
            exact ⟨HE.out, HB2.out⟩
        · rw [decide_eq_false (show ¬ (e < xf ∧ xf ≤ xt ∧ xt ≤ 1114111) by omega), Bool.false_and] at HV
          have HE : Hid (Ending.returned (.bool false) = .returned (.bool B)) := retb <| Eq.symm <| (I.out.trans HV.out)
          go_wp2_with fail
          go_ret
          exact ⟨HE.out, HB2.out⟩
      · rw [decide_eq_false (show ¬ (e < xf ∧ xf ≤ xt ∧ xt ≤ 1114111) by omega), Bool.false_and] at HV
        have HE : Hid (Ending.returned (.bool false) = .returned (.bool B)) := retb <| Eq.symm <| (I.out.trans HV.out)
        go_wp2_with fail
        go_ret
        exact ⟨HE.out, HB2.out⟩
    · obtain rfl : k = n := by omega
      have HE : Hid (Ending.returned (.bool true) = .returned (.bool B)) := retb <| Eq.symm <| (I.out.trans (by rw [← HL.out]; exact vrB_end Frs e))
      clear I
      go_wp2_with fail
      go_ret
      exact ⟨HE.out, bel⟩

set_option maxRecDepth 100000 in
set_option maxHeartbeats 2000000 in
theorem fcheck_any (F : Fnt) (w : World) (hF : F.In w) (hw : F.Wf) :
    Calls Try.prog 9 #[F.val] w fun e w' => e = .returned (.int .i64 F.chk) ∧ Below w.heap.size w w' := by
  have V0 := Lib.hid (fun W => fvalid_any F.a W hw.a)
  have V1 := Lib.hid (fun W => fvalid_any F.d W hw.d)
  have V2 := Lib.hid (fun W => fvalid_any F.g W hw.g)
  have V3 := Lib.hid (fun W => fvalid_any F.x W hw.x)
  have V4 := Lib.hid (fun W => fvalid_any F.o W hw.o)
  have CR : Hid (∀ W, Below w.heap.size w W → Calls Try.prog 22 #[F.v] W fun e w' => e = .returned (.bool (vrB (-1) F.rs)) ∧ Below W.heap.size W w') := fun W hW => fvr_any F W (hF.below hW) hw
  have hlen := hw.len
  obtain ⟨A, c, hA⟩ := hF.form
  obtain ⟨n, hn⟩ : ∃ n, F.rs.length = n := ⟨_, rfl⟩
  rw [hn] at hlen hA
  obtain ⟨z, hz⟩ : ∃ z, F.chk = z := ⟨_, rfl⟩
  have HZ := Lib.hid hz
  rw [hz]
  unfold Fnt.chk Fnt.okB at HZ
  rw [hn] at HZ
  obtain ⟨Fa, Fd, Fg, Fx, Fo, Fv, Frs⟩ := F
  simp only [Fnt.val, Fnt.cells] at *
  subst hA
  clear hn hF hw hz
  obtain ⟨b0, e0⟩ : ∃ b, mayB Fa = b := ⟨_, rfl⟩
  obtain ⟨b1, e1⟩ : ∃ b, mayB Fd = b := ⟨_, rfl⟩
  obtain ⟨b2, e2⟩ : ∃ b, mayB Fg = b := ⟨_, rfl⟩
  obtain ⟨b3, e3⟩ : ∃ b, mayB Fx = b := ⟨_, rfl⟩
  obtain ⟨b4, e4⟩ : ∃ b, mayB Fo = b := ⟨_, rfl⟩
  obtain ⟨b5, e5⟩ : ∃ b, vrB (-1) Frs = b := ⟨_, rfl⟩
  rw [e0] at V0 HZ
  rw [e1] at V1 HZ
  rw [e2] at V2 HZ
  rw [e3] at V3 HZ
  rw [e4] at V4 HZ
  rw [e5] at CR HZ
  clear e0 e1 e2 e3 e4 e5
  go_enter Try.func9, Try.ntmps9
  go_wp2_with fail
  go_loopg [16] 5 (fun kx s16 wr => Below w.heap.size w wr ∧ Blk wr w.heap.size 24 #[.int .i64 Fa, .int .i64 Fd, .int .i64 Fg, .int .i64 Fx, .int .i64 Fo, .slice A n c] ∧ ((s16 = .int .i64 0 ∧ kx = 5) ∨ (s16 = .int .i64 1 ∧ kx = 4 ∧ Hid (b0 = true)) ∨ (s16 = .int .i64 2 ∧ kx = 3 ∧ Hid (b0 = true ∧ b1 = true)) ∨ (s16 = .int .i64 3 ∧ kx = 2 ∧ Hid (b0 = true ∧ b1 = true ∧ b2 = true)) ∨ (s16 = .int .i64 4 ∧ kx = 1 ∧ Hid (b0 = true ∧ b1 = true ∧ b2 = true ∧ b3 = true)) ∨ (s16 = .int .i64 5 ∧ kx = 0 ∧ Hid (b0 = true ∧ b1 = true ∧ b2 = true ∧ b3 = true ∧ b4 = true))))
  case atStart => exact ⟨below_alloc _ _, Blk.new _ _ _, .inl ⟨rfl, rfl⟩⟩
  case round =>
    obtain ⟨bel, hB, hc⟩ := hrel
    have HB := Lib.hid hB
    rcases hc with ⟨rfl, rfl⟩ | ⟨rfl, rfl, H⟩ | ⟨rfl, rfl, H⟩ | ⟨rfl, rfl, H⟩ | ⟨rfl, rfl, H⟩ | ⟨rfl, rfl, H⟩
    · clear hB
      have i0 : ∀ w, (Instr.index 42 (.agg #[.int .i64 Fa, .int .i64 Fd, .int .i64 Fg, .int .i64 Fx, .int .i64 Fo]) (.int .i64 0)).run Try.prog w = .ok (.int .i64 Fa) w := fun _ => by kernel_rfl
      go_wp2_with fail
      refine (V0.out _).mono ?_
      rintro e w2 ⟨rfl, rfl⟩
      cases b0 with
      | false =>
        have e := HZ.out
        simp at e
        subst e
        go_wp2_with fail
        go_ret
        exact ⟨rfl, bel⟩
      | true =>
        go_wp2_with fail
        go_roundg 4
        case measure => omega
        case rel => exact ⟨bel, HB.out, .inr (.inl ⟨rfl, rfl, trivial⟩)⟩
    · clear hB
      have i0 : ∀ w, (Instr.index 42 (.agg #[.int .i64 Fa, .int .i64 Fd, .int .i64 Fg, .int .i64 Fx, .int .i64 Fo]) (.int .i64 1)).run Try.prog w = .ok (.int .i64 Fd) w := fun _ => by kernel_rfl
      go_wp2_with fail
      refine (V1.out _).mono ?_
      rintro e w2 ⟨rfl, rfl⟩
      cases b1 with
      | false =>
        have e := HZ.out
        simp at e
        subst e
        go_wp2_with fail
        go_ret
        exact ⟨rfl, bel⟩
      | true =>
        go_wp2_with fail
        go_roundg 3
        case measure => omega
        case rel => exact ⟨bel, HB.out, .inr (.inr (.inl ⟨rfl, rfl, ⟨H.out, trivial⟩⟩))⟩
    · clear hB
      have i0 : ∀ w, (Instr.index 42 (.agg #[.int .i64 Fa, .int .i64 Fd, .int .i64 Fg, .int .i64 Fx, .int .i64 Fo]) (.int .i64 2)).run Try.prog w = .ok (.int .i64 Fg) w := fun _ => by kernel_rfl
      go_wp2_with fail
      refine (V2.out _).mono ?_
      rintro e w2 ⟨rfl, rfl⟩
      cases b2 with
      | false =>
        have e := HZ.out
        simp at e
        subst e
        go_wp2_with fail
        go_ret
        exact ⟨rfl, bel⟩
      | true =>
        go_wp2_with fail
        go_roundg 2
        case measure => omega
        case rel => exact ⟨bel, HB.out, .inr (.inr (.inr (.inl ⟨rfl, rfl, ⟨H.out.1, H.out.2, trivial⟩⟩)))⟩
    · clear hB
      have i0 : ∀ w, (Instr.index 42 (.agg #[.int .i64 Fa, .int .i64 Fd, .int .i64 Fg, .int .i64 Fx, .int .i64 Fo]) (.int .i64 3)).run Try.prog w = .ok (.int .i64 Fx) w := fun _ => by kernel_rfl
      go_wp2_with fail
      refine (V3.out _).mono ?_
      rintro e w2 ⟨rfl, rfl⟩
      cases b3 with
      | false =>
        have e := HZ.out
        simp at e
        subst e
        go_wp2_with fail
        go_ret
        exact ⟨rfl, bel⟩
      | true =>
        go_wp2_with fail
        go_roundg 1
        case measure => omega
        case rel => exact ⟨bel, HB.out, .inr (.inr (.inr (.inr (.inl ⟨rfl, rfl, ⟨H.out.1, H.out.2.1, H.out.2.2, trivial⟩⟩))))⟩
    · clear hB
      have i0 : ∀ w, (Instr.index 42 (.agg #[.int .i64 Fa, .int .i64 Fd, .int .i64 Fg, .int .i64 Fx, .int .i64 Fo]) (.int .i64 4)).run Try.prog w = .ok (.int .i64 Fo) w := fun _ => by kernel_rfl
      go_wp2_with fail
      refine (V4.out _).mono ?_
      rintro e w2 ⟨rfl, rfl⟩
      cases b4 with
      | false =>
        have e := HZ.out
        simp at e
        subst e
        go_wp2_with fail
        go_ret
        exact ⟨rfl, bel⟩
      | true =>
        go_wp2_with fail
        go_roundg 0
        case measure => omega
        case rel => exact ⟨bel, HB.out, .inr (.inr (.inr (.inr (.inr (⟨rfl, rfl, ⟨H.out.1, H.out.2.1, H.out.2.2.1, H.out.2.2.2, trivial⟩⟩)))))⟩
    · have c5 : wr.cell? ⟨w.heap.size, 5, none⟩ = some (.slice A n c) := hB.cell 5
      have CR2 := Lib.hid (CR.out wr bel)
      have HF := H.out
      obtain ⟨rfl, rfl, rfl, rfl, rfl⟩ := HF
      simp only [Bool.true_and] at HZ
      clear hB H CR V0 V1 V2 V3 V4
      by_cases hl : n ≤ 256
      · rw [decide_eq_true hl, Bool.true_and] at HZ
        have hl2 : (n : Int) ≤ 256 := by omega
        go_wp2_with fail
        refine CR2.out.mono ?_
        rintro e w2 ⟨rfl, b2⟩
        cases b5 with
        | false =>
          have e := HZ.out
          simp at e
          subst e
          go_wp2_with fail
          go_ret
          exact ⟨rfl, bel.trans (b2.mono bel.size)⟩
        | true =>
          have e := HZ.out
          simp at e
          subst e
          go_wp2_with fail
          go_ret
          exact ⟨rfl, bel.trans (b2.mono bel.size)⟩
      · rw [decide_eq_false hl, Bool.false_and] at HZ
        have hl2 : ¬ (n : Int) ≤ 256 := by omega
        have e := HZ.out
        simp at e
        subst e
        go_wp2_with fail
        go_ret
        exact ⟨rfl, bel⟩

set_option maxRecDepth 100000 in
set_option maxHeartbeats 4000000 in
theorem rcheck_any (F : Fnt) (w : World) (hF : F.In w) (hw : F.Wf) :
    Calls Try.prog 10 #[F.val] w fun e w' => e = .returned (.int .i64 F.chk) ∧ Below w.heap.size w w' := by
  have V0 := Lib.hid (fun W => fmay_any F.a W hw.a)
  have V1 := Lib.hid (fun W => fmay_any F.d W hw.d)
  have V2 := Lib.hid (fun W => fmay_any F.g W hw.g)
  have V3 := Lib.hid (fun W => fmay_any F.x W hw.x)
  have V4 := Lib.hid (fun W => fmay_any F.o W hw.o)
  have HI := Lib.hid hF
  have HW := Lib.hid hw.rs
  have hlen := hw.len
  obtain ⟨A, c, hA⟩ := hF.form
  obtain ⟨n, hn⟩ : ∃ n, F.rs.length = n := ⟨_, rfl⟩
  rw [hn] at hlen hA
  obtain ⟨z, hz⟩ : ∃ z, F.chk = z := ⟨_, rfl⟩
  have HZ := Lib.hid hz
  have HL := Lib.hid hn
  rw [hz]
  unfold Fnt.chk Fnt.okB at HZ
  rw [hn] at HZ
  obtain ⟨Fa, Fd, Fg, Fx, Fo, Fv, Frs⟩ := F
  simp only [Fnt.val, Fnt.cells] at *
  subst hA
  clear hn hF hw hz
  have HBA : Hid (Below w.heap.size w (w.alloc (.cells #[.int .i64 Fa, .int .i64 Fd, .int .i64 Fg, .int .i64 Fx, .int .i64 Fo, .slice A n c] 24))) := below_alloc _ _
  obtain ⟨b0, e0⟩ : ∃ b, mayB Fa = b := ⟨_, rfl⟩
  obtain ⟨b1, e1⟩ : ∃ b, mayB Fd = b := ⟨_, rfl⟩
  obtain ⟨b2, e2⟩ : ∃ b, mayB Fg = b := ⟨_, rfl⟩
  obtain ⟨b3, e3⟩ : ∃ b, mayB Fx = b := ⟨_, rfl⟩
  obtain ⟨b4, e4⟩ : ∃ b, mayB Fo = b := ⟨_, rfl⟩
  obtain ⟨B, e5⟩ : ∃ b, vrB (-1) Frs = b := ⟨_, rfl⟩
  have HB0 := Lib.hid e5
  rw [e0] at V0 HZ
  rw [e1] at V1 HZ
  rw [e2] at V2 HZ
  rw [e3] at V3 HZ
  rw [e4] at V4 HZ
  rw [e5] at HZ
  clear e0 e1 e2 e3 e4 e5
  go_enter Try.func10, Try.ntmps10
  go_wp2_with fail
  refine (V0.out _).mono ?_
  rintro e w2 ⟨rfl, rfl⟩
  cases b0 with
  | false =>
    have e := HZ.out
    simp at e
    subst e
    go_wp2_with fail
    go_ret
    exact ⟨rfl, HBA.out⟩
  | true =>
    simp only [Bool.true_and] at HZ
    go_wp2_with fail
    refine (V1.out _).mono ?_
    rintro e w2 ⟨rfl, rfl⟩
    cases b1 with
    | false =>
      have e := HZ.out
      simp at e
      subst e
      go_wp2_with fail
      go_ret
      exact ⟨rfl, HBA.out⟩
    | true =>
      simp only [Bool.true_and] at HZ
      go_wp2_with fail
      refine (V2.out _).mono ?_
      rintro e w2 ⟨rfl, rfl⟩
      cases b2 with
      | false =>
        have e := HZ.out
        simp at e
        subst e
        go_wp2_with fail
        go_ret
        exact ⟨rfl, HBA.out⟩
      | true =>
        simp only [Bool.true_and] at HZ
        go_wp2_with fail
        refine (V3.out _).mono ?_
        rintro e w2 ⟨rfl, rfl⟩
        cases b3 with
        | false =>
          have e := HZ.out
          simp at e
          subst e
          go_wp2_with fail
          go_ret
          exact ⟨rfl, HBA.out⟩
        | true =>
          simp only [Bool.true_and] at HZ
          go_wp2_with fail
          refine (V4.out _).mono ?_
          rintro e w2 ⟨rfl, rfl⟩
          cases b4 with
          | false =>
            have e := HZ.out
            simp at e
            subst e
            go_wp2_with fail
            go_ret
            exact ⟨rfl, HBA.out⟩
          | true =>
            simp only [Bool.true_and] at HZ
            by_cases hl : n ≤ 256
            · rw [decide_eq_true hl, Bool.true_and] at HZ
              have hl2 : (n : Int) ≤ 256 := by omega
              go_wp2_with fail
              go_loopg [3, 4] n (fun kx s3 s4 wr => ∃ (k : Nat) (e : Int), s3 = .int .i32 e ∧ s4 = .int .i64 k ∧ W32 e ∧ k ≤ n ∧ kx = n - k ∧ Below w.heap.size w wr ∧ Blk wr w.heap.size 24 #[.int .i64 Fa, .int .i64 Fd, .int .i64 Fg, .int .i64 Fx, .int .i64 Fo, .slice A n c] ∧ Hid (B = vrB e (Frs.drop k)))
              case atStart => exact ⟨0, -1, rfl, rfl, by simp [W32], Nat.zero_le _, by omega, below_alloc _ _, Blk.new _ _ _, HB0.out.symm⟩
              case round =>
                obtain ⟨k, e, rfl, rfl, he, hk, rfl, bel, hB, I⟩ := hrel
                have c5 : wr.cell? ⟨w.heap.size, 5, none⟩ = some (.slice A n c) := hB.cell 5
                have HB := Lib.hid hB
                clear hB
                by_cases hlt : k < n
                · have hkl : k < Frs.length := by rw [HL.out]; exact hlt
                  obtain ⟨x, hx⟩ : ∃ x, Frs[k]? = some x := ⟨_, List.getElem?_eq_getElem hkl⟩
                  obtain ⟨a, cap, o, hv, ha, d0, d1, d2⟩ := HI.out.get bel hx
                  injection hv with hv1 hv2 hv3
                  subst hv1 hv3
                  have HV : Hid (vrB e (Frs.drop k) = (decide (e < x.f ∧ x.f ≤ x.t ∧ x.t ≤ 1114111) && (mayB x.a && vrB x.t (Frs.drop (k + 1))))) := vrB_at hx e
                  obtain ⟨w1, w2, w3⟩ := HW.out x (List.mem_of_getElem? hx)
                  have CM := Lib.hid (fun W => fmay_any x.a W w3)
                  have hkz : (k : Int) < n := by omega
                  obtain ⟨xf, xt, xa⟩ := x
                  simp only [W32] at w1 w2 he d0 d1 d2 HV CM
                  clear hx hkl hv2 w3
                  have HB2 : Hid (Below w.heap.size w (wr.alloc (.cells #[.int .i32 xf, .int .i32 xt, .int .i64 xa] 38))) := bel.alloc bel.size _
                  by_cases h1 : e < xf
                  · by_cases h2 : xf ≤ xt
                    · by_cases h3 : xt ≤ 1114111
                      · rw [decide_eq_true (show e < xf ∧ xf ≤ xt ∧ xt ≤ 1114111 from ⟨h1, h2, h3⟩), Bool.true_and] at HV
                        obtain ⟨b, hb⟩ : ∃ b, mayB xa = b := ⟨_, rfl⟩
                        rw [hb] at CM HV
                        clear hb
                        cases b with
                        | true =>
                          rw [Bool.true_and] at HV
                          go_wp2_with fail
                          refine (CM.out _).mono ?_
                          rintro e w2 ⟨rfl, rfl⟩
                          go_wp2_with fail
                          go_roundg (n - (k + 1))
                          case measure => omega
                          case rel => exact ⟨k + 1, xt, rfl, by go_num, by simp only [W32]; omega, by omega, rfl, HB2.out, HB.out.alloc _, by rw [← HV.out]; exact I.out⟩
                        | false =>
                          have HE : Hid (Ending.returned (.int .i64 50) = .returned (.int .i64 z)) := (fun (hq : B = false) => ret1 (by rw [← HZ.out, hq]; rfl)) (I.out.trans HV.out)
                          go_wp2_with fail
                          refine (CM.out _).mono ?_
                          rintro e w2 ⟨rfl, rfl⟩
                          go_wp2_with fail
                          go_ret
                          exact ⟨HE.out, HB2.out⟩
                      · rw [decide_eq_false (show ¬ (e < xf ∧ xf ≤ xt ∧ xt ≤ 1114111) by omega), Bool.false_and] at HV
                        have HE : Hid (Ending.returned (.int .i64 50) = .returned (.int .i64 z)) := (fun (hq : B = false) => ret1 (by rw [← HZ.out, hq]; rfl)) (I.out.trans HV.out)
                        go_wp2_with fail
                        go_ret
                        exact ⟨HE.out, HB2.out⟩
                    · rw [decide_eq_false (show ¬ (e < xf ∧ xf ≤ xt ∧ xt ≤ 1114111) by omega), Bool.false_and] at HV
                      have HE : Hid (Ending.returned (.int .i64 50) = .returned (.int .i64 z)) := (fun (hq : B = false) => ret1 (by rw [← HZ.out, hq]; rfl)) (I.out.trans HV.out)
                      go_wp2_with fail
                      go_ret
                      exact ⟨HE.out, HB2.out⟩
                  · rw [decide_eq_false (show ¬ (e < xf ∧ xf ≤ xt ∧ xt ≤ 1114111) by omega), Bool.false_and] at HV
                    have HE : Hid (Ending.returned (.int .i64 50) = .returned (.int .i64 z)) := (fun (hq : B = false) => ret1 (by rw [← HZ.out, hq]; rfl)) (I.out.trans HV.out)
                    go_wp2_with fail
                    go_ret
                    exact ⟨HE.out, HB2.out⟩
                · obtain rfl : k = n := by omega
                  have HE : Hid (Ending.returned (.int .i64 0) = .returned (.int .i64 z)) := (fun (hq : B = true) => ret1 (by rw [← HZ.out, hq]; rfl)) (I.out.trans (by rw [← HL.out]; exact vrB_end Frs e))
                  clear I
                  go_wp2_with fail
                  go_ret
                  exact ⟨HE.out, bel⟩
            · rw [decide_eq_false hl, Bool.false_and] at HZ
              have hl2 : ¬ (n : Int) ≤ 256 := by omega
              have e := HZ.out
              simp at e
              subst e
              go_wp2_with fail
              go_ret
              exact ⟨rfl, HBA.out⟩

theorem small_any (F : Fnt) (w : World) (hF : F.In w) (b : Bool) (hb : decide (F.rs.length ≤ 300) = b) :
    Calls Try.prog 7 #[F.val] w fun e w' => e = .returned (.bool b) ∧ Below w.heap.size w w' := by
  obtain ⟨A, c, hA⟩ := hF.form
  obtain ⟨n, hn⟩ : ∃ n, F.rs.length = n := ⟨_, rfl⟩
  rw [hn] at hb hA
  obtain ⟨Fa, Fd, Fg, Fx, Fo, Fv, Frs⟩ := F
  simp only [Fnt.val, Fnt.cells] at *
  subst hA
  clear hn hF
  have HB : Hid (∀ o, Below w.heap.size w (w.alloc o)) := fun o => below_alloc w o
  cases b with
  | true =>
    have h := of_decide_eq_true hb
    have h2 : (n : Int) ≤ 300 := by omega
    clear hb
    go_enter Try.func7, Try.ntmps7
    go_wp2_with fail
    go_ret
    exact ⟨retb (by simp <;> omega), HB.out _⟩
  | false =>
    have h := of_decide_eq_false hb
    have h2 : ¬ (n : Int) ≤ 300 := by omega
    clear hb
    go_enter Try.func7, Try.ntmps7
    go_wp2_with fail
    go_ret
    exact ⟨retb (by simp <;> omega), HB.out _⟩
end Go.Proofs.Ytlbncmgecfnnbaa
