/- Contract of tabs.pens: what produces the pens, one by one, and says its error at its end. Conditions: the row and the roles lie where the slices say, at most 1048576 cells; numbers are int64; what a round does leaves them. -/
import Derived.Test.YtddihpiheopleaaTa1
import Derived.Test.YtddihpiheopleaaRangeRow
import Derived.Test.YtddihpiheopleaaOpIn
namespace Go.Proofs.Ytddihpiheopleaa.Ta
open Go.ChangeShapes Go.WideShapes Go.ChangeAt Go.RowKit Go.Shelf
open Ce
open Fo (fitV fitE)

attribute [local go_sem] Oper.semAt_some

theorem ldClIn {F : Fence} {n : Nat} {ops : Array Oper} {Q : Exit → Act → World → Prop} {a : Act} {w : World} {rest : List Oper} {o : Oper} (hF : ∀ f, F.fn f) (hg : o.guard = none) (x : Operand) (ho : o.op = .load 35 x) (p : Addr) (hx : a.eval x = .pointer (some p)) (s : Cl) (hL : Lies w p (clA s))
    (h : wpListIn F n Try.prog ops Q rest (a.put o.dst (.agg (clA s))) w) : wpListIn F n Try.prog ops Q (o :: rest) a w :=
  wpListIn_val hF (by rw [ho]; intro c hc; cases hc) hg _ rfl _ _ (rdCl x ho p hx s hL) h

set_option maxRecDepth 100000 in
set_option maxHeartbeats 2000000 in
theorem pens_in (n Bl Bf Bx Br F lp : Nat) (l : List Cl) (rs : List Int) (x : Int) (vl vr : Value) (w0 : World) (I : List Int → World → Prop) (J : World → Prop)
    (hlen : l.length ≤ 1048576) (hx : W64 x) (hl : ∀ c ∈ l, W64 c.adv)
    (hI : ∀ pre X Y, I pre X → Below X.heap.size X Y → I pre Y)
    (hS : ∀ pre X, I pre X → X.cell? ⟨Bl, 0, none⟩ = some vl ∧ X.cell? ⟨Bf, 0, none⟩ = some (.pointer (some ⟨F, 0, none⟩)) ∧ X.cell? ⟨Bx, 0, none⟩ = some (.int .i64 x) ∧ X.cell? ⟨Br, 0, none⟩ = some vr ∧ Blk X F 24 #[.int .i64 0] ∧ RwCl X vl l ∧ RowI .u8 X vr rs)
    (hY : ∀ (m : Nat) pre p W, I pre W → pre.length < l.length + 1 → YieldAt Fence.wide m Try.prog lp #[.int .i64 p] W fun e W' => e = .returned (.bool true) ∧ I (pre ++ [p]) W')
    (hF : ∀ X, I (pens l rs x).1 X → J (X.setCell ⟨F, 0, none⟩ (.int .i64 (pens l rs x).2)))
    (h0 : I [] w0) :
    CallsIn Fence.wide n Try.prog 34 (#[.func (.yield lp) #[] #[]] ++ #[.pointer (some ⟨Bl, 0, none⟩), .pointer (some ⟨Bf, 0, none⟩), .pointer (some ⟨Bx, 0, none⟩), .pointer (some ⟨Br, 0, none⟩)]) w0 fun e W' => (∃ v, e = .returned v) ∧ J W' := by
  have HI := Lib.hid hI
  have HS := Lib.hid hS
  have HY := Lib.hid hY
  have HF := Lib.hid hF
  have HLA := Lib.hid hl
  obtain ⟨s1, s2, s3, s4, s5, s6, s7⟩ := hS [] w0 h0
  obtain ⟨A, cap, rfl⟩ := s6.form
  obtain ⟨A2, cap2, rfl⟩ := s7.form
  obtain ⟨m, hm⟩ : ∃ m, l.length = m := ⟨_, rfl⟩
  obtain ⟨m2, hm2⟩ : ∃ m2, rs.length = m2 := ⟨_, rfl⟩
  have HM := Lib.hid hm
  have HM2 := Lib.hid hm2
  rw [hm] at hlen s1
  rw [hm2] at s4
  have CW := Lib.hid (cont_any l _ w0 s6 (by rw [hm]; exact hlen))
  rw [hm] at CW
  obtain ⟨bw, hbw⟩ : ∃ b, l.any wrongC = b := ⟨_, rfl⟩
  have HBW := Lib.hid hbw
  rw [hbw] at CW
  obtain ⟨ys, E, hyE⟩ : ∃ ys E, pens l rs x = (ys, E) := ⟨_, _, rfl⟩
  have HYE := Lib.hid hyE
  rw [hyE] at HF
  obtain ⟨hx1, hx2⟩ := hx
  have H0 := Lib.hid h0
  have f5 := s5.cell 0
  have f5' := s5.frozen 0
  clear hI hS hY hF hl hm hm2 hbw hyE s6 s7 h0 s5
  refine callsIn_of_wp Try.func34 rfl trivial ?_ rfl
  simp only [Try.ntmps34, List.size_toArray, List.length_cons, List.length_nil, Nat.reduceAdd, Nat.reduceSub, Array.replicate_succ, Array.replicate_zero, List.push_toArray, List.append_toArray, List.nil_append, List.cons_append]
  gi_wp2_with fail
  refine ⟨trivial, fun h => (by cases h), (callsIn_wide.2 CW.out).mono ?_⟩
  rintro e w1 ⟨rfl, b1⟩
  have hJ1 := HI.out [] w0 w1 H0.out b1
  obtain ⟨s1, s2, s3, s4, s5, s6, s7⟩ := HS.out [] w1 hJ1
  have f5 := s5.cell 0
  have f5' := s5.frozen 0
  have HJ1 := Lib.hid hJ1
  clear CW H0 s5 s6 s7 b1 hJ1
  rw [HM.out] at s1
  rw [HM2.out] at s4
  cases bw with
  | true =>
    obtain ⟨rfl, rfl⟩ : ys = [] ∧ E = 2 := by
      have := HYE.out
      unfold pens at this
      rw [if_pos HBW.out] at this
      injection this with h1 h2
      exact ⟨h1.symm, h2.symm⟩
    have HJ2 := Lib.hid (HF.out w1 HJ1.out)
    clear HF HJ1
    gi_wp2_with fail
    refine ⟨rfl, _, results_none rfl _ _ _, ⟨_, rfl⟩, HJ2.out⟩
  | false =>
    have hst := At.start (rs := rs) (x := x) HBW.out
    rw [HYE.out] at hst
    obtain ⟨p0, hp0⟩ : ∃ p, fitV x = p := ⟨_, rfl⟩
    obtain ⟨e0, he0⟩ : ∃ p, fitE x = p := ⟨_, rfl⟩
    have C := Lib.hid (fun w0 => Fo.sum1 x 2 w0.heap.size w0 rfl ⟨hx1, hx2⟩)
    rw [hp0, he0] at hst C
    have HST := Lib.hid hst
    clear hst hp0 he0
    gi_wp2_with fail
    refine ⟨trivial, fun h => (by cases h), (callsIn_wide.2 (C.out w1)).mono ?_⟩
    rintro e w2 ⟨rfl, rfl⟩
    have hJ2 := HI.out [] w1 _ HJ1.out (below_alloc w1 (.cells #[.int .i64 x] 2))
    obtain ⟨w2, hw2⟩ : ∃ w2, w1.alloc (.cells #[.int .i64 x] 2) = w2 := ⟨_, rfl⟩
    rw [hw2] at hJ2 ⊢
    clear C HJ1 s1 s2 s3 s4 f5 f5' hw2 hx1 hx2
    gi_wp2_with fail
    gi_loopw [6, 7, 8] (fun s6 s7 s8 wr => ∃ (i : Nat) (p e : Int) (pre : List Int), s6 = .int .i64 p ∧ s7 = .int .i64 e ∧ s8 = .int .i64 (i : Int) ∧ i ≤ m ∧ Hid (At (gone rs) l ys E i p e pre) ∧ I pre wr)
      (fun _ _ s8 _ => m - (intOf s8).toNat)
    case atStart => exact ⟨0, p0, e0, [], rfl, rfl, by go_num, Nat.zero_le _, HST, hJ2⟩
    case round =>
      obtain ⟨i, p, e, pre, rfl, rfl, rfl, hi, HA, hJ⟩ := hrel
      clear hJ2 HST
      obtain ⟨s1, s2, s3, s4, s5, s6, s7⟩ := HS.out pre wr hJ
      have HJ := Lib.hid hJ
      have hiz : (i : Int) ≤ m := by omega
      by_cases he : e = 0
      · subst he
        have hpl : pre.length < l.length + 1 := by
          rcases HA.out with ⟨_, _, _, _, _, h⟩ | ⟨h, _⟩
          · rw [h, HM.out]; omega
          · exact absurd rfl h
        obtain ⟨fn, tmps, assign, body, hy, hRd⟩ := HY.out (n - 1) pre p wr hJ hpl
        clear hJ hpl s1 s2 s3 s4 s5 s6 s7
        gi_wp2_with fail
        refine ⟨fun h => (by cases h), hRd.mono ?_⟩
        rintro e w3 ⟨rfl, hJ3⟩
        obtain ⟨s1, s2, s3, s4, s5, s6, s7⟩ := HS.out _ w3 hJ3
        rw [HM.out] at s1
        rw [HM2.out] at s4
        have HJ3 := Lib.hid hJ3
        clear hy hRd hJ3 HJ
        by_cases him : i < m
        · have himz : (i : Int) < m := by omega
          obtain ⟨c, hc⟩ : ∃ c, l[i]? = some c := ⟨_, List.getElem?_eq_getElem (by rw [HM.out]; exact him)⟩
          obtain ⟨g, hg⟩ : ∃ g, gone rs i = g := ⟨_, rfl⟩
          have CK := Lib.hid (skipped_any rs _ i w3 s7 (by omega))
          rw [HM2.out, hg] at CK
          have HG := Lib.hid hg
          have HC := Lib.hid hc
          have HL := Lib.hid (s6.get (Below.refl _ _) hc)
          rw [HM.out] at HL
          clear s5 s6 s7 hg hc
          cases g with
          | true =>
            gi_wp2_with fail
            refine ⟨trivial, fun h => (by cases h), (callsIn_wide.2 CK.out).mono ?_⟩
            rintro e w4 ⟨rfl, rfl⟩
            gi_wp2_with fail
            go_roundw
            case rel => exact ⟨i + 1, p, 0, _, rfl, rfl, by go_num, by omega, Lib.hid (HA.out.gone HC.out HG.out), HJ3.out⟩
            case measure => simp [intOf]; omega
          | false =>
            obtain ⟨q, e4, hs⟩ : ∃ q e4, stepV c p = (q, e4) := ⟨_, _, rfl⟩
            have CS := Lib.hid (fun w => step_any c p w (by
              rcases HA.out with ⟨_, h1, h2, _⟩ | ⟨h, _⟩
              · exact ⟨by omega, by omega⟩
              · exact absurd rfl h) (HLA.out c (List.mem_of_getElem? HC.out)))
            rw [hs] at CS
            have HS4 := Lib.hid hs
            obtain ⟨a, cap3, o, hv, hab, ha, hL⟩ := HL.out
            injection hv with hv1 hv2 hv3
            subst hv1 hv3
            clear hs hv2 HL
            gi_wp2_with fail
            refine ⟨trivial, fun h => (by cases h), (callsIn_wide.2 CK.out).mono ?_⟩
            rintro e w4 ⟨rfl, rfl⟩
            gi_wp2_with (refine ldClIn (fun _ => trivial) rfl (.tmp 41) rfl _ rfl c hL ?_)
            refine ⟨trivial, fun h => (by cases h), (callsIn_wide.2 (CS.out _)).mono ?_⟩
            rintro e w5 ⟨rfl, b5⟩
            have hJ5 := HI.out _ _ _ HJ3.out b5
            clear CK CS HJ3 s1 s2 s3 s4 b5 hL
            gi_wp2_with fail
            go_roundw
            case rel => exact ⟨i + 1, q, e4, _, rfl, rfl, by go_num, by omega, Lib.hid (HA.out.step HC.out HG.out HS4.out), hJ5⟩
            case measure => simp [intOf]; omega
        · obtain rfl : i = m := by omega
          have hA : At (gone rs) l ys E l.length p 0 pre := by rw [HM.out]; exact HA.out
          obtain ⟨h1, h2⟩ := hA.end_
          subst h1 h2
          have HJ2 := Lib.hid (HF.out w3 HJ3.out)
          have f5 := s5.cell 0
          have f5' := s5.frozen 0
          clear HF HJ3 hA s5 s6 s7
          gi_wp2_with fail
          go_end0
          exact ⟨⟨_, rfl⟩, HJ2.out⟩
      · have hp : ys = pre ∧ E = e := by
          rcases HA.out with ⟨h, _⟩ | ⟨_, h1, h2, _⟩
          · exact absurd h he
          · exact ⟨h1, h2⟩
        obtain ⟨rfl, rfl⟩ := hp
        have HJ2 := Lib.hid (HF.out wr hJ)
        have f5 := s5.cell 0
        have f5' := s5.frozen 0
        clear HF HJ hJ s5 s6 s7
        gi_wp2_with fail
        refine ⟨fun f hf => (by cases hf), ?_⟩
        gi_wp2_with fail
        go_end0
        exact ⟨⟨_, rfl⟩, HJ2.out⟩
end Go.Proofs.Ytddihpiheopleaa.Ta
