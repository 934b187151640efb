/- Contracts of style.CheckDecl, Resolve, Merge. Condition: a declaration's bits are a 16-bit number. -/
import Derived.Test.YtgpobhnonjdamaaDoorY5
namespace Go.Proofs.YtgpobhnonjdamaaDoor
open Go.ChangeShapes Go.WideShapes Go.ChangeAt Go.RowKit

/-- as res_row_tmp, the second value named -/
theorem res_row_val {P : Program} {fn : Func} {p u : Tmp} {ty : TypeId} (h : fn.results = #[.cell p ty, .tmp u]) (tmps : Array Value) (w : World) (g : Nat) (t : TypeId) (cs : Array Value) (d : TypeDesc)
    (hp : tmps.getD p undef = .pointer (some ⟨g, 0, none⟩)) (hB : Blk w g t cs) (v : Value) (hv : tmps.getD u undef = v)
    (hu : P.underlying ty = some d) (hd : (match d with | .struct _ | .array _ _ => true | _ => false) = true) (hi : (P.info? ty).map (·.size) = some cs.size) :
    (results fn tmps).run P w = .ok (.tuple #[.agg cs, v]) w := by
  subst hv
  exact res_row_tmp h tmps w g t cs d hp hB hu hd hi

theorem chkD_is (d : Dcl) (h1 : d.n ≤ 255) (h2 : over .zero d = d.s) : chkD d = chk (over .zero d) := by
  unfold chkD vldD chk
  rw [decide_eq_true h1, decide_eq_true h2, h2]
  rfl
theorem chkD_eq (d : Dcl) (h2 : ¬ over .zero d = d.s) : chkD d = 60 := by
  unfold chkD vldD
  rw [decide_eq_false h2]
  simp
theorem chkD_high (d : Dcl) (h1 : ¬ d.n ≤ 255) : chkD d = 60 := by
  unfold chkD vldD
  rw [decide_eq_false h1]
  simp

set_option maxRecDepth 100000 in
set_option maxHeartbeats 2000000 in
theorem ychkd_any (d : Dcl) (w : World) (hn : d.n < 65536) :
    Calls Tryd.prog 60 #[.agg d.cells] w fun e w' => e = .returned (.int .i64 (chkD d)) ∧ Below w.heap.size w w' := by
  have CA : Hid (∀ w, Calls Tryd.prog 52 #[.agg Sty.zero.cells, .agg d.cells] w fun e w' => e = .returned (.agg (over .zero d).cells) ∧ Below w.heap.size w w') := fun w => yapply_any .zero d w hn
  have CC := Lib.hid (fun w => ycheck_any (over .zero d) w)
  have H1 := Lib.hid (chkD_is d)
  have H2 := Lib.hid (chkD_eq d)
  have H3 := Lib.hid (chkD_high d)
  obtain ⟨o, ho⟩ : ∃ o, over .zero d = o := ⟨_, rfl⟩
  rw [ho] at CA CC H1 H2
  clear ho
  obtain ⟨c, hc⟩ : ∃ c, chkD d = c := ⟨_, rfl⟩
  rw [hc] at H1 H2 H3 ⊢
  clear hc
  by_cases h255 : d.n ≤ 255
  · have hand := not_yes d.n h255
    by_cases he : o = d.s
    · have e := H1.out h255 he
      have hne := fun w => neS o d.s w true (decide_eq_true he)
      simp only [Bool.not_true] at hne
      clear he
      subst e
      clear H1 H2 H3
      go_enter Tryd.func60, Tryd.ntmps60
      go_wp2_with (first
        | (refine bxDV rfl (.tmp 0) rfl d rfl ?_; intro w1 b1 B1)
        | (refine ldD rfl (.tmp 1) rfl _ rfl d B1.lies ?_))
      refine (CA.out _).mono ?_
      rintro e w2 ⟨rfl, b2⟩
      have B2 := B1.keep (S := fun _ => False) (Mod.of_below b2) id
      go_wp2_with (first
        | (refine nwS rfl rfl 3 rfl rfl (.tmp 6) rfl rfl o (fun _ => rfl) (fun _ => rfl) ?_; intro w3 b3 B3; have B4 := B2.keep (S := fun _ => False) (Mod.of_below b3) id; have cn : w3.cell? ⟨w.heap.size, 0, none⟩ = some (.int .u16 d.n) := B4.cell 0)
        | (refine ldSIf (by kernel_rfl) (.tmp 3) rfl _ rfl o B3.lies ?_)
        | (refine ldSIf (by kernel_rfl) (.tmp 13) rfl _ rfl d.s B4.sub ?_))
      go_wp2_with (refine ldS rfl (.tmp 3) rfl _ rfl o B3.lies ?_)
      refine (CC.out _).mono ?_
      rintro e w4 ⟨rfl, b4⟩
      go_wp2_with fail
      go_ret
      exact ⟨rfl, below_seq (below_seq (below_seq b1 b2) b3) b4⟩
    · have e := H2.out he
      have hne := fun w => neS o d.s w false (decide_eq_false he)
      simp only [Bool.not_false] at hne
      clear he
      subst e
      clear H1 H2 H3
      go_enter Tryd.func60, Tryd.ntmps60
      go_wp2_with (first
        | (refine bxDV rfl (.tmp 0) rfl d rfl ?_; intro w1 b1 B1)
        | (refine ldD rfl (.tmp 1) rfl _ rfl d B1.lies ?_))
      refine (CA.out _).mono ?_
      rintro e w2 ⟨rfl, b2⟩
      have B2 := B1.keep (S := fun _ => False) (Mod.of_below b2) id
      go_wp2_with (first
        | (refine nwS rfl rfl 3 rfl rfl (.tmp 6) rfl rfl o (fun _ => rfl) (fun _ => rfl) ?_; intro w3 b3 B3; have B4 := B2.keep (S := fun _ => False) (Mod.of_below b3) id; have cn : w3.cell? ⟨w.heap.size, 0, none⟩ = some (.int .u16 d.n) := B4.cell 0)
        | (refine ldSIf (by kernel_rfl) (.tmp 3) rfl _ rfl o B3.lies ?_)
        | (refine ldSIf (by kernel_rfl) (.tmp 13) rfl _ rfl d.s B4.sub ?_))
      go_wp2_with fail
      go_ret
      exact ⟨rfl, below_seq (below_seq b1 b2) b3⟩
  · have e := H3.out h255
    have hand := not_no d.n hn h255
    subst e
    clear H1 H2 H3
    go_enter Tryd.func60, Tryd.ntmps60
    go_wp2_with (first
      | (refine bxDV rfl (.tmp 0) rfl d rfl ?_; intro w1 b1 B1)
      | (refine ldD rfl (.tmp 1) rfl _ rfl d B1.lies ?_))
    refine (CA.out _).mono ?_
    rintro e w2 ⟨rfl, b2⟩
    have B2 := B1.keep (S := fun _ => False) (Mod.of_below b2) id
    go_wp2_with (first
      | (refine nwS rfl rfl 3 rfl rfl (.tmp 6) rfl rfl o (fun _ => rfl) (fun _ => rfl) ?_; intro w3 b3 B3; have B4 := B2.keep (S := fun _ => False) (Mod.of_below b3) id; have cn : w3.cell? ⟨w.heap.size, 0, none⟩ = some (.int .u16 d.n) := B4.cell 0))
    go_wp2_with fail
    go_ret
    exact ⟨rfl, below_seq (below_seq b1 b2) b3⟩

end Go.Proofs.YtgpobhnonjdamaaDoor
