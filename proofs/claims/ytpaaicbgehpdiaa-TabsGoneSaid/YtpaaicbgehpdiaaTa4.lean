/- Contract of tabs.Pens: the pens, or the error. Conditions: the row and the roles lie where the slices say, at most 1048576 cells; numbers are int64. -/
import Derived.Test.YtpaaicbgehpdiaaTa3
import Derived.Maps.OwnIn
namespace Go.Proofs.Ytpaaicbgehpdiaa.Ta
open Go.ChangeShapes Go.WideShapes Go.ChangeAt Go.RowKit Go.Shelf
open Ce
open Fo (fitV fitE)

attribute [local go_sem] Oper.semAt_some

theorem kl_others (nb b B L : Nat) (E : TypeId) (v vr : Value) (x e : Int) (hn : b + 5 ≤ nb) (hB : b + 5 ≤ B) (hL : B < L - 1) : Others nb B L E (KL b v vr x e) := fun y hy => by
  simp only [KL, List.mem_cons, List.not_mem_nil, or_false] at hy
  rcases hy with rfl | rfl | rfl | rfl | rfl <;> exact ⟨by simp only; omega, by simp only; omega, .inr (by simp only; omega)⟩
theorem elh64 : Elh Try.prog 24 2 1 8 := ⟨Try.underlying24, ⟨.int .i64 0, by kernel_rfl, rfl⟩, by decide, by decide⟩

theorem kl_set {X : World} {b : Nat} {v vr : Value} {x e e' : Int} (h : Kn X (KL b v vr x e)) : Kn (X.setCell ⟨b + 3, 0, none⟩ (.int .i64 e')) (KL b v vr x e') := fun y hy => by
  have m : Mod (fun k => k = b + 3) X (X.setCell ⟨b + 3, 0, none⟩ (.int .i64 e')) := Mod.setCell (S := fun k => k = b + 3) (Mod.refl _ _) (.inl rfl) _
  simp only [KL, List.mem_cons, List.not_mem_nil, or_false] at hy
  rcases hy with rfl | rfl | rfl | rfl | rfl
  · exact (h.at_ 0 rfl).keep m (by omega)
  · exact (h.at_ 1 rfl).keep m (by omega)
  · exact (h.at_ 2 rfl).keep m (by omega)
  · exact (h.at_ 3 rfl).set_ 0 _
  · exact (h.at_ 4 rfl).keep m (by omega)

set_option maxRecDepth 100000 in
set_option maxHeartbeats 2000000 in
theorem pens_any (l : List Cl) (rs : List Int) (x : Int) (vl vr : Value) (w : World) (hl : RwCl w vl l) (hr : RowI .u8 w vr rs) (hlen : l.length ≤ 1048576) (hx : W64 x) (ha : ∀ c ∈ l, W64 c.adv) :
    Calls Try.prog 8 #[vl, vr, .int .i64 x] w fun e w' => (∃ u, e = .returned (.tuple #[u, .int .i64 (pens l rs x).2]) ∧ RowI .i64 w' u (if (pens l rs x).2 = 0 then (pens l rs x).1 else []) ∧ CapV u ∧ ((pens l rs x).2 ≠ 0 → u = .slice none 0 0)) ∧ Below w.heap.size w w' := by
  have HL := Lib.hid hl
  have HR := Lib.hid hr
  have HA := Lib.hid ha
  have HX := Lib.hid hx
  obtain ⟨A, cap, rfl⟩ := hl.form
  obtain ⟨A2, cap2, rfl⟩ := hr.form
  obtain ⟨m, hm⟩ : ∃ m, l.length = m := ⟨_, rfl⟩
  obtain ⟨m2, hm2⟩ : ∃ m2, rs.length = m2 := ⟨_, rfl⟩
  have HM := Lib.hid hm
  have HM2 := Lib.hid hm2
  obtain ⟨ys, E, hyE⟩ : ∃ ys E, pens l rs x = (ys, E) := ⟨_, _, rfl⟩
  have HYE := Lib.hid hyE
  rw [hyE]
  obtain ⟨yy, hyy⟩ : ∃ yy, (if E = 0 then ys else []) = yy := ⟨_, rfl⟩
  have HYY := Lib.hid hyy
  simp only [hyy]
  rw [hm] at hlen HL ⊢
  rw [hm2] at HR ⊢
  have C := Lib.hid (pens_mk A A2 m cap m2 cap2 x w)
  have hmk : ∀ W : World, (Instr.makeSlice 24 (.int .i64 0) (.int .i64 ((m : Int) + 1))).run Try.prog W = _ := fun W => make_cap (P := Try.prog) 24 2 (.int .i64 0) 8 Try.underlying24 (by kernel_rfl) (by decide) rfl (m + 1) (by omega) W
  clear hl hr hx ha hm hm2 hyE hyy
  refine (callsIn_wide (n := 7)).1 ?_
  refine callsIn_of_wp_marks Try.func8 rfl trivial ?_ rfl
  simp only [Try.ntmps8, List.size_toArray, List.length_cons, List.length_nil, Nat.reduceAdd, Nat.reduceSub, Array.replicate_succ, Array.replicate_zero, List.push_toArray, List.append_toArray, List.nil_append, List.cons_append]
  gi_wp2_with fail
  refine ⟨trivial, (callsIn_wide.2 C.out).mono ?_⟩
  rintro e w1 ⟨rfl, hK, hs1, b1⟩
  clear C
  gi_wp2_with fail
  have R0 := Blk.new w1 2 (rowV (m + 1) fun _ => .int .i64 0)
  have B0 := Boxed.new (w1.alloc (.cells (rowV (m + 1) fun _ => .int .i64 0) 2)) 24 (.slice (some ⟨w.heap.size + 5, 0, none⟩) 0 (m + 1))
  simp only [World.size_alloc, hs1] at R0 B0
  have R1 := R0.alloc (.cells #[.slice (some ⟨w.heap.size + 5, 0, none⟩) 0 (m + 1)] 24)
  have b2 : Below w1.heap.size w1 ((w1.alloc (.cells (rowV (m + 1) fun _ => .int .i64 0) 2)).alloc (.cells #[.slice (some ⟨w.heap.size + 5, 0, none⟩) 0 (m + 1)] 24)) := (below_alloc _ _).alloc (by simp) _
  have hsz : ((w1.alloc (.cells (rowV (m + 1) fun _ => .int .i64 0) 2)).alloc (.cells #[.slice (some ⟨w.heap.size + 5, 0, none⟩) 0 (m + 1)] 24)).heap.size = w.heap.size + 7 := by simp [hs1]
  obtain ⟨Wl, hWl⟩ : ∃ Wl, (w1.alloc (.cells (rowV (m + 1) fun _ => .int .i64 0) 2)).alloc (.cells #[.slice (some ⟨w.heap.size + 5, 0, none⟩) 0 (m + 1)] 24) = Wl := ⟨_, rfl⟩
  rw [hWl] at B0 R1 b2 hsz ⊢
  have own := own_made (base := w.heap.size + 5) R1 (Nat.le_refl _) (by omega)
  have hKl := hK.below b2
  have bl : Below w.heap.size w Wl := below_seq b1 b2
  obtain ⟨z0, hzi, hzc⟩ := elh64.info
  obtain ⟨i0, hi, hz0, hz1, hz2⟩ := info_of hzi
  clear hWl R0 R1 hK b1 b2 hs1 hmk
  refine rangeFunc_fin rfl (by omega) (gf := 16) (lb := #[.pointer (some ⟨w.heap.size, 0, none⟩), .pointer (some ⟨w.heap.size + 4, 0, none⟩), .pointer (some ⟨w.heap.size + 2, 0, none⟩), .pointer (some ⟨w.heap.size + 1, 0, none⟩)]) rfl trivial (enters_of Try.func16 (by kernel_rfl) rfl)
    (encs := fun p : Int => #[.int .i64 p]) (fun _ => rfl)
    (fun rdy pre X => Prow w (w.heap.size + 5) (w.heap.size + 6) (Wl.heap.size + 1) 24 2 1 (KL w.heap.size (.slice A m cap) (.slice A2 m2 cap2) x 0) rdy pre.length (pre.map (Value.int .i64)) X)
    (fun rdy X => Prow w (w.heap.size + 5) (w.heap.size + 6) (Wl.heap.size + 1) 24 2 1 (KL w.heap.size (.slice A m cap) (.slice A2 m2 cap2) x E) rdy ys.length (ys.map (Value.int .i64)) X)
    (fun _ _ => True) (l.length + 1) (fun _ _ _ h => h.loop) (fun _ _ h => h.loop) ?round ?iter ?done
  case iter =>
    intro rdy hrd HY
    have bd : Below Wl.heap.size Wl ((Wl.alloc (.deferred (some []))).alloc rdy) := (below_alloc _ _).alloc (by simp) _
    have hL : ((Wl.alloc (.deferred (some []))).alloc rdy).heap[Wl.heap.size + 1]? = some rdy := by
      have := World.alloc_heap_new (Wl.alloc (.deferred (some []))) rdy
      rwa [World.size_alloc] at this
    have hD : ((Wl.alloc (.deferred (some []))).alloc rdy).heap[Wl.heap.size]? = some (.deferred (some [])) := (Below.heap_alloc _ _ _ (by simp)).trans (World.alloc_heap_new Wl _)
    refine pens_in _ w.heap.size (w.heap.size + 4) (w.heap.size + 2) (w.heap.size + 1) (w.heap.size + 3) (Wl.heap.size + 1) l rs x (.slice A m cap) (.slice A2 m2 cap2) _ (fun pre X => Prow w (w.heap.size + 5) (w.heap.size + 6) (Wl.heap.size + 1) 24 2 1 (KL w.heap.size (.slice A m cap) (.slice A2 m2 cap2) x 0) rdy pre.length (pre.map (Value.int .i64)) X) _ (by rw [HM.out]; exact hlen) HX.out HA.out ?_ ?_ ?_ ?_ ?_
    · intro pre X Y h b
      exact h.later b
    · intro pre X h
      have k := h.kn
      exact ⟨(k.at_ 0 rfl).cell 0, (k.at_ 4 rfl).cell 0, (k.at_ 2 rfl).cell 0, (k.at_ 1 rfl).cell 0, k.at_ 3 rfl, HL.out.below h.below, HR.out.below h.below⟩
    · intro mm pre p W h hp
      exact (HY mm pre p W h hp).mono fun e W' h => ⟨h.1, h.2.1⟩
    · intro X h
      rw [HYE.out] at h ⊢
      exact h.mod (S := fun k => k = w.heap.size + 3) (Mod.setCell (S := fun k => k = w.heap.size + 3) (Mod.refl _ _) (.inl rfl) _) (by omega) (by omega) (by omega) (fun k hk => by omega) (kl_set h.kn)
    · exact ⟨⟨_, (bd.block _ B0.lt).trans B0, ownE_below own bd⟩, hL, hD, hKl.below bd, bl.trans (bd.mono bl.size), by simp⟩
  case round =>
    intro rdy bsy mm pre p X hr hb hP hN
    obtain ⟨v, hv, hown⟩ := hP.box
    have hLX := hP.size
    gi_wp2_with fail
    refine ⟨hP.loop, ?_⟩
    have hB6 : Boxed (X.putObj (Wl.heap.size + 1) bsy) (w.heap.size + 6) 24 v := (World.putObj_heap_other (by omega)).trans hv
    have own6 : (X.putObj (Wl.heap.size + 1) bsy).ownsRow (w.heap.size + 5) 2 1 v pre.length (pre.map (Value.int .i64)) := hown.kept (grownBy_putObj' X (Wl.heap.size + 1) bsy) (.inr (Ne.symm (ownE_not_obj hP.loop hr hown)))
    have c6 := hB6.cell
    have hs6 : (X.putObj (Wl.heap.size + 1) bsy).heap.size = X.heap.size := by simp [World.putObj]
    have HRO := Lib.hid (fun (w7 : World) (v' : Value) (b6 : Below (X.putObj (Wl.heap.size + 1) bsy).heap.size (X.putObj (Wl.heap.size + 1) bsy) ((X.putObj (Wl.heap.size + 1) bsy).alloc (.cells #[.int .i64 p] 2))) => Prow.round (w7 := w7) (v' := v') (n := pre.length) (cs := [.int .i64 p]) (E := 2) (T := 24) (by decide) (by omega) (by omega) (by omega) (kl_others _ _ _ _ _ _ _ _ _ (by omega) (by omega) (by omega)) hr hb hP hv hown (Below.refl _ _) b6)
    have HOWN6 := Lib.hid own6
    have hpn : pre.length ≤ 1048577 := by have := HM.out; omega
    obtain ⟨np, hnp⟩ : ∃ np, pre.length = np := ⟨_, rfl⟩
    have HNP := Lib.hid hnp
    rw [hnp] at HOWN6 HRO hpn
    obtain ⟨W6, hW6⟩ : ∃ W6, X.putObj (Wl.heap.size + 1) bsy = W6 := ⟨_, rfl⟩
    rw [hW6] at c6 HOWN6 hs6 HRO ⊢
    have HB6 : Hid (w.heap.size + 5 ≤ W6.heap.size) := Lib.hid (by omega)
    have HSZ := Lib.hid hsz
    clear own6 hB6 hv hown hW6 hP hs6 hnp hKl own B0 hsz
    gi_wp2_with (gi_at_builtin; refine Mk.out ?_)
    refine ⟨?_⟩
    refine wpListIn_append_own_at _ rfl _ _ 24 rfl (w.heap.size + 5) 2 i0 z0 1 8 elh64.und hi hz0 hz1 hz2 hzc (by decide) _ np _ rfl (HOWN6.out.alloc (.cells #[.int .i64 p] 2)) ⟨W6.heap.size, 0, none⟩ 1 1 [.int .i64 p] rfl rfl (fun j u hu => (Blk.new W6 2 #[.int .i64 p]).lies j u (by rw [← hu]; simp)) (fun u hu => (by rw [List.mem_singleton.1 hu]; rfl)) (by unfold maxLen; omega) (by omega) (by have := HB6.out; simp; omega) ?_
    intro v' w7 own7 grow7 _ _
    obtain ⟨g', cap', rfl⟩ := ownsRow_succ own7
    have hro := HRO.out w7 _ (below_alloc _ _) own7 grow7
    have c7 := hro.1.cell
    have f7 := hro.1.frozen
    have HRE : Hid _ := Lib.hid hro.2
    clear hro HRO grow7 own7 HOWN6
    gi_wp2
    refine ⟨HRE.out.1, ?_⟩
    rw [HNP.out]
    exact HRE.out.2
  case done =>
    intro rdy exh X hr he hP
    obtain ⟨⟨v, hv, hown⟩, hD9, hk9, b9⟩ := Prow.done (exh := exh) (by omega) (by omega) (kl_others _ _ _ _ _ _ _ _ _ (by omega) (by omega) (by omega)) hr hP
    obtain ⟨X9, hX9⟩ : ∃ X9, X.putObj (Wl.heap.size + 1) exh = X9 := ⟨_, rfl⟩
    rw [hX9] at hv hown hD9 b9 hk9 ⊢
    rw [Nat.add_sub_cancel] at hD9
    have cE : X9.cell? ⟨w.heap.size + 3, 0, none⟩ = some (.int .i64 E) := (hk9.at_ 3 rfl).cell 0
    have cV := hv.cell
    have HOWN := Lib.hid hown
    have HSZ := Lib.hid hsz
    have ga := Lib.hid (grownBy_putObj' X9 Wl.heap.size (.deferred none))
    have b10 := Lib.hid (b9.grown ga.out (by have := b9.size; omega) (fun k e => by injection e with e; omega))
    have HD := Lib.hid hD9
    clear hX9 hP hk9 hv hown hsz hD9
    by_cases h0 : E = 0
    · subst h0
      obtain rfl : ys = yy := HYY.out
      gi_wp2_with fail
      refine ⟨by simp, .inl ⟨_, _, rfl, run_takeDeferred HD.out, ?_⟩⟩
      refine ⟨_, results_tmp2 rfl _ _ _, ⟨v, rfl, ?_, CapV.own HOWN.out⟩, b10.out⟩
      exact RowI.of_own (HOWN.out.kept ga.out (.inr (Ne.symm (ownE_not_obj HD.out rfl HOWN.out))))
    · obtain rfl : [] = yy := by rw [← HYY.out, if_neg h0]
      gi_wp2_with fail
      refine wpIn_wide.2 ?_
      go_quiet (fail)
      gi_wp2_with fail
      refine ⟨by simp, .inl ⟨_, _, rfl, run_takeDeferred (by exact HD.out), ?_⟩⟩
      exact ⟨_, results_tmp2 rfl _ _ _, ⟨_, rfl, RowI.nil_, CapV.is (Nat.le_refl _) (Nat.zero_le _), fun _ => rfl⟩, below_drewN b10.out _⟩
end Go.Proofs.Ytpaaicbgehpdiaa.Ta
