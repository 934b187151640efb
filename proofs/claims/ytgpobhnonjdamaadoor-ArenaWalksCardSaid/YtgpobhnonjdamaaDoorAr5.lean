/- Contracts of arena's Depth, Kids, Context: loops over functions. Conditions: the tree lies in memory as New lays it; the tables lie as the program's text lays them. -/
import Derived.Test.YtgpobhnonjdamaaDoorAr4
import Derived.Test.YtgpobhnonjdamaaDoorYS
import Derived.Maps.AppendAt
namespace Go.Proofs.YtgpobhnonjdamaaDoor
open Go.ChangeShapes Go.WideShapes Go.ChangeAt Go.RowKit Go.Shelf

attribute [local go_sem] Oper.semAt_some

set_option maxRecDepth 100000 in
set_option maxHeartbeats 1000000 in
theorem adepth_no (v : Value) (n : Nat) (k : Int) (w : World) (h : LenIs w v n) (hf : fndE n k ≠ 0) :
    Calls Tryd.prog 12 #[v, .int .i64 k] w fun e w' => e = .returned (.tuple #[.int .i64 0, .int .i64 (fndE n k)]) ∧ w = w' := by
  have C := Lib.hid (afind_any v n k w h)
  obtain ⟨f, hff⟩ : ∃ f, fndE n k = f := ⟨_, rfl⟩
  rw [hff] at C hf ⊢
  clear h hff
  go_enter Tryd.func12, Tryd.ntmps12
  go_wp2_with fail
  refine C.out.mono ?_
  rintro e w2 ⟨rfl, rfl⟩
  go_wp2_with fail
  go_ret2
  exact ⟨rfl, rfl⟩

set_option maxRecDepth 100000 in
set_option maxHeartbeats 2000000 in
theorem adepth_any (v : Value) (l : List Nod) (k : Nat) (w : World) (h : Tr w v l) (hT : Tre (psOf l)) (hk : k < l.length) (hlen : l.length ≤ 1048576) :
    Calls Tryd.prog 12 #[v, .int .i64 (k : Int)] w fun e w' => e = .returned (.tuple #[.int .i64 (dep (psOf l) k : Nat), .int .i64 0]) ∧ Below w.heap.size w w' := by
  have C := Lib.hid (afind_any v l.length k w h.len)
  rw [fndE_in hk] at C
  obtain ⟨g, gn, ge, cn, ce, rfl, hTA⟩ := h
  have hd := dep_le hT k
  have hdl : (ups (psOf l) k).length ≤ 1048576 := by unfold dep at hd; omega
  clear hd
  refine (callsIn_wide (n := 5)).1 ?_
  refine callsIn_of_wp_marks Tryd.func12 rfl trivial ?_ rfl
  simp only [Tryd.ntmps12, List.size_toArray, List.length_cons, List.length_nil, Nat.reduceAdd, Nat.reduceSub, Array.replicate_succ, Array.replicate_zero, List.push_toArray, List.append_toArray, List.nil_append, List.cons_append]
  gi_wp2_with fail
  refine ⟨trivial, (callsIn_wide.2 C.out).mono ?_⟩
  rintro e w1 ⟨rfl, rfl⟩
  gi_wp2_with fail
  refine ⟨trivial, (above_mk _ _ _ _).mono ?_⟩
  rintro e w1 ⟨rfl, rfl⟩
  gi_wp2_with fail
  have hz := Boxed.new w 3 (.int .i64 0)
  have b0 : Below w.heap.size w (((w.alloc (.cells #[.int .i64 0] 3)).alloc (.cells #[.pointer (some ⟨g, 0, none⟩)] 25)).alloc (.cells #[.int .i64 (k : Int)] 3)) := (((Below.refl _ w).alloc (Nat.le_refl _) _).alloc (by simp) _).alloc (by simp; omega) _
  have hTA2 := hTA.below b0
  have q1 := hTA.ht.lt
  have q2 := hTA.hgn
  have q3 := hTA.hge
  have bt := Boxed.new (w.alloc (.cells #[.int .i64 0] 3)) 25 (.pointer (some ⟨g, 0, none⟩))
  have bn := Boxed.new ((w.alloc (.cells #[.int .i64 0] 3)).alloc (.cells #[.pointer (some ⟨g, 0, none⟩)] 25)) 3 (.int .i64 (k : Int))
  simp only [World.size_alloc] at bt bn
  refine wpIn_rangeFunc_ownF rfl (by omega) (gf := 47) (lb := #[.pointer (some ⟨w.heap.size + 1, 0, none⟩), .pointer (some ⟨w.heap.size + 1 + 1, 0, none⟩)]) rfl trivial (enters_of Tryd.func47 (by kernel_rfl) rfl)
    (above_stops _ (w.heap.size + 1) (w.heap.size + 1 + 1) g gn ge cn ce l k _ hT hk (by simp) (by simp) (bt.alloc _).cell bn.cell hTA2) KeepB.trans (KeepB.obj (fun b hb => by simp; rcases hb with rfl | rfl | rfl | rfl | rfl <;> omega)) (Below.refl _ _) (fun _ => rfl)
    (fun pre W => (W.cell? ⟨w.heap.size, 0, none⟩ = some (.int .i64 (pre.length : Nat)) ∧ W.frozen? ⟨w.heap.size, 0, none⟩ = false) ∧ Below w.heap.size w W)
    (fun _ _ _ => False)
    (OwnFrom.and (Own.from (fun s A B row hs hg hr => ⟨cell_kept hs.1 hg hr, (frozen_kept hs.1 hg hr).trans hs.2⟩) _) (ownFrom_below (Nat.le_refl _) (by simp; omega)))
    (fun _ _ _ _ _ hs _ _ => hs)
    ⟨⟨((hz.alloc _).alloc _).cell, ((hz.alloc _).alloc _).frozen⟩, b0⟩
    ?a1 ?assign ?body ?done ?stop
  case assign =>
    intro L x W K hK
    simp only [encM, encN]
    gi_wp2
    exact hK
  case body =>
    rintro L pre x W ⟨⟨hc, hf⟩, hB⟩ hl
    have hpl : pre.length ≤ 1048576 := by omega
    gi_wp2
    exact ⟨KeepsOthers.setCell _ _ _, KeepB.set_ (by intro h; rcases h with h | h | h | h | h <;> omega) _ _, ⟨by rw [List.length_append]; exact World.cell?_setCell_same' _ _ _ (by rw [hc]; rfl), by rw [World.frozen?_setCell]; exact hf⟩, hB.setCell (p := ⟨w.heap.size, 0, none⟩) (Nat.le_refl _) _⟩
  case done =>
    rintro D ys W hD hys ⟨⟨hc, _⟩, hB⟩ hK
    have hlen2 : dep (psOf l) k = ys.length := by
      have := congrArg List.length hys
      rw [List.length_map] at this
      exact this.symm
    gi_wp2
    refine ⟨by simp, .inl ⟨_, _, rfl, run_takeDeferred hK, ?_⟩⟩
    exact ⟨_, results_tmp2 rfl _ _ _, (by rw [hlen2]; rfl), hB.trans (belowK_b (w := w) (Nat.le_refl _) W D _ _ (by simp at hD; omega) hK rfl rfl)⟩
  case stop =>
    rintro D c pre W _ _ h _
    exact h.elim

set_option maxRecDepth 100000 in
set_option maxHeartbeats 1000000 in
theorem akids_no (v : Value) (n : Nat) (k : Int) (w : World) (h : LenIs w v n) (hf : fndE n k ≠ 0) :
    Calls Tryd.prog 14 #[v, .int .i64 k] w fun e w' => e = .returned (.tuple #[.slice none 0 0, .int .i64 (fndE n k)]) ∧ w = w' := by
  have C := Lib.hid (afind_any v n k w h)
  obtain ⟨f, hff⟩ : ∃ f, fndE n k = f := ⟨_, rfl⟩
  rw [hff] at C hf ⊢
  clear h hff
  go_enter Tryd.func14, Tryd.ntmps14
  go_wp2_with fail
  refine C.out.mono ?_
  rintro e w2 ⟨rfl, rfl⟩
  go_wp2_with fail
  go_ret2
  exact ⟨rfl, rfl⟩

theorem ownFrom_size {β : Type} (B c : Nat) : OwnFrom B (fun (_ : β) W => c ≤ W.heap.size) := fun _ _ _ _ hs hg _ => Nat.le_trans hs hg.size
theorem own_ge {w : World} {base : Nat} {e : TypeId} {size : Nat} {v : Value} {n : Nat} {xs : List Value} {k : Nat} (h : w.ownsRow base e size v n xs) (hk : v.ownBlock = some k) : base ≤ k := by
  rcases h.2 with ⟨rfl, _⟩ | ⟨g, cap, cur, rfl, hb, _⟩
  · simp [Value.ownBlock] at hk
  · obtain rfl : g = k := by simpa [Value.ownBlock] using hk
    exact hb
def iv (x : Nat) : Value := .int .i64 (x : Int)
theorem infoI : (Tryd.prog.info? 3).map (fun i => (i.zero, i.size, i.bytes)) = some (some (.int .i64 0), 1, 8) := by kernel_rfl

set_option maxRecDepth 100000 in
set_option maxHeartbeats 2000000 in
theorem akids_any (v : Value) (l : List Nod) (k : Nat) (w : World) (h : Tr w v l) (hT : Tre (psOf l)) (hk : k < l.length) (hlen : l.length ≤ 1048576) :
    Calls Tryd.prog 14 #[v, .int .i64 (k : Int)] w fun e w' => ∃ u, e = .returned (.tuple #[u, .int .i64 0]) ∧ Row (fun _ => False) w' u ((kidsL (psOf l) k).map iv) ∧ Below w.heap.size w w' := by
  have C := Lib.hid (afind_any v l.length k w h.len)
  rw [fndE_in hk] at C
  obtain ⟨g, gn, ge, cn, ce, rfl, hTA⟩ := h
  obtain ⟨i0, hi, hz0, hz1, hz2⟩ := info_agg infoI
  have hdl : (kidsL (psOf l) k).length ≤ 1048576 := by
    exact Nat.le_trans (List.length_filter_le (fun j => decide (pr (psOf l) j = (k : Int))) (List.range (psOf l).length)) (by rw [List.length_range, psOf_len]; exact hlen)
  refine (callsIn_wide (n := 5)).1 ?_
  refine callsIn_of_wp_marks Tryd.func14 rfl trivial ?_ rfl
  simp only [Tryd.ntmps14, List.size_toArray, List.length_cons, List.length_nil, Nat.reduceAdd, Nat.reduceSub, Array.replicate_succ, Array.replicate_zero, List.push_toArray, List.append_toArray, List.nil_append, List.cons_append]
  gi_wp2_with fail
  refine ⟨trivial, (callsIn_wide.2 C.out).mono ?_⟩
  rintro e w1 ⟨rfl, rfl⟩
  gi_wp2_with fail
  refine ⟨trivial, (kids_mk _ _ _ _).mono ?_⟩
  rintro e w1 ⟨rfl, rfl⟩
  gi_wp2_with fail
  have hz := Boxed.new w 42 (.slice none 0 0)
  have b0 : Below w.heap.size w (((w.alloc (.cells #[.slice none 0 0] 42)).alloc (.cells #[.pointer (some ⟨g, 0, none⟩)] 25)).alloc (.cells #[.int .i64 (k : Int)] 3)) := (((Below.refl _ w).alloc (Nat.le_refl _) _).alloc (by simp) _).alloc (by simp; omega) _
  have hTA2 := hTA.below b0
  have q1 := hTA.ht.lt
  have q2 := hTA.hgn
  have q3 := hTA.hge
  have bt := Boxed.new (w.alloc (.cells #[.slice none 0 0] 42)) 25 (.pointer (some ⟨g, 0, none⟩))
  have bn := Boxed.new ((w.alloc (.cells #[.slice none 0 0] 42)).alloc (.cells #[.pointer (some ⟨g, 0, none⟩)] 25)) 3 (.int .i64 (k : Int))
  simp only [World.size_alloc] at bt bn
  refine wpIn_rangeFunc_ownF rfl (by omega) (gf := 48) (lb := #[.pointer (some ⟨w.heap.size + 1 + 1, 0, none⟩), .pointer (some ⟨w.heap.size + 1, 0, none⟩)]) rfl trivial (enters_of Tryd.func48 (by kernel_rfl) rfl)
    (kids_stops _ (w.heap.size + 1) (w.heap.size + 1 + 1) g gn ge cn ce l k _ hT hk hlen (by simp) (by simp) (bt.alloc _).cell bn.cell hTA2) KeepB.trans (KeepB.obj (fun b hb => by simp; rcases hb with rfl | rfl | rfl | rfl | rfl <;> omega)) (Below.refl _ _) (fun _ => rfl)
    (fun pre W => (∃ v, Boxed W w.heap.size 42 v ∧ W.ownsRow (w.heap.size + 3) 3 1 v pre.length (pre.map fun x => iv x.1) ∧ True) ∧ (Below w.heap.size w W ∧ w.heap.size + 3 ≤ W.heap.size))
    (fun _ _ _ => False)
    (OwnFrom.and (Own.from (holdsRow_own (w.heap.size + 3) w.heap.size 42 3 1 (fun pre : List {x // x ∈ kidsL (psOf l) k} => pre.length) (fun pre => pre.map fun x => iv x.1) (fun _ _ => True)) _) (OwnFrom.and (ownFrom_below (Nat.le_refl _) (by simp; omega)) (ownFrom_size _ _)))
    (fun _ _ _ _ _ hs _ _ => hs)
    ⟨⟨_, (hz.alloc _).alloc _, World.ownsRow_nil _ _ _ _, trivial⟩, b0, by simp⟩
    ?a1 ?assign ?body ?done ?stop
  case assign =>
    intro L x W K hK
    simp only [encM, encN]
    gi_wp2
    exact hK
  case body =>
    rintro L pre x W ⟨⟨v, hv, hrow, _⟩, hB, hle⟩ hl
    have hc := hv.cell
    have hml : pre.length ≤ 1048576 := by omega
    gi_wp2_with (gi_at_builtin; refine wpListIn_append_own _ rfl _ _ 42 rfl (w.heap.size + 3) 3 i0 (.int .i64 0) 1 8 Tryd.underlying42 hi hz0 hz1 hz2 rfl (by decide) _ _ _ rfl (hrow.alloc _) ⟨W.heap.size, 0, none⟩ 1 1 [iv x.1] rfl rfl (cell_one_new _ _ _) (by simp [iv, Value.oneCell']) (by unfold maxLen; omega) (by omega) (by simp; omega) ?_; intro v' w3 hown' hgrow _; obtain ⟨g', cap', rfl⟩ := ownsRow_succ hown'; obtain ⟨hv1, hv2, hr2, hk2, hb2⟩ := appended2 hv (by omega) hrow hown' hgrow; have hc1 := hv1.cell; have hf1 := hv1.frozen)
    refine ⟨hk2, fun b hb => hb2.block b (by rcases hb with rfl | rfl | rfl | rfl | rfl <;> omega) ?_, ⟨_, hv2, ?_, trivial⟩, hB.trans (hb2.below hB.size fun b hb => ?_), Nat.le_trans hle hb2.size⟩
    · rintro (rfl | hown)
      · rcases hb with h | h | h | h | h <;> omega
      · have := own_ge hrow hown
        rcases hb with h | h | h | h | h <;> omega
    · rw [List.length_append, List.map_append]
      exact hr2
    · rcases hb with rfl | hown
      · exact Nat.le_refl _
      · have := own_ge hrow hown
        omega
  case done =>
    rintro D ys W hD hys ⟨⟨v, hv, hrow, _⟩, hB, _⟩ hK
    have hc := hv.cell
    gi_wp2
    refine ⟨by simp, .inl ⟨_, _, rfl, run_takeDeferred hK, ?_⟩⟩
    refine ⟨_, results_tmp2 rfl _ _ _, v, rfl, ?_, hB.trans (belowK_b (w := w) (Nat.le_refl _) W D _ _ (by simp at hD; omega) hK rfl rfl)⟩
    have hr := ownsRow_putObj hrow (.deferred none) hK rfl
    have hr2 := (Row.of_own hr).mono (T := fun _ => False) fun _ _ h => h.elim
    rw [← hys, List.map_map]
    exact hr2
  case stop =>
    rintro D c pre W _ _ h _
    exact h.elim

set_option maxRecDepth 100000 in
set_option maxHeartbeats 1000000 in
theorem actx_no (v : Value) (n : Nat) (k : Int) (w : World) (h : LenIs w v n) (hp : ∃ p, v = .pointer p) (hf : fndE n k ≠ 0) :
    Calls Tryd.prog 15 #[v, .int .i64 k] w fun e w' => e = .returned (.tuple #[.int .i64 0, .int .i64 (fndE n k)]) ∧ Below w.heap.size w w' := by
  have C : Hid (∀ W, Below w.heap.size w W → Calls Tryd.prog 36 #[v, .int .i64 k] W fun e w' => e = .returned (.int .i64 (fndE n k)) ∧ W = w') := fun W hW => afind_any v n k W (h.below hW)
  obtain ⟨p, rfl⟩ := hp
  obtain ⟨f, hff⟩ : ∃ f, fndE n k = f := ⟨_, rfl⟩
  rw [hff] at C hf ⊢
  clear h hff
  go_enter Tryd.func15, Tryd.ntmps15
  go_wp2_with fail
  have b1 : Below w.heap.size w (((w.alloc (.cells #[.pointer p] 25)).alloc (.cells #[.int .i64 0] 3)).alloc (.cells #[.int .i64 0] 26)) := (((Below.refl _ w).alloc (Nat.le_refl _) _).alloc (by simp) _).alloc (by simp; omega) _
  refine (C.out _ b1).mono ?_
  rintro e w2 ⟨rfl, rfl⟩
  go_wp2_with fail
  refine ⟨rfl, _, by simp [results, Tryd.f15, go_sem], rfl, (((Below.refl _ w).alloc (Nat.le_refl _) _).alloc (by simp) _).alloc (by simp; omega) _⟩

theorem kindAt_of {l : List Nod} {i : Nat} {x : Nod} (h : l[i]? = some x) : kindAt l (i : Int) = x.k := by
  unfold kindAt
  rw [List.getD_eq_getElem?_getD, Int.toNat_natCast, h]
  rfl
theorem ctxF_hit {l : List Nod} {us pre : List Nat} {u : Nat} (h : pre ++ [u] <+: us) (hp : ∀ x ∈ pre, tb tLines (kindAt l (x : Int)) = false) (hu : tb tLines (kindAt l (u : Int)) = true) : ctxF l us = u := by
  obtain ⟨r, rfl⟩ := h
  unfold ctxF
  rw [List.append_assoc, List.find?_append, List.find?_eq_none.2 (fun x hx => by simp [hp x hx])]
  simp [hu]

set_option maxRecDepth 100000 in
set_option maxHeartbeats 4000000 in
theorem actx_any (v : Value) (l : List Nod) (k : Nat) (w : World) (h : Tr w v l) (hT : Tre (psOf l)) (hk : k < l.length) (hTab : Tab w) (hk8 : ∀ (i : Nat) (x : Nod), l[i]? = some x → 0 ≤ x.k ∧ x.k ≤ 8) (hroot : kindAt l 0 = 0) :
    Calls Tryd.prog 15 #[v, .int .i64 (k : Int)] w fun e w' => e = .returned (.tuple #[.int .i64 (ctx l k : Nat), .int .i64 0]) ∧ Below w.heap.size w w' := by
  have C : Hid (∀ W, Below w.heap.size w W → Calls Tryd.prog 36 #[v, .int .i64 (k : Int)] W fun e w' => e = .returned (.int .i64 0) ∧ W = w') := fun W hW => by
    have := afind_any v l.length k W (h.len.below hW)
    rwa [fndE_in hk] at this
  obtain ⟨g, gn, ge, cn, ce, rfl, hTA⟩ := h
  have hTp := hTab.pos
  refine (callsIn_wide (n := 5)).1 ?_
  refine callsIn_of_wp_marks Tryd.func15 rfl trivial ?_ rfl
  simp only [Tryd.ntmps15, List.size_toArray, List.length_cons, List.length_nil, Nat.reduceAdd, Nat.reduceSub, Array.replicate_succ, Array.replicate_zero, List.push_toArray, List.append_toArray, List.nil_append, List.cons_append]
  gi_wp2_with fail
  have b1 : Below w.heap.size w (((w.alloc (.cells #[.pointer (some ⟨g, 0, none⟩)] 25)).alloc (.cells #[.int .i64 0] 3)).alloc (.cells #[.int .i64 0] 26)) := (((Below.refl _ w).alloc (Nat.le_refl _) _).alloc (by simp) _).alloc (by simp; omega) _
  refine ⟨trivial, (callsIn_wide.2 (C.out _ b1)).mono ?_⟩
  rintro e w1 ⟨rfl, rfl⟩
  gi_wp2_with fail
  refine ⟨trivial, (above_mk _ _ _ _).mono ?_⟩
  rintro e w1 ⟨rfl, rfl⟩
  gi_wp2_with fail
  have x0 := Boxed.new w 25 (.pointer (some ⟨g, 0, none⟩))
  have x1 := Boxed.new (w.alloc (.cells #[.pointer (some ⟨g, 0, none⟩)] 25)) 3 (.int .i64 0)
  have x2 := Boxed.new ((w.alloc (.cells #[.pointer (some ⟨g, 0, none⟩)] 25)).alloc (.cells #[.int .i64 0] 3)) 26 (.int .i64 0)
  simp only [World.size_alloc] at x1 x2
  have y0 := (x0.alloc (.cells #[.int .i64 0] 3)).alloc (.cells #[.int .i64 0] 26)
  have y1 := x1.alloc (.cells #[.int .i64 0] 26)
  have hsz3 : (((w.alloc (.cells #[.pointer (some ⟨g, 0, none⟩)] 25)).alloc (.cells #[.int .i64 0] 3)).alloc (.cells #[.int .i64 0] 26)).heap.size = w.heap.size + 3 := by simp
  obtain ⟨W3, hW3⟩ : ∃ W3, ((w.alloc (.cells #[.pointer (some ⟨g, 0, none⟩)] 25)).alloc (.cells #[.int .i64 0] 3)).alloc (.cells #[.int .i64 0] 26) = W3 := ⟨_, rfl⟩
  rw [hW3] at b1 y0 y1 x2 hsz3 ⊢
  have b2 : Below w.heap.size w ((W3.alloc (.cells #[.pointer (some ⟨g, 0, none⟩)] 25)).alloc (.cells #[.int .i64 (k : Int)] 3)) := (b1.alloc (by omega) _).alloc (by simp; omega) _
  have bt := Boxed.new W3 25 (.pointer (some ⟨g, 0, none⟩))
  have bn := Boxed.new (W3.alloc (.cells #[.pointer (some ⟨g, 0, none⟩)] 25)) 3 (.int .i64 (k : Int))
  simp only [World.size_alloc] at bt bn
  have q1 := hTA.ht.lt
  have q2 := hTA.hgn
  have q3 := hTA.hge
  rw [hsz3] at bt bn
  clear x0 x1 hW3
  refine wpIn_rangeFunc_ownF rfl (by omega) (gf := 47) (lb := #[.pointer (some ⟨w.heap.size + 3, 0, none⟩), .pointer (some ⟨w.heap.size + 3 + 1, 0, none⟩)]) rfl trivial (enters_of Tryd.func47 (by kernel_rfl) rfl)
    (above_stops _ (w.heap.size + 3) (w.heap.size + 3 + 1) g gn ge cn ce l k _ hT hk (by simp; omega) (by simp; omega) (bt.alloc _).cell bn.cell (hTA.below b2)) KeepB.trans (KeepB.obj (fun b hb => by simp; rcases hb with rfl | rfl | rfl | rfl | rfl <;> omega)) (Below.refl _ _) (fun _ => rfl)
    (fun pre W => ((∀ u ∈ pre, tb tLines (kindAt l (u.1 : Int)) = false) ∧ Boxed W w.heap.size 25 (.pointer (some ⟨g, 0, none⟩)) ∧ Boxed W (w.heap.size + 1) 3 (.int .i64 0) ∧ Boxed W (w.heap.size + 1 + 1) 26 (.int .i64 0)) ∧ Below w.heap.size w W)
    (fun c pre W => (c = .ret ∧ ∃ pre' u, pre = pre' ++ [u] ∧ (∀ u ∈ pre', tb tLines (kindAt l (u.1 : Int)) = false) ∧ tb tLines (kindAt l (u.1 : Int)) = true ∧ Boxed W (w.heap.size + 1) 3 (.int .i64 (u.1 : Int)) ∧ Boxed W (w.heap.size + 1 + 1) 26 (.int .i64 0)) ∧ Below w.heap.size w W)
    (OwnFrom.and (Own.from (fun s A B row hs hg hr => ⟨hs.1, boxed_own _ _ (fun _ => _) s A B row hs.2.1 hg hr, boxed_own _ _ (fun _ => _) s A B row hs.2.2.1 hg hr, boxed_own _ _ (fun _ => _) s A B row hs.2.2.2 hg hr⟩) _) (ownFrom_below (Nat.le_refl _) (by simp; omega)))
    (fun c => OwnFrom.and (Own.from (fun s A B row hs hg hr => by
      obtain ⟨h1, p', u, h2, h3, h4, h5, h6⟩ := hs
      exact ⟨h1, p', u, h2, h3, h4, boxed_own _ _ (fun _ => _) s A B row h5 hg hr, boxed_own _ _ (fun _ => _) s A B row h6 hg hr⟩) _) (ownFrom_below (Nat.le_refl _) (by simp; omega)))
    ⟨⟨fun _ h => (by cases h), (y0.alloc _).alloc _, (y1.alloc _).alloc _, (x2.alloc _).alloc _⟩, b2⟩
    ?a1 ?assign ?body ?done ?stop
  case assign =>
    intro L x W K hK
    simp only [encM, encN]
    gi_wp2
    exact hK
  case body =>
    rintro L pre x W ⟨⟨ha, z0, z1, z2⟩, hB⟩ _
    have hTA3 := hTA.below hB
    have hTab3 := hTab.below hTp hB
    obtain ⟨xi, hxi⟩ := x
    have hxl := (ups_lt hT k xi hxi).2
    rw [psOf_len] at hxl
    obtain ⟨y, hy⟩ := at_of hxl
    have hck := (hTA3.hn xi y hy).k
    obtain ⟨k0, k8⟩ := hk8 xi y hy
    obtain ⟨kk, hkk⟩ : ∃ kk : Nat, y.k = kk := ⟨y.k.toNat, by omega⟩
    rw [hkk] at hck k8
    have hkk8 : kk ≤ 8 := by omega
    have hct := hTab3.lines.cell rfl hkk8
    have hka : kindAt l (xi : Int) = (kk : Int) := by rw [kindAt_of hy, hkk]
    have c0 := hTA3.c0
    have cz := z0.cell
    obtain ⟨m, hm⟩ : ∃ m, l.length = m := ⟨_, rfl⟩
    rw [hm] at c0 hxl
    have hz : (xi : Int) < m := by omega
    have hs3 := hB.size
    clear hTA3 hTab3 hy hkk hm
    have c1 := z1.cell
    have c2 := z2.cell
    have f1 := z1.frozen
    have f2 := z2.frozen
    cases hb : tb tLines (kk : Int)
    · rw [hb] at hct
      gi_wp2
      exact ⟨KeepsOthers.refl _, KeepB.refl _ _, ⟨fun u hu => by
        rcases List.mem_append.1 hu with hu | hu
        · exact ha u hu
        · rw [List.mem_singleton] at hu
          rw [hu]
          show tb tLines (kindAt l (xi : Int)) = false
          rw [hka]
          exact hb, z0, z1, z2⟩, hB⟩
    · rw [hb] at hct
      gi_wp2
      exact ⟨(KeepsOthers.setCell _ _ _).trans (KeepsOthers.setCell _ _ _), ⟨rfl, pre, ⟨xi, hxi⟩, rfl, ha, by show tb tLines (kindAt l (xi : Int)) = true; rw [hka]; exact hb, (z1.set _).other (by omega) _, (z2.other (by omega) _).set _⟩, (hB.setCell (p := ⟨w.heap.size + 1, 0, none⟩) (by simp) _).setCell (p := ⟨w.heap.size + 1 + 1, 0, none⟩) (by simp; omega) _⟩
  case done =>
    rintro D ys W hD hys ⟨⟨ha, z0, z1, z2⟩, hB⟩ hK
    have hk0 : k = 0 := by
      rcases Nat.eq_zero_or_pos k with e | e
      · exact e
      · have := ups_has_root hT k (by rw [psOf_len]; exact hk) e
        rw [← hys] at this
        obtain ⟨u, hu, hu0⟩ := List.mem_map.1 this
        have h2 := ha u hu
        rw [hu0] at h2
        rw [show ((0 : Nat) : Int) = 0 from rfl, hroot] at h2
        cases h2
    subst hk0
    have hc0 : ctx l 0 = 0 := by
      unfold ctx
      rw [ups_root (by rw [hT.root]; omega)]
      rfl
    have c1 := z1.cell
    have c2 := z2.cell
    have f1 := z1.frozen
    have f2 := z2.frozen
    gi_wp2
    have hK' := ((KeepsOthers.setCell W ⟨w.heap.size + 1, 0, none⟩ (.int .i64 0)).trans (KeepsOthers.setCell _ ⟨w.heap.size + 1 + 1, 0, none⟩ (.int .i64 0))).same D _ hK rfl
    have hB' : Below w.heap.size w ((W.setCell ⟨w.heap.size + 1, 0, none⟩ (.int .i64 0)).setCell ⟨w.heap.size + 1 + 1, 0, none⟩ (.int .i64 0)) := (hB.setCell (p := ⟨w.heap.size + 1, 0, none⟩) (by simp) _).setCell (p := ⟨w.heap.size + 1 + 1, 0, none⟩) (by simp; omega) _
    refine ⟨by simp, .inl ⟨_, _, rfl, run_takeDeferred hK', ?_⟩⟩
    have e1 := cell_kept ((z1.set (.int .i64 0)).other (B' := w.heap.size + 1 + 1) (by omega) (.int .i64 0)).cell (grownBy_putObj' _ D (.deferred none)) (fun r e => by cases e; exact ⟨_, hK', rfl⟩)
    have e2 := cell_kept ((z2.other (B' := w.heap.size + 1) (by omega) (.int .i64 0)).set (.int .i64 0)).cell (grownBy_putObj' _ D (.deferred none)) (fun r e => by cases e; exact ⟨_, hK', rfl⟩)
    refine ⟨.tuple #[.int .i64 0, .int .i64 0], ?_, by rw [hc0]; rfl, hB'.trans (belowK_b (w := w) (Nat.le_refl _) _ D _ _ (by simp at hD; omega) hK' rfl rfl)⟩
    simp [results, Tryd.f15, go_sem, e1, e2]
  case stop =>
    rintro D c pre W hD hpre ⟨⟨rfl, pre', u, rfl, h3, h4, z1, z2⟩, hB⟩ hK
    rw [List.map_append] at hpre
    have hcx : ctx l k = u.1 := ctxF_hit hpre (fun x hx => by obtain ⟨y, hy, rfl⟩ := List.mem_map.1 hx; exact h3 y hy) h4
    have c1 := z1.cell
    have c2 := z2.cell
    gi_wp2
    refine ⟨by simp, .inl ⟨_, _, rfl, run_takeDeferred hK, ?_⟩⟩
    have e1 := cell_kept c1 (grownBy_putObj' _ D (.deferred none)) (fun r e => by cases e; exact ⟨_, hK, rfl⟩)
    have e2 := cell_kept c2 (grownBy_putObj' _ D (.deferred none)) (fun r e => by cases e; exact ⟨_, hK, rfl⟩)
    refine ⟨.tuple #[.int .i64 (u.1 : Int), .int .i64 0], ?_, by rw [hcx], hB.trans (belowK_b (w := w) (Nat.le_refl _) W D _ _ (by simp at hD; omega) hK rfl rfl)⟩
    simp [results, Tryd.f15, go_sem, e1, e2]
end Go.Proofs.YtgpobhnonjdamaaDoor
