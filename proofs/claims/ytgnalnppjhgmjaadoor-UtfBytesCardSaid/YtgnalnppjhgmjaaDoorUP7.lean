/- Contract of package utf's Decode: the characters of a text, in a row of the call's own. Conditions: the text has at most 100000 bytes; the table lies in memory as the program's text lays it. -/
import Derived.Test.YtgnalnppjhgmjaaDoorUP6
namespace Go.Proofs.YtgnalnppjhgmjaaDoor
open Go.ChangeShapes Go.WideShapes Go.ChangeAt Go.RowKit Go.Shelf

attribute [local go_sem] Oper.semAt_some

def Itm.ch (x : Itm) : Ch := ⟨x.r, 0, x.at_, x.n, 0⟩
theorem its_chs (s : ByteArray) : (its 0 (bs s)).map Itm.ch = chs 0 (Utf.decs (bs s)) := (its_says _ 0 (bs s) (Nat.le_refl _)).2.2

theorem cells_own {β : Type} (B : Nat) (o : Obj) (ho : o.isCells = true) : Go.Own (fun (_ : β) W => W.heap[B]? = some o) := fun _ X Y row hs hg hrow => by
  refine (hg.block B (Array.getElem?_eq_some_iff.1 hs).1 (fun e => ?_)).trans hs
  obtain ⟨o', ho', hc⟩ := hrow B e.symm
  rw [hs] at ho'
  cases ho'
  rw [ho] at hc
  cases hc

theorem one_cells (x : Itm) : ∀ u ∈ (Itm.ch x).cells, u.oneCell' = true := by
  intro u hu
  simp [Itm.ch, Ch.cells] at hu
  rcases hu with h | h | h | h | h <;> subst h <;> rfl

theorem below_grown {w w' : World} (h : w.grownBy w' none) : Below w.heap.size w w' := ⟨h.os, h.tape, h.output, h.size, fun k hk => h.block k hk (by simp)⟩

set_option maxRecDepth 100000 in
set_option maxHeartbeats 4000000 in
theorem udecode_any (s : ByteArray) (w : World) (hT : Tab w) (hs : s.size ≤ 100000) :
    Calls Tryd.prog 10 #[.string s] w fun e w' => ∃ v, e = .returned v ∧ Below w.heap.size w w' ∧ Own w' w.heap.size v (chs 0 (Utf.decs (bs s))) := by
  rw [← its_chs]
  have hlen : (its 0 (bs s)).length ≤ 100000 := by
    rw [its_len]
    have := Utf.decs_length (bs s)
    rw [bs_len] at this
    omega
  have hpos := hT.pos
  obtain ⟨i0, hi, hz0, hz1, hz2⟩ := info_parts Tryd.infoC
  have C := Lib.hid (ucount_any s w hT hs)
  rw [← its_len] at C
  obtain ⟨N, hN⟩ : ∃ N, (its 0 (bs s)).length = N := ⟨_, rfl⟩
  rw [hN] at C hlen
  have HN := Lib.hid hN
  clear hN
  refine (callsIn_wide (n := 5)).1 ?_
  refine callsIn_of_wp_marks Tryd.func10 rfl trivial ?_ rfl
  simp only [Tryd.ntmps10, List.size_toArray, List.length_cons, List.length_nil, Nat.reduceAdd, Nat.reduceSub, Array.replicate_succ, Array.replicate_zero, List.push_toArray, List.append_toArray, List.nil_append, List.cons_append]
  gi_wp2_with fail
  refine ⟨trivial, (callsIn_wide.2 C.out).mono ?_⟩
  rintro e w1 ⟨rfl, b1⟩
  gi_wp2_with (gi_at_make; refine wpListIn_make_own w1 rfl _ _ 23 rfl w.heap.size 32 i0 (.agg #[.int .i32 0, .int .i64 0, .int .i64 0, .int .i64 0, .int .u8 0]) 5 Tryd.underlying23 hi hz0 hz1 .i64 .i64 N N rfl rfl rfl (by rw [hz2]; omega) (by unfold maxLen; omega) b1.size ?_; intro w2 own2 hg2)
  refine ⟨trivial, (characters_in _ _ _).mono ?_⟩
  rintro e w' ⟨rfl, rfl⟩
  gi_wp2_with fail
  obtain ⟨sv, hsv⟩ : ∃ sv, Value.slice (some ⟨w1.heap.size, 0, none⟩) 0 N = sv := ⟨_, rfl⟩
  have b2 : Below w.heap.size w w2 := below_seq b1 (below_grown hg2)
  have bL := (Boxed.new w2 23 sv).alloc (.cells #[.string s] 9)
  have bS := Boxed.new (w2.alloc (.cells #[sv] 23)) 9 (.string s)
  simp only [World.size_alloc] at bS
  have hB0 : Below w.heap.size w ((w2.alloc (.cells #[sv] 23)).alloc (.cells #[.string s] 9)) := below_seq b2 (((Below.refl _ w2).alloc (Nat.le_refl _) _).alloc (by simp) _)
  have hsz : ((w2.alloc (.cells #[sv] 23)).alloc (.cells #[.string s] 9)).heap.size = w2.heap.size + 2 := by simp
  have hT0 := hT.below hB0
  rw [hsv] at own2
  have own0 := (own2.alloc (.cells #[sv] 23)).alloc (.cells #[.string s] 9)
  obtain ⟨W0, hW0⟩ : ∃ W0, (w2.alloc (.cells #[sv] 23)).alloc (.cells #[.string s] 9) = W0 := ⟨_, rfl⟩
  rw [hW0] at bL bS hB0 hsz hT0 own0
  have hle := b2.size
  obtain ⟨B, hB⟩ : ∃ B, w2.heap.size = B := ⟨_, rfl⟩
  rw [hB] at bL bS hsz hle
  rw [hsv, hW0, hB]
  clear hW0 own2 hg2 b2 b1 hsv hB C hT
  refine wpIn_rangeFunc_ownH rfl (by omega) (gf := 25) (lb := #[.pointer (some ⟨B + 1, 0, none⟩)]) rfl trivial (enters_of Tryd.func25 (by kernel_rfl) rfl)
    (chars_stops _ (by omega) (B + 1) s hs W0 (by omega) bS.cell hT0) keeps_t (keeps_b (by omega)) (Below.refl _ _) (fun _ => rfl)
    (fun pre W => ((∃ v, Boxed W B 23 v ∧ W.ownsRow w.heap.size 32 5 v (pre.map Itm.ch).length ((pre.map Itm.ch).flatMap Ch.cells) ∧ True) ∧ Boxed W (B + 1) 9 (.string s)) ∧ Below w.heap.size w W)
    (fun _ _ _ => False)
    (OwnFrom.and (OwnFrom.and (Own.from (holdsRow_own w.heap.size B 23 32 5 (fun pre : List Itm => (pre.map Itm.ch).length) (fun pre : List Itm => (pre.map Itm.ch).flatMap Ch.cells) (fun _ _ => True)) _) (Own.from (boxed_own _ _ _) _)) (ownFrom_below (Nat.le_refl _) (by omega)))
    (fun _ _ _ _ _ hs _ _ => hs)
    ⟨⟨⟨_, bL, own0, trivial⟩, bS⟩, hB0⟩
    (fun x a' W => ∃ Bx, B + 1 < Bx ∧ W.heap[Bx]? = some (.cells #[.int .i32 x.r, .int .i64 0, .int .i64 x.at_, .int .i64 x.n, .int .u8 0] 32) ∧
      a' = { tmps := #[.string s, undef, .slice none 0 0, .pointer (some ⟨B, 0, none⟩), .pointer (some ⟨Bx, 0, none⟩), .string s, .int .i64 N, sv, .string s, .func (.func 25) #[] #[.pointer (some ⟨B + 1, 0, none⟩)], .agg #[.int .i32 x.r, .int .i64 0, .int .i64 x.at_, .int .i64 x.n, .int .u8 0], .bool x.good, undef, undef, undef, undef, undef], defers := [] })
    (fun x a' s A C row ⟨Bx, h1, h2, h3⟩ hg hr => ⟨Bx, h1, (Own.from (cells_own (β := Unit) Bx _ rfl) _) s A C row h2 hg hr, h3⟩)
    ?assign ?body ?done ?stop
  case assign =>
    rintro l pre x W K ⟨⟨⟨v, hv, hrow, _⟩, hS⟩, hB⟩ hK
    simp only [Itm.vals]
    gi_wp2
    exact hK _ _ ((KeepsOthers.alloc _ _).from _) ⟨(below_alloc W _).block 0 (by have := hB.size; omega), (below_alloc W _).block (B + 1) hS.lt⟩ ⟨⟨⟨v, hv.alloc _, hrow.alloc _, trivial⟩, hS.alloc _⟩, hB.trans ((below_alloc W _).mono hB.size)⟩ ⟨W.heap.size, hS.lt, heap_alloc_new W _, rfl⟩
  case body =>
    rintro l pre x a' W hl hr ⟨⟨⟨v, hv, hrow, _⟩, hS⟩, hB⟩ ⟨Bx, hBx, hX, rfl⟩ hlt
    rw [HN.out] at hlt
    have hc := hv.cell
    have k0 : W.cell? ⟨Bx, 0, none⟩ = some (.int .i32 x.r) := cell_of_row _ _ 0 _ _ _ hX
    have k1 : W.cell? ⟨Bx, 1, none⟩ = some (.int .i64 0) := cell_of_row _ _ 1 _ _ _ hX
    have k2 : W.cell? ⟨Bx, 2, none⟩ = some (.int .i64 x.at_) := cell_of_row _ _ 2 _ _ _ hX
    have k3 : W.cell? ⟨Bx, 3, none⟩ = some (.int .i64 x.n) := cell_of_row _ _ 3 _ _ _ hX
    have k4 : W.cell? ⟨Bx, 4, none⟩ = some (.int .u8 0) := cell_of_row _ _ 4 _ _ _ hX
    have hml : (pre.map Itm.ch).length ≤ 100000 := by rw [List.length_map]; omega
    clear hX hr
    gi_wp2_with (gi_at_builtin; refine wpListIn_append_own _ rfl _ _ 23 rfl w.heap.size 32 i0 (.agg #[.int .i32 0, .int .i64 0, .int .i64 0, .int .i64 0, .int .u8 0]) 5 40 Tryd.underlying23 hi hz0 hz1 hz2 rfl (by decide) _ _ _ rfl (hrow.alloc _) ⟨W.heap.size, 0, none⟩ 1 1 (Itm.ch x).cells rfl rfl (World.news_of_block (MapKept.heap_alloc W _).1) (one_cells x) (by unfold maxLen; omega) (by omega) (by have := hB.size; simp; omega) ?_; intro v' w3 hown' hgrow _; obtain ⟨g', cap', rfl⟩ := ownsRow_succ hown'; obtain ⟨hv1, hv2, hr2, hk2, hb2⟩ := hv.appended (by decide) hrow hB.size hle hown' hgrow; have hc1 := hv1.cell; have hf1 := hv1.frozen)
    have hS3 := ((hS.alloc _).kept hgrow (hS.not_row (by decide) hrow)).other (B' := B) (by omega) (.slice (some ⟨g', 0, none⟩) ((pre.map Itm.ch).length + 1) cap')
    have hK2 : Keeps (B + 1) W (w3.setCell ⟨B, 0, none⟩ (.slice (some ⟨g', 0, none⟩) ((pre.map Itm.ch).length + 1) cap')) := ⟨hb2.block 0 hpos, (show _ = _ from hS3).trans (show _ = _ from hS).symm⟩
    have he : (pre ++ [x]).map Itm.ch = pre.map Itm.ch ++ [Itm.ch x] := by simp
    rw [← List.length_map (f := Itm.ch)]
    refine ⟨hk2.from _, hK2, ⟨⟨_, hv2, ?_, trivial⟩, hS3⟩, hB.trans hb2⟩
    rw [he, List.length_append, List.flatMap_append]
    simpa using hr2
  case done =>
    rintro D ys W hD rfl ⟨⟨⟨v, hv, hrow, _⟩, hS⟩, hB⟩ hK
    have hc := hv.cell
    gi_wp2
    refine ⟨by simp, .inl ⟨_, _, rfl, run_takeDeferred hK, ?_⟩⟩
    exact ⟨_, results_tmp rfl _ _ _, v, rfl, hB.trans (belowK_b (w := w) (Nat.le_refl _) W D _ _ (by have := hB0.size; omega) hK rfl rfl), ownsRow_putObj hrow _ hK rfl⟩
  case stop =>
    rintro D c pre W _ _ h _
    exact h.elim
end Go.Proofs.YtgnalnppjhgmjaaDoor
