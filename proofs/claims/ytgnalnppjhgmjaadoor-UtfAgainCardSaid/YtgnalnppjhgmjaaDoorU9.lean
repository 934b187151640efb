/- Lists of characters in rows of a call's own, and the document's helper Same on them (layer 2). -/
import Derived.Test.YtgnalnppjhgmjaaDoorU8
namespace Go.Proofs.YtgnalnppjhgmjaaDoor
open Go.ChangeShapes Go.WideShapes Go.ChangeAt Go.RowKit

/-- the characters at their places -/
def chs : Nat → List (Int × Nat) → List Ch
  | _, [] => []
  | k, (r, n) :: t => ⟨r, 0, k, n, 0⟩ :: chs (k + n) t

theorem chs_len : ∀ (l : List (Int × Nat)) (k : Nat), (chs k l).length = l.length
  | [], _ => rfl
  | (r, n) :: t, k => by simp [chs, chs_len t (k + n)]

theorem ats_chs : ∀ (l : List (Int × Nat)) (k : Nat), ats k l = (chs k l).flatMap Ch.cells
  | [], _ => rfl
  | (r, n) :: t, k => by
    rw [ats, chs, List.flatMap_cons, ats_chs t (k + n)]
    rfl

theorem flat_get : ∀ (l : List Ch) (i j : Nat) (h : i < l.length), j < 5 → (l.flatMap Ch.cells)[i * 5 + j]? = (l[i].cells)[j]?
  | [], i, j, h, _ => by simp at h
  | c :: t, 0, j, _, hj => by
    rw [List.flatMap_cons, List.getElem?_append_left (by simp [Ch.cells]; omega)]
    simp
  | c :: t, i + 1, j, h, hj => by
    have hc : c.cells.length = 5 := rfl
    rw [List.flatMap_cons, List.getElem?_append_right (by rw [hc]; omega), hc, show (i + 1) * 5 + j - 5 = i * 5 + j by omega, flat_get t i j (by simpa using h) hj]
    simp

theorem Utf.decs_length (l : List Nat) : (Utf.decs l).length ≤ l.length := by
  suffices H : ∀ n (l : List Nat), l.length ≤ n → (Utf.decs l).length ≤ l.length from H l.length l (Nat.le_refl _)
  intro n
  induction n with
  | zero =>
    intro l hl
    have : l = [] := List.length_eq_zero_iff.1 (by omega)
    subst this
    simp [Utf.decs]
  | succ n ih =>
    intro l hl
    cases l with
    | nil => simp [Utf.decs]
    | cons c r =>
      have hb := Utf.size_bd c r
      have h2 := ih ((c :: r).drop (Utf.size (c :: r))) (by rw [List.length_drop]; omega)
      rw [Utf.decs, List.length_cons]
      rw [List.length_drop] at h2
      omega

/-- a row of characters -/
def Own (w : World) (base : Nat) (v : Value) (l : List Ch) : Prop := w.ownsRow base 32 5 v l.length (l.flatMap Ch.cells)

theorem Own.nil (w : World) (base : Nat) : Own w base (.slice none 0 0) [] := World.ownsRow_nil _ _ _ _

theorem Own.form {w : World} {base : Nat} {v : Value} {l : List Ch} (h : Own w base v l) : ∃ A c, v = .slice A l.length c := by
  rcases h.2 with ⟨rfl, h0⟩ | ⟨g, cap, cur, rfl, _⟩
  · exact ⟨none, 0, by rw [h0]⟩
  · exact ⟨_, _, rfl⟩

theorem Own.form1 {w : World} {base : Nat} {v : Value} {l : List Ch} (h : Own w base v l) (hl : 0 < l.length) : ∃ g c, v = .slice (some ⟨g, 0, none⟩) l.length c ∧ base ≤ g ∧ g < w.heap.size ∧ ∀ i (hi : i < l.length), w.cell? ⟨g, 0 + i * 5, none⟩ = some (.int .i32 l[i].r) ∧ w.cell? ⟨g, 0 + i * 5 + 1, none⟩ = some (.int .i64 l[i].node) ∧ w.cell? ⟨g, 0 + i * 5 + 2, none⟩ = some (.int .i64 l[i].at_) ∧ w.cell? ⟨g, 0 + i * 5 + 3, none⟩ = some (.int .i64 l[i].n) ∧ w.cell? ⟨g, 0 + i * 5 + 4, none⟩ = some (.int .u8 l[i].kind) := by
  obtain ⟨g, c, rfl, hb, hg⟩ := World.ownsRow.form h hl
  refine ⟨g, c, rfl, hb, hg, fun i hi => ?_⟩
  have H : ∀ j (u : Value), j < 5 → (l[i].cells)[j]? = some u → w.cell? ⟨g, 0 + i * 5 + j, none⟩ = some u := by
    intro j u hj hu
    have := World.ownsRow.cells h (g := g) rfl (i * 5 + j) u (by rw [flat_get l i j hi hj]; exact hu)
    rw [add_plain] at this
    rw [Nat.zero_add]
    simpa using this
  exact ⟨H 0 _ (by omega) rfl, H 1 _ (by omega) rfl, H 2 _ (by omega) rfl, H 3 _ (by omega) rfl, H 4 _ (by omega) rfl⟩

theorem Own.kept {w w' : World} {base : Nat} {v : Value} {l : List Ch} (h : Own w base v l) (hb : Below w.heap.size w w') : Own w' base v l := by
  refine ⟨h.1, ?_⟩
  rcases h.2 with hn | ⟨g, cap, cur, rfl, h1, hg, rest⟩
  · exact .inl hn
  · refine .inr ⟨g, cap, cur, rfl, h1, ?_, rest⟩
    rw [hb.block g (Array.getElem?_eq_some_iff.1 hg).1]
    exact hg

theorem Own.drawn {w w' : World} {base : Nat} {v : Value} {l : List Ch} (h : Own w base v l) (d : Drawn w w') : Own w' base v l := by
  obtain ⟨n, rfl⟩ := d
  exact h

theorem Own.lit (w : World) (l : List Ch) (n : Nat) (hn : l.length = n) (hm : n ≤ 1000) (cs : Array Value) (hc : cs.toList = l.flatMap Ch.cells) : Own (w.alloc (.cells cs 32)) w.heap.size (.slice (some ⟨w.heap.size, 0, none⟩) n n) l := by
  subst hn
  have hlen : ∀ l : List Ch, (l.flatMap Ch.cells).length = l.length * 5 := by
    intro l
    induction l with
    | nil => rfl
    | cons c t ih => rw [List.flatMap_cons, List.length_append, ih, List.length_cons, show c.cells.length = 5 from rfl]; omega
  have hs : cs.size = l.length * 5 := by rw [← hlen, ← hc, Array.length_toList]
  refine ⟨hlen l, .inr ⟨w.heap.size, l.length, cs, rfl, Nat.le_refl _, (MapKept.heap_alloc w _).1, Nat.le_refl _, by unfold maxLen; omega, hs, ?_⟩⟩
  rw [hc, List.take_of_length_le (by rw [hlen]; omega)]

set_option maxRecDepth 100000 in
set_option maxHeartbeats 1000000 in
theorem same_zero (A B : Option Addr) (c d : Nat) (w : World) :
    Calls Tryd.prog 11 #[.slice A 0 c, .slice B 0 d] w fun e w' => e = .returned (.bool true) ∧ Drawn w w' := by
  go_enter Tryd.func11, Tryd.ntmps11
  go_wp2_with fail
  refine wp_loop_rounds 1 ?_
  rw [rounds_succ]
  go_wp2_with fail
  go_ret
  exact ⟨rfl, Drawn.refl _⟩

theorem same_own {w : World} {b1 b2 : Nat} {v1 v2 : Value} {l m : List Ch} (h1 : Own w b1 v1 l) (h2 : Own w b2 v2 m) (hn : l.length ≤ 100000) :
    Calls Tryd.prog 11 #[v1, v2] w fun e w' => e = .returned (.bool (decide (l = m))) ∧ Drawn w w' := by
  by_cases he : l.length = m.length
  · rcases Nat.eq_zero_or_pos l.length with h0 | h0
    · obtain ⟨A, c, rfl⟩ := h1.form
      obtain ⟨B, d, rfl⟩ := h2.form
      have e1 : l = [] := List.length_eq_zero_iff.1 h0
      have e2 : m = [] := List.length_eq_zero_iff.1 (by omega)
      subst e1; subst e2
      exact same_zero A B c d w
    · obtain ⟨g1, c, rfl, _, _, R1⟩ := h1.form1 h0
      obtain ⟨g2, d, rfl, _, _, R2⟩ := h2.form1 (by omega)
      rw [← he]
      exact same_any g1 0 g2 0 l m l.length c d w rfl he.symm hn R1 R2
  · obtain ⟨A, c, rfl⟩ := h1.form
    obtain ⟨B, d, rfl⟩ := h2.form
    rw [decide_eq_false (show ¬ l = m from fun e => he (by rw [e]))]
    exact same_len A B _ _ c d w he

theorem same_eq {w : World} {b1 b2 : Nat} {v1 v2 : Value} {l : List Ch} (h1 : Own w b1 v1 l) (h2 : Own w b2 v2 l) (hn : l.length ≤ 100000) :
    Calls Tryd.prog 11 #[v1, v2] w fun e w' => e = .returned (.bool true) ∧ Drawn w w' := by
  have h := same_own h1 h2 hn
  rw [decide_eq_true (show l = l from rfl)] at h
  exact h
theorem below_alloc (w : World) (o : Obj) : Below w.heap.size w (w.alloc o) := (Below.refl _ _).alloc (Nat.le_refl _) _
theorem Own.alloc {w : World} {base : Nat} {v : Value} {l : List Ch} (h : Own w base v l) (o : Obj) : Own (w.alloc o) base v l := h.kept (below_alloc w o)
theorem below_seq {a b c : World} (h : Below a.heap.size a b) (k : Below b.heap.size b c) : Below a.heap.size a c := h.trans (k.mono h.size)
theorem below_drawn {a b : World} (d : Drawn a b) : Below a.heap.size a b := drawn_below (Below.refl _ _) d

theorem chs_r : ∀ (l : List (Int × Nat)) (k i : Nat) (h : i < l.length), ((chs k l)[i]'(by rw [chs_len]; exact h)).r = l[i].1
  | [], _, _, h => by simp at h
  | (r, n) :: t, k, 0, _ => by simp [chs]
  | (r, n) :: t, k, i + 1, h => by
    have := chs_r t (k + n) i (by simpa using h)
    simpa [chs] using this

/-- where the numbers of a row of characters lie -/
theorem Own.rs {w : World} {base : Nat} {v : Value} {l : List (Int × Nat)} (h : Own w base v (chs 0 l)) (hl : 0 < l.length) : ∃ g c, v = .slice (some ⟨g, 0, none⟩) l.length c ∧ g < w.heap.size ∧ ∀ i (hi : i < l.length), w.cell? ⟨g, i * 5, none⟩ = some (.int .i32 l[i].1) := by
  obtain ⟨g, c, e, _, hg, H⟩ := h.form1 (by rw [chs_len]; exact hl)
  rw [chs_len] at e
  refine ⟨g, c, e, hg, fun i hi => ?_⟩
  have := (H i (by rw [chs_len]; exact hi)).1
  rw [chs_r l 0 i hi, Nat.zero_add] at this
  exact this
end Go.Proofs.YtgnalnppjhgmjaaDoor
