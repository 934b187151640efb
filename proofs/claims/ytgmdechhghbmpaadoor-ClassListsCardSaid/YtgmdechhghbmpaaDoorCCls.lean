/- Contracts of package class's search: the closures, (*table).class, Of, Mark. No condition. -/
import Derived.Test.YtgmdechhghbmpaaDoorCRows
import Derived.Test.YtgmdechhghbmpaaDoorCSearch
namespace Go.Proofs.YtgmdechhghbmpaaDoor
open Go.ChangeShapes Go.WideShapes Go.ChangeAt Go.RowKit

theorem flat3 (f g h : CRow → Value) : ∀ (l : List CRow) (i : Nat) (x : CRow), l[i]? = some x →
    (l.flatMap fun x => [f x, g x, h x])[i * 3]? = some (f x) ∧ (l.flatMap fun x => [f x, g x, h x])[i * 3 + 1]? = some (g x) ∧ (l.flatMap fun x => [f x, g x, h x])[i * 3 + 2]? = some (h x)
  | [], i, x, hx => by simp at hx
  | y :: t, 0, x, hx => by
    simp at hx
    subst hx
    simp
  | y :: t, i + 1, x, hx => by
    simp at hx
    have ih := flat3 f g h t i x hx
    have e : ∀ k, k < 3 → (i + 1) * 3 + k = i * 3 + k + 3 := fun k _ => by omega
    refine ⟨?_, ?_, ?_⟩
    · rw [show (i + 1) * 3 = i * 3 + 3 by omega]; simpa using ih.1
    · rw [e 1 (by omega)]; simpa using ih.2.1
    · rw [e 2 (by omega)]; simpa using ih.2.2

/-- the table lies in block g -/
def TabAt (w : World) (g : Nat) : Prop := Blk w g 34 tcells
theorem TabAt.cells {w : World} {g : Nat} (h : TabAt w g) {i : Nat} {x : CRow} (hx : crows[i]? = some x) :
    w.cell? ⟨g, i * 3, none⟩ = some (.int .i32 x.1) ∧ w.cell? ⟨g, i * 3 + 1, none⟩ = some (.int .i32 x.2.1) ∧ w.cell? ⟨g, i * 3 + 2, none⟩ = some (.int .u8 x.2.2) := by
  have c := flat3 (fun x => .int .i32 x.1) (fun x => .int .i32 x.2.1) (fun x => .int .u8 x.2.2) crows i x hx
  have e : ∀ j, w.cell? ⟨g, j, none⟩ = tcells[j]? := fun j => Blk.cell h j
  rw [e, e, e]
  unfold tcells
  simpa using c
theorem TabAt.below {w w' : World} {g : Nat} (h : TabAt w g) (b : Below w.heap.size w w') : TabAt w' g := Blk.keep (S := fun _ => False) h (Mod.of_below b) id

set_option maxRecDepth 100000 in
set_option maxHeartbeats 1000000 in
theorem ccl_any (i pr pt g : Nat) (r : Int) (x : CRow) (w : World) (hi : i < 188) (hx : crows[i]? = some x) (hr : w.cell? ⟨pr, 0, none⟩ = some (.int .i32 r)) (ht : w.cell? ⟨pt, 0, none⟩ = some (.pointer (some ⟨g, 0, none⟩))) (hT : TabAt w g) :
    Calls Tryd.prog 24 #[.int .i64 i, .pointer (some ⟨pr, 0, none⟩), .pointer (some ⟨pt, 0, none⟩)] w fun e w' => e = .returned (.bool (decide (r ≤ x.2.1))) ∧ Below w.heap.size w w' := by
  obtain ⟨_, hc, _⟩ := hT.cells hx
  obtain ⟨y, hy⟩ : ∃ y, x.2.1 = y := ⟨_, rfl⟩
  rw [hy] at hc ⊢
  clear hx hT hy
  have hiz : (i : Int) < 188 := by omega
  go_enter Tryd.func24, Tryd.ntmps24
  go_wp2
  go_quiet (fail)
  go_wp2
  go_ret
  exact ⟨retb (by simp), below_drewN (Below.refl _ _) _⟩

/-- what the search asks of a place -/
def askB (r : Int) (i : Nat) : Bool := match crows[i]? with
  | some x => decide (r ≤ x.2.1)
  | none => true
theorem ask_some {r : Int} {i : Nat} {x : CRow} (h : crows[i]? = some x) : askB r i = decide (r ≤ x.2.1) := by unfold askB; rw [h]
theorem crows_at (i : Nat) (h : i < 188) : ∃ x, crows[i]? = some x := ⟨crows[i]'(by rw [crows_len]; exact h), List.getElem?_eq_getElem _⟩
theorem ord_lt : ∀ (l : List CRow), ordB l = true → ∀ (a b : Nat) (x y : CRow), a < b → l[a]? = some x → l[b]? = some y → x.2.1 < y.1
  | [], _, a, b, x, y, _, hx, _ => by simp at hx
  | z :: t, ho, a, b, x, y, hab, hx, hy => by
    obtain ⟨hz, ht⟩ := ordB_cons ho
    cases b with
    | zero => omega
    | succ b =>
      simp at hy
      cases a with
      | zero =>
        simp at hx
        subst hx
        exact hz y (List.mem_of_getElem? hy)
      | succ a =>
        simp at hx
        exact ord_lt t ht a b x y (by omega) hx hy
theorem ask_mono (r : Int) (a b : Nat) (hab : a ≤ b) (hb : b < 188) (h : askB r a = true) : askB r b = true := by
  obtain ⟨x, hx⟩ := crows_at a (by omega)
  obtain ⟨y, hy⟩ := crows_at b hb
  rw [ask_some hx] at h
  rw [ask_some hy]
  simp at h ⊢
  by_cases e : a = b
  · subst e
    rw [hx] at hy
    cases hy
    exact h
  · have h1 := ord_lt crows crows_ord a b x y (by omega) hx hy
    have h2 := List.all_eq_true.1 crows_le y (List.mem_of_getElem? hy)
    simp at h2
    omega
theorem found_of {r : Int} {k : Nat} (hk : k ≤ 188) (h : (∀ j, j < k → askB r j = false) ∧ (k < 188 → askB r k = true)) : Found crows r k := by
  refine ⟨by rw [crows_len]; exact hk, fun j x hj hx => ?_, fun x hx => ?_⟩
  · have := h.1 j hj
    rw [ask_some hx] at this
    simpa using this
  · have hl := (List.getElem?_eq_some_iff.1 hx).1
    rw [crows_len] at hl
    have := h.2 hl
    rw [ask_some hx] at this
    simpa using this

theorem enters24 : ∀ args w, (callFunc 24 args).run Tryd.prog w = .ok (.enter 24 args) w := enters_of Tryd.func24 (by kernel_rfl) rfl

/-- the world in which the search is called: two boxes -/
def boxed (w : World) (g : Nat) (r : Int) : World := (w.alloc (.cells #[.pointer (some ⟨g, 0, none⟩)] 46)).alloc (.cells #[.int .i32 r] 21)
theorem boxed_facts {w W : World} {g : Nat} {r : Int} (hT : TabAt w g) (hW : Below (boxed w g r).heap.size (boxed w g r) W) :
    W.cell? ⟨w.heap.size + 1, 0, none⟩ = some (.int .i32 r) ∧ W.cell? ⟨w.heap.size, 0, none⟩ = some (.pointer (some ⟨g, 0, none⟩)) ∧ TabAt W g ∧ Below w.heap.size w W := by
  have b1 := below_alloc w (.cells #[.pointer (some ⟨g, 0, none⟩)] 46)
  have b2 := below_alloc (w.alloc (.cells #[.pointer (some ⟨g, 0, none⟩)] 46)) (.cells #[.int .i32 r] 21)
  have c1 := cell_new1 w (.pointer (some ⟨g, 0, none⟩)) 46
  have c2 := cell_new1 (w.alloc (.cells #[.pointer (some ⟨g, 0, none⟩)] 46)) (.int .i32 r) 21
  have s1 : (w.alloc (.cells #[.pointer (some ⟨g, 0, none⟩)] 46)).heap.size = w.heap.size + 1 := by simp
  have s2 : (boxed w g r).heap.size = w.heap.size + 2 := by simp [boxed]
  rw [s1] at c2
  refine ⟨below_cell1 hW (by omega) c2, below_cell1 hW (by omega) (below_cell1 b2 (by omega) c1), ((hT.below b1).below b2).below hW, below_seq b1 (below_seq b2 hW)⟩

set_option maxRecDepth 100000 in
set_option maxHeartbeats 2000000 in
theorem cclass_any (g : Nat) (r : Int) (w : World) (hT : TabAt w g) :
    Calls Tryd.prog 18 #[.pointer (some ⟨g, 0, none⟩), .int .i32 r] w fun e w' => e = .returned (.int .u8 (clsOf r)) ∧ Below w.heap.size w w' := by
  have S : Hid (Calls Tryd.prog 20 #[.int .i64 (188 : Nat), .func (.func 24) #[] #[.pointer (some ⟨w.heap.size + 1, 0, none⟩), .pointer (some ⟨w.heap.size, 0, none⟩)]] (boxed w g r) fun e w' => ∃ k : Nat, e = .returned (.int .i64 k) ∧ k ≤ 188 ∧ Hid ((∀ j, j < k → askB r j = false) ∧ (k < 188 → askB r k = true)) ∧ Below (boxed w g r).heap.size (boxed w g r) w') := by
    refine search_any _ _ 188 (askB r) _ (by omega) enters24 (fun W i hW hi => ?_) (ask_mono r)
    obtain ⟨x, hx⟩ := crows_at i hi
    rw [ask_some hx]
    obtain ⟨h1, h2, h3, _⟩ := boxed_facts hT hW
    exact ccl_any i (w.heap.size + 1) w.heap.size g r x W hi hx h1 h2 h3
  have HT := Lib.hid hT
  clear hT
  go_enter Tryd.func18, Tryd.ntmps18
  go_wp2_with fail
  refine S.out.mono ?_
  rintro e w1 ⟨k, rfl, hk, F, b1⟩
  obtain ⟨h1, h2, h3, hb⟩ := boxed_facts HT.out b1
  have HE := Lib.hid (cls_found r k (found_of hk F.out))
  clear b1 S F
  by_cases hlt : k < 188
  · obtain ⟨x, hx⟩ := crows_at k hlt
    obtain ⟨c1, _, c3⟩ := h3.cells hx
    have HC : Hid ((if x.1 ≤ r then x.2.2 else 0) = clsOf r) := by
      have := HE.out
      unfold clsAt at this
      rw [hx] at this
      exact this
    obtain ⟨a, ha⟩ : ∃ a, x.1 = a := ⟨_, rfl⟩
    obtain ⟨c, hc⟩ : ∃ c, x.2.2 = c := ⟨_, rfl⟩
    rw [ha] at c1
    rw [hc] at c3
    rw [ha, hc] at HC
    clear hx ha hc h3 HE
    have hkz : (k : Int) < 188 := by omega
    by_cases hle : a ≤ r
    · go_wp2_with fail
      go_quiet (fail)
      go_wp2_with fail
      go_ret
      exact ⟨ret1 (by rw [← HC.out, if_pos (by omega)]), below_drewN hb _⟩
    · have hd : decide (a ≤ r) = false := by simpa using hle
      go_wp2_with fail
      go_quiet (fail)
      go_wp2_with fail
      go_ret
      exact ⟨ret1 (by rw [← HC.out, if_neg (by omega)]), below_drewN hb _⟩
  · have hkn : k = 188 := by omega
    have HC : Hid (0 = clsOf r) := by
      have := HE.out
      unfold clsAt at this
      rw [List.getElem?_eq_none (by rw [crows_len]; omega)] at this
      exact this
    subst hkn
    clear hk h3 HE
    go_wp2_with fail
    go_quiet (fail)
    go_wp2_with fail
    go_ret
    exact ⟨ret1 (by rw [← HC.out]), below_drewN hb _⟩
end Go.Proofs.YtgmdechhghbmpaaDoor
