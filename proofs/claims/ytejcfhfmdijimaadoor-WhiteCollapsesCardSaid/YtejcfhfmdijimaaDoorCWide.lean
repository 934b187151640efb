/- Contract of class.Wide. Condition: the package's table of wide ranges lies in memory as the program's text lays it. -/
import Derived.Test.YtejcfhfmdijimaaDoorCMath
import Derived.Test.YtejcfhfmdijimaaDoorCSearch
namespace Go.Proofs.YtejcfhfmdijimaaDoor
open Go.ChangeShapes Go.WideShapes Go.ChangeAt Go.RowKit

/-- the table's cells -/
def wcells : Array Value := (wrows.flatMap fun x => [Value.int .i32 x.1, Value.int .i32 x.2]).toArray
/-- the table lies in its block -/
def Tab (w : World) : Prop := ∃ t fz, w.heap[0]? = some (.cells wcells t fz)
theorem Tab.pos {w : World} (h : Tab w) : 0 < w.heap.size := by
  obtain ⟨t, fz, h⟩ := h
  exact (Array.getElem?_eq_some_iff.1 h).1
theorem Tab.below {w w' : World} (h : Tab w) (b : Below w.heap.size w w') : Tab w' := by
  have hp := h.pos
  obtain ⟨t, fz, h⟩ := h
  exact ⟨t, fz, (b.block 0 hp).trans h⟩
theorem Tab.alloc {w : World} (h : Tab w) (o : Obj) : Tab (w.alloc o) := h.below (below_alloc w o)
theorem Tab.drew {w : World} (h : Tab w) : Tab w.drew := h
theorem Tab.drewN {w : World} (h : Tab w) (n : Nat) : Tab (w.drewN n) := h

theorem flat2 (f g : Int × Int → Value) : ∀ (l : List (Int × Int)) (i : Nat) (x : Int × Int), l[i]? = some x →
    (l.flatMap fun x => [f x, g x])[i * 2]? = some (f x) ∧ (l.flatMap fun x => [f x, g x])[i * 2 + 1]? = some (g x)
  | [], i, x, hx => by simp at hx
  | y :: t, 0, x, hx => by
    simp at hx
    subst hx
    simp
  | y :: t, i + 1, x, hx => by
    simp at hx
    have ih := flat2 f g t i x hx
    refine ⟨?_, ?_⟩
    · rw [show (i + 1) * 2 = i * 2 + 2 by omega]; simpa using ih.1
    · rw [show (i + 1) * 2 + 1 = i * 2 + 1 + 2 by omega]; simpa using ih.2
theorem Tab.cells {w : World} (h : Tab w) {i : Nat} {x : Int × Int} (hx : wrows[i]? = some x) :
    w.cell? ⟨0, i * 2, none⟩ = some (.int .i32 x.1) ∧ w.cell? ⟨0, i * 2 + 1, none⟩ = some (.int .i32 x.2) := by
  obtain ⟨t, fz, h⟩ := h
  have c := flat2 (fun x => .int .i32 x.1) (fun x => .int .i32 x.2) wrows i x hx
  have e : ∀ j, w.cell? ⟨0, j, none⟩ = wcells[j]? := fun j => cell_of_row w 0 j wcells t fz h
  rw [e, e]
  unfold wcells
  simpa using c

set_option maxRecDepth 100000 in
set_option maxHeartbeats 1000000 in
theorem wcl_any (i pr : Nat) (r : Int) (x : Int × Int) (w : World) (hi : i < 11) (hx : wrows[i]? = some x) (hr : w.cell? ⟨pr, 0, none⟩ = some (.int .i32 r)) (hT : Tab w) :
    Calls Tryd.prog 75 #[.int .i64 i, .pointer (some ⟨pr, 0, none⟩)] w fun e w' => e = .returned (.bool (decide (r ≤ x.2))) ∧ Below w.heap.size w w' := by
  obtain ⟨_, hc⟩ := hT.cells hx
  obtain ⟨y, hy⟩ : ∃ y, x.2 = y := ⟨_, rfl⟩
  rw [hy] at hc ⊢
  clear hx hT hy
  have hiz : (i : Int) < 11 := by omega
  go_enter Tryd.func75, Tryd.ntmps75
  go_wp2
  go_quiet (fail)
  go_wp2
  go_ret
  exact ⟨retb (by simp), below_drewN (Below.refl _ _) _⟩

def askW (r : Int) (i : Nat) : Bool := match wrows[i]? with
  | some x => decide (r ≤ x.2)
  | none => true
theorem askW_some {r : Int} {i : Nat} {x : Int × Int} (h : wrows[i]? = some x) : askW r i = decide (r ≤ x.2) := by unfold askW; rw [h]
theorem wrows_len : wrows.length = 11 := by decide +kernel
theorem wrows_at (i : Nat) (h : i < 11) : ∃ x, wrows[i]? = some x := ⟨wrows[i]'(by rw [wrows_len]; exact h), List.getElem?_eq_getElem _⟩
theorem wrows_up : (List.range 11).all (fun a => (List.range 11).all fun b => !decide (a ≤ b) || match wrows[a]?, wrows[b]? with
  | some x, some y => decide (x.2 ≤ y.2)
  | _, _ => false) = true := by decide +kernel
theorem askW_mono (r : Int) (a b : Nat) (hab : a ≤ b) (hb : b < 11) (h : askW r a = true) : askW r b = true := by
  obtain ⟨x, hx⟩ := wrows_at a (by omega)
  obtain ⟨y, hy⟩ := wrows_at b hb
  rw [askW_some hx] at h
  rw [askW_some hy]
  have := List.all_eq_true.1 (List.all_eq_true.1 wrows_up a (by simp; omega)) b (by simp; omega)
  rw [hx, hy] at this
  simp [hab] at this h ⊢
  omega
theorem wfound_of {r : Int} {k : Nat} (hk : k ≤ 11) (h : (∀ j, j < k → askW r j = false) ∧ (k < 11 → askW r k = true)) : WFound r k := by
  refine ⟨by rw [wrows_len]; exact hk, fun j x hj hx => ?_, fun x hx => ?_⟩
  · have := h.1 j hj
    rw [askW_some hx] at this
    simpa using this
  · have hl := (List.getElem?_eq_some_iff.1 hx).1
    rw [wrows_len] at hl
    have := h.2 hl
    rw [askW_some hx] at this
    simpa using this

theorem entersW : ∀ args w, (callFunc 75 args).run Tryd.prog w = .ok (.enter 75 args) w := enters_of Tryd.func75 (by kernel_rfl) rfl

set_option maxRecDepth 100000 in
set_option maxHeartbeats 2000000 in
theorem cwide_is (r : Int) (w : World) (hT : Tab w) (b : Bool) (hb : wideB r = b) :
    Calls Tryd.prog 69 #[.int .i32 r] w fun e w' => e = .returned (.bool b) ∧ Below w.heap.size w w' := by
  have S : Hid (Calls Tryd.prog 74 #[.int .i64 (11 : Nat), .func (.func 75) #[] #[.pointer (some ⟨w.heap.size, 0, none⟩)]] (w.alloc (.cells #[.int .i32 r] 21)) fun e w' => ∃ k : Nat, e = .returned (.int .i64 k) ∧ k ≤ 11 ∧ Hid ((∀ j, j < k → askW r j = false) ∧ (k < 11 → askW r k = true)) ∧ Below (w.alloc (.cells #[.int .i32 r] 21)).heap.size (w.alloc (.cells #[.int .i32 r] 21)) w') := by
    refine search_any _ _ 11 (askW r) _ (by omega) entersW (fun W i hW hi => ?_) (askW_mono r)
    obtain ⟨x, hx⟩ := wrows_at i hi
    rw [askW_some hx]
    exact wcl_any i w.heap.size r x W hi hx (below_cell1 hW (by simp) (cell_new1 _ _ _)) ((hT.alloc _).below hW)
  have HT := Lib.hid hT
  clear hT
  go_enter Tryd.func69, Tryd.ntmps69
  go_wp2_with fail
  refine S.out.mono ?_
  rintro e w1 ⟨k, rfl, hk, F, b1⟩
  have h1 : w1.cell? ⟨w.heap.size, 0, none⟩ = some (.int .i32 r) := below_cell1 b1 (by simp) (cell_new1 _ _ _)
  have h3 := (HT.out.alloc (.cells #[.int .i32 r] 21)).below b1
  have hbel := below_seq (below_alloc _ _) b1
  have HE := Lib.hid ((wide_found r k (wfound_of hk F.out)).trans hb)
  clear b1 S F hb
  by_cases hlt : k < 11
  · obtain ⟨x, hx⟩ := wrows_at k hlt
    obtain ⟨c1, _⟩ := h3.cells hx
    have HC : Hid (decide (x.1 ≤ r) = b) := by
      have := HE.out
      unfold wideAt at this
      rw [hx] at this
      exact this
    obtain ⟨a, ha⟩ : ∃ a, x.1 = a := ⟨_, rfl⟩
    rw [ha] at c1
    rw [ha] at HC
    clear hx ha h3 HE
    have hkz : (k : Int) < 11 := by omega
    go_wp2_with fail
    go_quiet (fail)
    go_wp2_with fail
    go_ret
    exact ⟨retb (by rw [← HC.out]), below_drewN hbel _⟩
  · have hkn : k = 11 := by omega
    have HC : Hid (false = b) := by
      have := HE.out
      unfold wideAt at this
      rw [List.getElem?_eq_none (by rw [wrows_len]; omega)] at this
      exact this
    subst hkn
    clear hk h3 HE
    go_wp2_with fail
    go_quiet (fail)
    go_wp2_with fail
    go_ret
    exact ⟨retb (by rw [← HC.out]), below_drewN hbel _⟩
end Go.Proofs.YtejcfhfmdijimaaDoor
