/- Contracts of the document's answers for layer 4 (package stickfulref04): in, Wide, Of, Many. No condition. -/
import Derived.Test.YtnoenccpbbkdeaaCRows
namespace Go.Proofs.Ytnoenccpbbkdeaa
open Go.ChangeShapes Go.WideShapes Go.ChangeAt Go.RowKit

/-- the truth of one range -/
def inW (r : Int) (x : Int × Int) : Bool := decide (x.1 ≤ r) && decide (r ≤ x.2)
theorem wideB_eq (r : Int) : wideB r = (inW r (4352, 4447) || (inW r (11904, 12350) || (inW r (12353, 42191) || (inW r (44032, 55203) || (inW r (63744, 64255) || (inW r (65072, 65103) || (inW r (65281, 65376) || (inW r (65504, 65510) || (inW r (127744, 128591) || (inW r (129280, 129535) || (inW r (131072, 262141)))))))))))) := by
  unfold wideB wrows inW
  simp only [List.any_cons, List.any_nil, Bool.or_false]

/-! ### Of, Many -/
theorem flat3r (f g h : CRow → Value) : ∀ (l : List CRow) (i : Nat) (x : CRow), l[i]? = some x →
    (l.flatMap fun x => [f x, g x, h x])[i * 3]? = some (f x) ∧ (l.flatMap fun x => [f x, g x, h x])[i * 3 + 1]? = some (g x) ∧ (l.flatMap fun x => [f x, g x, h x])[i * 3 + 2]? = some (h x)
  | [], i, x, hx => by simp at hx
  | y :: t, 0, x, hx => by
    simp at hx
    subst hx
    simp
  | y :: t, i + 1, x, hx => by
    simp at hx
    have ih := flat3r f g h t i x hx
    have e : ∀ k, k < 3 → (i + 1) * 3 + k = i * 3 + k + 3 := fun k _ => by omega
    refine ⟨?_, ?_, ?_⟩
    · rw [show (i + 1) * 3 = i * 3 + 3 by omega]; simpa using ih.1
    · rw [e 1 (by omega)]; simpa using ih.2.1
    · rw [e 2 (by omega)]; simpa using ih.2.2
theorem rrows_at (i : Nat) (h : i < 188) : ∃ x, rrows[i]? = some x := ⟨rrows[i]'(by rw [rrows_len]; exact h), List.getElem?_eq_getElem _⟩
theorem rcells_at (w : World) {i : Nat} {x : CRow} (hx : rrows[i]? = some x) :
    (w.alloc (.cells rcells 82)).cell? ⟨w.heap.size, i * 3, none⟩ = some (.int .i32 x.1) ∧ (w.alloc (.cells rcells 82)).cell? ⟨w.heap.size, i * 3 + 1, none⟩ = some (.int .i32 x.2.1) ∧ (w.alloc (.cells rcells 82)).cell? ⟨w.heap.size, i * 3 + 2, none⟩ = some (.int .i32 x.2.2) := by
  have c := flat3r (fun x => .int .i32 x.1) (fun x => .int .i32 x.2.1) (fun x => .int .i32 x.2.2) rrows i x hx
  have e : ∀ j, (w.alloc (.cells rcells 82)).cell? ⟨w.heap.size, j, none⟩ = rcells[j]? := fun j => World.cell?_alloc_new w rcells 82 j
  rw [e, e, e]
  unfold rcells
  simpa using c
theorem refOf_drop (r : Int) (k : Nat) (x : CRow) (hx : rrows[k]? = some x) : refOf (rrows.drop k) r = if x.1 ≤ r ∧ r ≤ x.2.1 then x.2.2 else refOf (rrows.drop (k + 1)) r := by
  obtain ⟨h, e⟩ := List.getElem?_eq_some_iff.1 hx
  rw [List.drop_eq_getElem_cons h, e]
  rfl
theorem many_take (r : Int) (k : Nat) (x : CRow) (hx : rrows[k]? = some x) : many (rrows.take (k + 1)) r = many (rrows.take k) r + if x.1 ≤ r ∧ r ≤ x.2.1 then 1 else 0 := by
  obtain ⟨h, e⟩ := List.getElem?_eq_some_iff.1 hx
  rw [List.take_succ_eq_append_getElem h, e]
  unfold many
  rw [List.countP_append, List.countP_singleton]
  by_cases hh : x.1 ≤ r ∧ r ≤ x.2.1
  · rw [if_pos hh, if_pos ((hit_iff r x).2 hh)]
  · rw [if_neg hh, if_neg (fun h => hh ((hit_iff r x).1 h))]

set_option maxRecDepth 100000 in
set_option maxHeartbeats 2000000 in
theorem rof_any (r : Int) (w : World) :
    Calls Try.prog 28 #[.int .i32 r] w fun e w' => e = .returned (.int .u8 (clsOf r)) ∧ Below w.heap.size w w' := by
  have HR : Hid (refOf (rrows.drop 0) r = clsOf r) := by show _ = _; rw [List.drop_zero]; rfl
  obtain ⟨Q, hQ⟩ : ∃ Q, clsOf r = Q := ⟨_, rfl⟩
  rw [hQ] at HR ⊢
  clear hQ
  have HC : Hid (∀ i x, rrows[i]? = some x → (w.alloc (.cells rcells 82)).cell? ⟨w.heap.size, i * 3, none⟩ = some (.int .i32 x.1) ∧ (w.alloc (.cells rcells 82)).cell? ⟨w.heap.size, i * 3 + 1, none⟩ = some (.int .i32 x.2.1) ∧ (w.alloc (.cells rcells 82)).cell? ⟨w.heap.size, i * 3 + 2, none⟩ = some (.int .i32 x.2.2)) := fun i x hx => rcells_at w hx
  have HB : Hid (Below w.heap.size w (w.alloc (.cells rcells 82))) := below_alloc w _
  go_enter Try.func28, Try.ntmps28
  go_wp2_with fail
  refine (rrows_any _).mono ?_
  rintro e w1 ⟨rfl, hw1⟩
  rw [← hw1] at HC HB
  clear hw1
  go_wp2_with fail
  go_loop [4] (fun i => ∃ k : Nat, k ≤ 188 ∧ i = .int .i64 k ∧ Hid (refOf (rrows.drop k) r = Q)) (fun i => 188 - (intOf i).toNat)
  case atStart => exact ⟨0, by omega, rfl, HR⟩
  case round =>
    obtain ⟨k, hk, rfl, HK⟩ := hrel
    by_cases hlt : k < 188
    · obtain ⟨x, hx⟩ := rrows_at k hlt
      obtain ⟨c0, c1, c2⟩ := HC.out k x hx
      have hd := refOf_drop r k x hx
      have hbd := List.all_eq_true.1 rrows_le x (List.mem_of_getElem? hx)
      simp at hbd
      obtain ⟨_, _, _, b0, b1⟩ := hbd
      obtain ⟨x0, x1, x2⟩ := x
      simp only at c0 c1 c2 hd b0 b1
      have HD := Lib.hid hd
      clear hd hx
      have hkz : (k : Int) < 188 := by omega
      by_cases h1 : x0 ≤ r
      · by_cases h2 : r ≤ x1
        · go_wp2_with fail
          go_ret
          exact ⟨ret1 (by rw [← HK.out, HD.out, if_pos ⟨h1, h2⟩]), HB.out⟩
        · go_wp2_with fail
          go_round
          case rel => exact ⟨k + 1, by omega, by go_num, by show _ = _; rw [← HK.out, HD.out, if_neg (by omega)]⟩
          case measure => simp [intOf]; omega
      · go_wp2_with fail
        go_round
        case rel => exact ⟨k + 1, by omega, by go_num, by show _ = _; rw [← HK.out, HD.out, if_neg (by omega)]⟩
        case measure => simp [intOf]; omega
    · have hkn : k = 188 := by omega
      subst hkn
      go_wp2_with fail
      go_ret
      exact ⟨ret1 (by rw [← HK.out, List.drop_eq_nil_of_le (by rw [rrows_len]; omega)]; rfl), HB.out⟩

end Go.Proofs.Ytnoenccpbbkdeaa
