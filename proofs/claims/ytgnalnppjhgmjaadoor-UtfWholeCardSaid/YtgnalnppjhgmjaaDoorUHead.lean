/- Contract of the laws' helper 'head' of layer 2: it returns true. No condition. -/
import Derived.Test.YtgnalnppjhgmjaaDoorUProg
namespace Go.Proofs.YtgnalnppjhgmjaaDoor
open Go.ChangeShapes Go.WideShapes Go.ChangeAt Go.RowKit

theorem decs_a : Utf.decs [97, 195, 164] = [(97, 1), (228, 2)] := by
  simp [Utf.decs, Utf.rune, Utf.size, Utf.ok, Utf.begins, Utf.long, Utf.cnt, Utf.may, Utf.point]
theorem decs_b : Utf.decs [226, 130, 97] = [(65533, 2), (97, 1)] := by
  simp [Utf.decs, Utf.rune, Utf.size, Utf.ok, Utf.begins, Utf.long, Utf.cnt, Utf.may, Utf.point]
theorem decs_c : (Utf.decs [240, 128, 128]).length = 3 := by
  simp [Utf.decs, Utf.rune, Utf.size, Utf.ok, Utf.begins, Utf.long, Utf.cnt, Utf.may]
theorem decs_d : (Utf.decs [237, 160, 128]).length = 3 := by
  simp [Utf.decs, Utf.rune, Utf.size, Utf.ok, Utf.begins, Utf.long, Utf.cnt, Utf.may]
theorem decs_e : (Utf.decs [192, 175]).length = 2 := by
  simp [Utf.decs, Utf.rune, Utf.size, Utf.ok, Utf.begins, Utf.long]
theorem valid_f : Utf.valid [226, 130] = false := by
  simp [Utf.valid, Utf.size, Utf.ok, Utf.begins, Utf.long, Utf.cnt, Utf.may]

theorem bs_lit (l : List UInt8) : bs ⟨l.toArray⟩ = l.map UInt8.toNat := by simp [bs]

set_option maxRecDepth 100000 in
set_option maxHeartbeats 2000000 in
theorem uhead_any (w : World) (hT : Tab w) : Calls Tryd.prog 9 #[] w fun e w' => e = .returned (.bool true) ∧ Below w.heap.size w w' := by
  have P1 : Hid (∀ w, Tab w → Calls Tryd.prog 10 #[.string ⟨#[97, 195, 164]⟩] w fun e w' => ∃ v, e = .returned v ∧ Below w.heap.size w w' ∧ Own w' w.heap.size v [⟨97, 0, 0, 1, 0⟩, ⟨228, 0, 1, 2, 0⟩]) := fun w hTw => by
    have h := udecode_any ⟨#[97, 195, 164]⟩ w hTw (by decide)
    rw [show bs ⟨#[97, 195, 164]⟩ = [97, 195, 164] from rfl, decs_a] at h
    exact h
  have P2 : Hid (∀ w, Tab w → Calls Tryd.prog 10 #[.string ⟨#[226, 130, 97]⟩] w fun e w' => ∃ v, e = .returned v ∧ Below w.heap.size w w' ∧ Own w' w.heap.size v [⟨65533, 0, 0, 2, 0⟩, ⟨97, 0, 2, 1, 0⟩]) := fun w hTw => by
    have h := udecode_any ⟨#[226, 130, 97]⟩ w hTw (by decide)
    rw [show bs ⟨#[226, 130, 97]⟩ = [226, 130, 97] from rfl, decs_b] at h
    exact h
  have P3 : Hid (∀ w, Tab w → Calls Tryd.prog 10 #[.string ⟨#[240, 128, 128]⟩] w fun e w' => ∃ A c, e = .returned (.slice A 3 c) ∧ Below w.heap.size w w') := fun w hTw => by
    refine (udecode_any ⟨#[240, 128, 128]⟩ w hTw (by decide)).mono ?_
    rintro e w' ⟨v, rfl, b, o⟩
    rw [show bs ⟨#[240, 128, 128]⟩ = [240, 128, 128] from rfl] at o
    obtain ⟨A, c, rfl⟩ := o.form
    rw [chs_len, decs_c]
    exact ⟨A, c, rfl, b⟩
  have P4 : Hid (∀ w, Tab w → Calls Tryd.prog 13 #[.string ⟨#[237, 160, 128]⟩] w fun e w' => e = .returned (.int .i64 3) ∧ Below w.heap.size w w') := fun w hTw => by
    have h := ucount_any ⟨#[237, 160, 128]⟩ w hTw (by decide)
    rw [show bs ⟨#[237, 160, 128]⟩ = [237, 160, 128] from rfl, decs_d] at h
    exact h
  have P5 : Hid (∀ w, Tab w → Calls Tryd.prog 13 #[.string ⟨#[192, 175]⟩] w fun e w' => e = .returned (.int .i64 2) ∧ Below w.heap.size w w') := fun w hTw => by
    have h := ucount_any ⟨#[192, 175]⟩ w hTw (by decide)
    rw [show bs ⟨#[192, 175]⟩ = [192, 175] from rfl, decs_e] at h
    exact h
  have P6 : Hid (∀ w, Tab w → Calls Tryd.prog 14 #[.string ⟨#[226, 130]⟩] w fun e w' => e = .returned (.bool false) ∧ Below w.heap.size w w') := fun w hTw => by
    have h := uvalid_any ⟨#[226, 130]⟩ w hTw (by decide)
    rw [show bs ⟨#[226, 130]⟩ = [226, 130] from rfl, valid_f] at h
    exact h
  have P7 : Hid (∀ w0 : World, Calls Tryd.prog 16 #[.slice (some ⟨w0.heap.size, 0, none⟩) 3 3] (w0.alloc (.cells #[.int .i32 228, .int .i32 55296, .int .i32 1114112] 21)) fun e w' => e = .returned (.string ⟨#[195, 164, 239, 191, 189, 239, 191, 189]⟩) ∧ Below w0.heap.size w0 w') := fun w0 => by
    refine (uencode_some ⟨w0.heap.size, 0, none⟩ [228, 55296, 1114112] 3 (w0.alloc (.cells #[.int .i32 228, .int .i32 55296, .int .i32 1114112] 21)) (by decide) (Or.inr (by show w0.heap.size < (w0.heap.push _).size; simp)) (fun j hj => ?_) (by simp)).mono ?_
    · rw [add_plain, World.cell?_alloc_new]
      have : j = 0 ∨ j = 1 ∨ j = 2 := by simp at hj; omega
      rcases this with rfl | rfl | rfl <;> simp
    · rintro e w' ⟨s, rfl, hs, b⟩
      have e2 : Utf.enc [228, 55296, 1114112] = [195, 164, 239, 191, 189, 239, 191, 189] := by decide
      rw [e2] at hs
      have e3 : s = ⟨#[195, 164, 239, 191, 189, 239, 191, 189]⟩ := bs_inj _ _ (by rw [hs]; rfl)
      subst e3
      exact ⟨rfl, ((Below.refl _ _).alloc (Nat.le_refl _) _).trans (b.mono (by show w0.heap.size ≤ (w0.heap.push _).size; simp))⟩
  go_enter Tryd.func9, Tryd.ntmps9
  go_wp2_with fail
  refine (P1.out _ (by with_reducible (repeat (first | assumption | apply Tab.alloc | apply Tab.drew | apply Tab.drewN | (refine Tab.below ?_ (by assumption)) | (refine Tab.drawn ?_ (by assumption)))))).mono ?_
  rintro e w1 ⟨v1, rfl, b1, o1⟩
  go_wp2_with fail
  refine (P2.out _ (by with_reducible (repeat (first | assumption | apply Tab.alloc | apply Tab.drew | apply Tab.drewN | (refine Tab.below ?_ (by assumption)) | (refine Tab.drawn ?_ (by assumption)))))).mono ?_
  rintro e w2 ⟨v2, rfl, b2, o2⟩
  go_wp2_with fail
  refine (P3.out _ (by with_reducible (repeat (first | assumption | apply Tab.alloc | apply Tab.drew | apply Tab.drewN | (refine Tab.below ?_ (by assumption)) | (refine Tab.drawn ?_ (by assumption)))))).mono ?_
  rintro e w3 ⟨A3, c3, rfl, b3⟩
  have o1' := (o1.kept b2).kept b3
  have o2' := o2.kept b3
  clear o1 o2
  go_wp2_with fail
  refine (same_eq (o1'.alloc _) (Own.lit w3 [⟨97, 0, 0, 1, 0⟩, ⟨228, 0, 1, 2, 0⟩] 2 rfl (by omega) _ rfl) (by decide)).mono ?_
  rintro e w4 ⟨rfl, d4⟩
  have b4 := below_seq (below_alloc w3 _) (below_drawn d4)
  have o2'' := (o2'.alloc _).drawn d4
  clear d4 o1' o2'
  go_wp2_with fail
  refine (same_eq (o2''.alloc _) (Own.lit w4 [⟨65533, 0, 0, 2, 0⟩, ⟨97, 0, 2, 1, 0⟩] 2 rfl (by omega) _ rfl) (by decide)).mono ?_
  rintro e w5 ⟨rfl, d5⟩
  have b5 := below_seq (below_alloc w4 _) (below_drawn d5)
  clear d5 o2''
  go_wp2_with fail
  refine (P4.out _ (by with_reducible (repeat (first | assumption | apply Tab.alloc | apply Tab.drew | apply Tab.drewN | (refine Tab.below ?_ (by assumption)) | (refine Tab.drawn ?_ (by assumption)))))).mono ?_
  rintro e w6 ⟨rfl, b6⟩
  go_wp2_with fail
  refine (P5.out _ (by with_reducible (repeat (first | assumption | apply Tab.alloc | apply Tab.drew | apply Tab.drewN | (refine Tab.below ?_ (by assumption)) | (refine Tab.drawn ?_ (by assumption)))))).mono ?_
  rintro e w7 ⟨rfl, b7⟩
  go_wp2_with fail
  refine (P7.out w7).mono ?_
  rintro e w8 ⟨rfl, b8⟩
  go_wp2_with fail
  refine (P6.out _ (by with_reducible (repeat (first | assumption | apply Tab.alloc | apply Tab.drew | apply Tab.drewN | (refine Tab.below ?_ (by assumption)) | (refine Tab.drawn ?_ (by assumption)))))).mono ?_
  rintro e w9 ⟨rfl, b9⟩
  go_wp2_with fail
  go_ret
  exact ⟨rfl, below_seq b1 (below_seq b2 (below_seq b3 (below_seq b4 (below_seq b5 (below_seq b6 (below_seq b7 (below_seq b8 b9)))))))⟩
end Go.Proofs.YtgnalnppjhgmjaaDoor
