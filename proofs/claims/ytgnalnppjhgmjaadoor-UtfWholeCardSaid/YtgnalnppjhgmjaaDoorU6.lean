/- Contracts of the document's answers for layer 2 (package stickfulref02): one, Encode. Conditions: the numbers are int32; at most 1000 of them. -/
import Derived.Test.YtgnalnppjhgmjaaDoorU5
import Derived.Laws.BytesArg
namespace Go.Proofs.YtgnalnppjhgmjaaDoor
open Go.ChangeShapes Go.WideShapes Go.ChangeAt Go.RowKit

theorem bs_nums (xs : List Int) (h : ∀ x ∈ xs, 0 ≤ x ∧ x ≤ 255) : bs (strOfNums xs) = xs.map Int.toNat := by
  unfold bs strOfNums
  simp only [List.map_map]
  apply List.map_congr_left
  intro x hx
  have := h x hx
  simp [UInt8.toNat_ofNat']
  omega

theorem conv (w : World) (xs : List Int) (n : Nat) (hn : xs.length = n) :
    (convert 35 9 (.slice (some ⟨w.heap.size, 0, none⟩) n n)).run Tryd.prog (w.alloc (.cells (xs.map (Value.int .u8)).toArray 5)) = .ok (.string (strOfNums xs)) (w.alloc (.cells (xs.map (Value.int .u8)).toArray 5)) := by
  subst hn
  refine run_convert_bytes_arg _ 35 5 Tryd.underlying35 Tryd.underlying5 w.heap.size 0 xs.length xs.length xs rfl (fun i hi => ?_) 9 Tryd.underlying9
  rw [Nat.zero_add, World.cell?_alloc_new]
  simp [hi]

/-- the walk from the first test on, where the number is a code point already -/
def OneAt (r : Nat) (w : World) (e : Ending) (w' : World) : Prop := ∃ s, e = .returned (.string s) ∧ bs s = Utf.bytes r ∧ Below w.heap.size w w'

set_option maxRecDepth 100000 in
set_option maxHeartbeats 1000000 in
theorem one_1 (r : Nat) (w : World) (h : Utf.Pt r)  (hr : r < 128) :
    Calls Tryd.prog 24 #[.int .i32 r] w (OneAt r w) := by
  have hc : ∀ wx : World, (convert 35 9 (.slice (some ⟨wx.heap.size, 0, none⟩) 1 1)).run Tryd.prog (wx.alloc (.cells #[.int .u8 ((r : Int))] 5)) = .ok (.string (strOfNums [(r : Int)])) (wx.alloc (.cells #[.int .u8 ((r : Int))] 5)) := fun wx => by simpa using conv wx [(r : Int)] 1 rfl
  have hcw := hc w
  have hb : bs (strOfNums [(r : Int)]) = Utf.bytes r := by
    rw [bs_nums _ (by simp; omega)]
    unfold Utf.bytes
    rw [if_pos hr]
    simp
  have HB := Lib.hid hb
  have H := Lib.hid h
  have hr2 : (0 : Int) ≤ (r : Int) ∧ (r : Int) ≤ 1114111 := by unfold Utf.Pt at h; omega
  clear hc hb h
  go_enter Tryd.func24, Tryd.ntmps24
  go_wp2_with fail
  refine (pt_yes _ _ H.out).mono ?_
  rintro e w' ⟨rfl, rfl⟩
  go_wp2_with fail
  go_ret
  exact ⟨_, rfl, HB.out, (Below.refl _ _).alloc (Nat.le_refl _) _⟩

set_option maxRecDepth 100000 in
set_option maxHeartbeats 1000000 in
theorem one_2 (r : Nat) (w : World) (h : Utf.Pt r) (l0 : ¬ r < 128) (hr : r < 2048) :
    Calls Tryd.prog 24 #[.int .i32 r] w (OneAt r w) := by
  have hc : ∀ wx : World, (convert 35 9 (.slice (some ⟨wx.heap.size, 0, none⟩) 2 2)).run Tryd.prog (wx.alloc (.cells #[.int .u8 (192 + (r : Int) / 64), .int .u8 (128 + (r : Int) % 64)] 5)) = .ok (.string (strOfNums [192 + (r : Int) / 64, 128 + (r : Int) % 64])) (wx.alloc (.cells #[.int .u8 (192 + (r : Int) / 64), .int .u8 (128 + (r : Int) % 64)] 5)) := fun wx => by simpa using conv wx [192 + (r : Int) / 64, 128 + (r : Int) % 64] 2 rfl
  have hcw := hc w
  have hb : bs (strOfNums [192 + (r : Int) / 64, 128 + (r : Int) % 64]) = Utf.bytes r := by
    rw [bs_nums _ (by simp; omega)]
    unfold Utf.bytes
    rw [if_neg l0, if_pos hr]
    simp
    omega
  have HB := Lib.hid hb
  have H := Lib.hid h
  have hr2 : (0 : Int) ≤ (r : Int) ∧ (r : Int) ≤ 1114111 := by unfold Utf.Pt at h; omega
  clear hc hb h
  go_enter Tryd.func24, Tryd.ntmps24
  go_wp2_with fail
  refine (pt_yes _ _ H.out).mono ?_
  rintro e w' ⟨rfl, rfl⟩
  go_wp2_with fail
  go_ret
  exact ⟨_, rfl, HB.out, (Below.refl _ _).alloc (Nat.le_refl _) _⟩

set_option maxRecDepth 100000 in
set_option maxHeartbeats 1000000 in
theorem one_3 (r : Nat) (w : World) (h : Utf.Pt r) (l0 : ¬ r < 128) (l1 : ¬ r < 2048) (hr : r < 65536) :
    Calls Tryd.prog 24 #[.int .i32 r] w (OneAt r w) := by
  have hc : ∀ wx : World, (convert 35 9 (.slice (some ⟨wx.heap.size, 0, none⟩) 3 3)).run Tryd.prog (wx.alloc (.cells #[.int .u8 (224 + (r : Int) / 4096), .int .u8 (128 + (r : Int) / 64 % 64), .int .u8 (128 + (r : Int) % 64)] 5)) = .ok (.string (strOfNums [224 + (r : Int) / 4096, 128 + (r : Int) / 64 % 64, 128 + (r : Int) % 64])) (wx.alloc (.cells #[.int .u8 (224 + (r : Int) / 4096), .int .u8 (128 + (r : Int) / 64 % 64), .int .u8 (128 + (r : Int) % 64)] 5)) := fun wx => by simpa using conv wx [224 + (r : Int) / 4096, 128 + (r : Int) / 64 % 64, 128 + (r : Int) % 64] 3 rfl
  have hcw := hc w
  have hb : bs (strOfNums [224 + (r : Int) / 4096, 128 + (r : Int) / 64 % 64, 128 + (r : Int) % 64]) = Utf.bytes r := by
    rw [bs_nums _ (by simp; omega)]
    unfold Utf.bytes
    rw [if_neg l0, if_neg l1, if_pos hr]
    simp
    omega
  have HB := Lib.hid hb
  have H := Lib.hid h
  have hr2 : (0 : Int) ≤ (r : Int) ∧ (r : Int) ≤ 1114111 := by unfold Utf.Pt at h; omega
  have z0 : ¬ (r : Int) < 128 := by omega
  have z1 : ¬ (r : Int) < 2048 := by omega
  have zr : (r : Int) < 65536 := by omega
  clear hc hb h l0 l1 hr
  generalize (r : Int) = z at *
  go_enter Tryd.func24, Tryd.ntmps24
  go_wp2_with fail
  refine (pt_yes _ _ H.out).mono ?_
  rintro e w' ⟨rfl, rfl⟩
  go_wp2_with fail
  go_ret
  exact ⟨_, rfl, HB.out, (Below.refl _ _).alloc (Nat.le_refl _) _⟩

set_option maxRecDepth 100000 in
set_option maxHeartbeats 1000000 in
theorem one_4 (r : Nat) (w : World) (h : Utf.Pt r) (l0 : ¬ r < 128) (l1 : ¬ r < 2048) (l2 : ¬ r < 65536) (hr : r ≤ 1114111) :
    Calls Tryd.prog 24 #[.int .i32 r] w (OneAt r w) := by
  have hc : ∀ wx : World, (convert 35 9 (.slice (some ⟨wx.heap.size, 0, none⟩) 4 4)).run Tryd.prog (wx.alloc (.cells #[.int .u8 (240 + (r : Int) / 262144), .int .u8 (128 + (r : Int) / 4096 % 64), .int .u8 (128 + (r : Int) / 64 % 64), .int .u8 (128 + (r : Int) % 64)] 5)) = .ok (.string (strOfNums [240 + (r : Int) / 262144, 128 + (r : Int) / 4096 % 64, 128 + (r : Int) / 64 % 64, 128 + (r : Int) % 64])) (wx.alloc (.cells #[.int .u8 (240 + (r : Int) / 262144), .int .u8 (128 + (r : Int) / 4096 % 64), .int .u8 (128 + (r : Int) / 64 % 64), .int .u8 (128 + (r : Int) % 64)] 5)) := fun wx => by simpa using conv wx [240 + (r : Int) / 262144, 128 + (r : Int) / 4096 % 64, 128 + (r : Int) / 64 % 64, 128 + (r : Int) % 64] 4 rfl
  have hcw := hc w
  have hb : bs (strOfNums [240 + (r : Int) / 262144, 128 + (r : Int) / 4096 % 64, 128 + (r : Int) / 64 % 64, 128 + (r : Int) % 64]) = Utf.bytes r := by
    rw [bs_nums _ (by simp; omega)]
    unfold Utf.bytes
    rw [if_neg l0, if_neg l1, if_neg l2]
    simp
    omega
  have HB := Lib.hid hb
  have H := Lib.hid h
  have hr2 : (0 : Int) ≤ (r : Int) ∧ (r : Int) ≤ 1114111 := by unfold Utf.Pt at h; omega
  have z0 : ¬ (r : Int) < 128 := by omega
  have z1 : ¬ (r : Int) < 2048 := by omega
  have z2 : ¬ (r : Int) < 65536 := by omega
  have zr : (r : Int) ≤ 1114111 := by omega
  clear hc hb h l0 l1 l2 hr
  generalize (r : Int) = z at *
  go_enter Tryd.func24, Tryd.ntmps24
  go_wp2_with fail
  refine (pt_yes _ _ H.out).mono ?_
  rintro e w' ⟨rfl, rfl⟩
  go_wp2_with fail
  go_ret
  exact ⟨_, rfl, HB.out, (Below.refl _ _).alloc (Nat.le_refl _) _⟩

set_option maxRecDepth 100000 in
set_option maxHeartbeats 1000000 in
theorem one_bad (r : Int) (w : World) (h : ¬ Utf.Pt r) :
    Calls Tryd.prog 24 #[.int .i32 r] w (OneAt 65533 w) := by
  have hc : ∀ wx : World, (convert 35 9 (.slice (some ⟨wx.heap.size, 0, none⟩) 3 3)).run Tryd.prog (wx.alloc (.cells #[.int .u8 239, .int .u8 191, .int .u8 189] 5)) = .ok (.string (strOfNums [239, 191, 189])) (wx.alloc (.cells #[.int .u8 239, .int .u8 191, .int .u8 189] 5)) := fun wx => by simpa using conv wx [239, 191, 189] 3 rfl
  have hcw := hc w
  have hb : bs (strOfNums [239, 191, 189]) = Utf.bytes 65533 := by
    rw [bs_nums _ (by simp)]
    rfl
  have HB := Lib.hid hb
  have H := Lib.hid h
  clear hc hb h
  go_enter Tryd.func24, Tryd.ntmps24
  go_wp2_with fail
  refine (pt_no _ _ H.out).mono ?_
  rintro e w' ⟨rfl, rfl⟩
  go_wp2_with fail
  go_ret
  exact ⟨_, rfl, HB.out, (Below.refl _ _).alloc (Nat.le_refl _) _⟩

theorem one_any (r : Int) (w : World) :
    Calls Tryd.prog 24 #[.int .i32 r] w fun e w' => ∃ s, e = .returned (.string s) ∧ bs s = Utf.one r ∧ Below w.heap.size w w' := by
  by_cases h : Utf.Pt r
  · have hp := h
    unfold Utf.Pt at h
    obtain ⟨n, rfl⟩ := Int.eq_ofNat_of_zero_le h.1
    have e : Utf.one (n : Int) = Utf.bytes n := by unfold Utf.one Utf.fix; rw [if_pos hp]; rfl
    rw [e]
    by_cases h1 : n < 128
    · exact one_1 n w hp h1
    · by_cases h2 : n < 2048
      · exact one_2 n w hp h1 h2
      · by_cases h3 : n < 65536
        · exact one_3 n w hp h1 h2 h3
        · exact one_4 n w hp h1 h2 h3 (by omega)
  · have e : Utf.one r = Utf.bytes 65533 := by unfold Utf.one Utf.fix; rw [if_neg h]; rfl
    rw [e]
    exact one_bad r w h
end Go.Proofs.YtgnalnppjhgmjaaDoor
