/- Contracts of the document's answers for layer 2 (package stickfulref02): Point, one, Encode. Conditions: at most 5000 numbers, which lie where the slice says. -/
import Derived.Test.YtejcfhfmdijimaaDoorWhK
import Derived.Laws.BytesArg
import Derived.Test.YtejcfhfmdijimaaDoorWhR4
import Derived.Test.YtejcfhfmdijimaaDoorWhG
namespace Go.Proofs.YtejcfhfmdijimaaDoor.En
open Go.ChangeShapes Go.WideShapes Go.ChangeAt Go.RowKit

set_option maxHeartbeats 400000 in
theorem pt_yes (r : Int) (w : World) (h : Utf.Pt r) :
    Calls Tryd.prog 68 #[.int .i32 r] w fun e w' => e = .returned (.bool true) ∧ w = w' := by
  unfold Utf.Pt at h
  obtain ⟨h1, h2, h3⟩ := h
  by_cases h4 : r < 55296
  · clear h3
    go_enter Tryd.func68, Tryd.ntmps68
    go_wp2
    go_ret
    exact ⟨rfl, rfl⟩
  · have h5 : 57343 < r := by omega
    clear h3
    go_enter Tryd.func68, Tryd.ntmps68
    go_wp2
    go_ret
    exact ⟨rfl, rfl⟩

set_option maxHeartbeats 400000 in
theorem pt_no (r : Int) (w : World) (h : ¬ Utf.Pt r) :
    Calls Tryd.prog 68 #[.int .i32 r] w fun e w' => e = .returned (.bool false) ∧ w = w' := by
  unfold Utf.Pt at h
  by_cases h1 : 0 ≤ r
  · by_cases h2 : r ≤ 1114111
    · have h4 : ¬ r < 55296 := by omega
      have h5 : ¬ 57343 < r := by omega
      clear h
      go_enter Tryd.func68, Tryd.ntmps68
      go_wp2
      go_ret
      exact ⟨rfl, rfl⟩
    · clear h
      go_enter Tryd.func68, Tryd.ntmps68
      go_wp2
      go_ret
      exact ⟨rfl, rfl⟩
  · clear h
    go_enter Tryd.func68, Tryd.ntmps68
    go_wp2
    go_ret
    exact ⟨rfl, rfl⟩

theorem bs_nums (xs : List Int) (h : ∀ x ∈ xs, 0 ≤ x ∧ x ≤ 255) : bs (strOfNums xs) = xs.map Int.toNat := by
  unfold bs strOfNums
  simp only [List.map_map]
  apply List.map_congr_left
  intro x hx
  have := h x hx
  simp [UInt8.toNat_ofNat']
  omega

theorem conv (w : World) (xs : List Int) (n : Nat) (hn : xs.length = n) :
    (convert 44 9 (.slice (some ⟨w.heap.size, 0, none⟩) n n)).run Tryd.prog (w.alloc (.cells (xs.map (Value.int .u8)).toArray 5)) = .ok (.string (strOfNums xs)) (w.alloc (.cells (xs.map (Value.int .u8)).toArray 5)) := by
  subst hn
  refine run_convert_bytes_arg _ 44 5 Tryd.underlying44 Tryd.underlying5 w.heap.size 0 xs.length xs.length xs rfl (fun i hi => ?_) 9 Tryd.underlying9
  rw [Nat.zero_add, World.cell?_alloc_new]
  simp [hi]

/-- the walk from the first test on, where the number is a code point already -/
def OneAt (r : Nat) (w : World) (e : Ending) (w' : World) : Prop := ∃ s, e = .returned (.string s) ∧ bs s = Utf.bytes r ∧ Below w.heap.size w w'

set_option maxRecDepth 100000 in
set_option maxHeartbeats 1000000 in
theorem one_1 (r : Nat) (w : World) (h : Utf.Pt r)  (hr : r < 128) :
    Calls Tryd.prog 62 #[.int .i32 r] w (OneAt r w) := by
  have hc : ∀ wx : World, (convert 44 9 (.slice (some ⟨wx.heap.size, 0, none⟩) 1 1)).run Tryd.prog (wx.alloc (.cells #[.int .u8 ((r : Int))] 5)) = .ok (.string (strOfNums [(r : Int)])) (wx.alloc (.cells #[.int .u8 ((r : Int))] 5)) := fun wx => by simpa using conv wx [(r : Int)] 1 rfl
  have hcw := hc w
  have hb : bs (strOfNums [(r : Int)]) = Utf.bytes r := by
    rw [bs_nums _ (by simp; omega)]
    unfold Utf.bytes
    rw [if_pos hr]
    simp
  have HB := Lib.hid hb
  have H := Lib.hid h
  have hr2 : (0 : Int) ≤ (r : Int) ∧ (r : Int) ≤ 1114111 := by unfold Utf.Pt at h; omega
  clear hc hb h
  go_enter Tryd.func62, Tryd.ntmps62
  go_wp2_with fail
  refine (pt_yes _ _ H.out).mono ?_
  rintro e w' ⟨rfl, rfl⟩
  go_wp2_with fail
  go_ret
  exact ⟨_, rfl, HB.out, (Below.refl _ _).alloc (Nat.le_refl _) _⟩

set_option maxRecDepth 100000 in
set_option maxHeartbeats 1000000 in
theorem one_2 (r : Nat) (w : World) (h : Utf.Pt r) (l0 : ¬ r < 128) (hr : r < 2048) :
    Calls Tryd.prog 62 #[.int .i32 r] w (OneAt r w) := by
  have hc : ∀ wx : World, (convert 44 9 (.slice (some ⟨wx.heap.size, 0, none⟩) 2 2)).run Tryd.prog (wx.alloc (.cells #[.int .u8 (192 + (r : Int) / 64), .int .u8 (128 + (r : Int) % 64)] 5)) = .ok (.string (strOfNums [192 + (r : Int) / 64, 128 + (r : Int) % 64])) (wx.alloc (.cells #[.int .u8 (192 + (r : Int) / 64), .int .u8 (128 + (r : Int) % 64)] 5)) := fun wx => by simpa using conv wx [192 + (r : Int) / 64, 128 + (r : Int) % 64] 2 rfl
  have hcw := hc w
  have hb : bs (strOfNums [192 + (r : Int) / 64, 128 + (r : Int) % 64]) = Utf.bytes r := by
    rw [bs_nums _ (by simp; omega)]
    unfold Utf.bytes
    rw [if_neg l0, if_pos hr]
    simp
    omega
  have HB := Lib.hid hb
  have H := Lib.hid h
  have hr2 : (0 : Int) ≤ (r : Int) ∧ (r : Int) ≤ 1114111 := by unfold Utf.Pt at h; omega
  clear hc hb h
  go_enter Tryd.func62, Tryd.ntmps62
  go_wp2_with fail
  refine (pt_yes _ _ H.out).mono ?_
  rintro e w' ⟨rfl, rfl⟩
  go_wp2_with fail
  go_ret
  exact ⟨_, rfl, HB.out, (Below.refl _ _).alloc (Nat.le_refl _) _⟩

set_option maxRecDepth 100000 in
set_option maxHeartbeats 1000000 in
theorem one_3 (r : Nat) (w : World) (h : Utf.Pt r) (l0 : ¬ r < 128) (l1 : ¬ r < 2048) (hr : r < 65536) :
    Calls Tryd.prog 62 #[.int .i32 r] w (OneAt r w) := by
  have hc : ∀ wx : World, (convert 44 9 (.slice (some ⟨wx.heap.size, 0, none⟩) 3 3)).run Tryd.prog (wx.alloc (.cells #[.int .u8 (224 + (r : Int) / 4096), .int .u8 (128 + (r : Int) / 64 % 64), .int .u8 (128 + (r : Int) % 64)] 5)) = .ok (.string (strOfNums [224 + (r : Int) / 4096, 128 + (r : Int) / 64 % 64, 128 + (r : Int) % 64])) (wx.alloc (.cells #[.int .u8 (224 + (r : Int) / 4096), .int .u8 (128 + (r : Int) / 64 % 64), .int .u8 (128 + (r : Int) % 64)] 5)) := fun wx => by simpa using conv wx [224 + (r : Int) / 4096, 128 + (r : Int) / 64 % 64, 128 + (r : Int) % 64] 3 rfl
  have hcw := hc w
  have hb : bs (strOfNums [224 + (r : Int) / 4096, 128 + (r : Int) / 64 % 64, 128 + (r : Int) % 64]) = Utf.bytes r := by
    rw [bs_nums _ (by simp; omega)]
    unfold Utf.bytes
    rw [if_neg l0, if_neg l1, if_pos hr]
    simp
    omega
  have HB := Lib.hid hb
  have H := Lib.hid h
  have hr2 : (0 : Int) ≤ (r : Int) ∧ (r : Int) ≤ 1114111 := by unfold Utf.Pt at h; omega
  have z0 : ¬ (r : Int) < 128 := by omega
  have z1 : ¬ (r : Int) < 2048 := by omega
  have zr : (r : Int) < 65536 := by omega
  clear hc hb h l0 l1 hr
  generalize (r : Int) = z at *
  go_enter Tryd.func62, Tryd.ntmps62
  go_wp2_with fail
  refine (pt_yes _ _ H.out).mono ?_
  rintro e w' ⟨rfl, rfl⟩
  go_wp2_with fail
  go_ret
  exact ⟨_, rfl, HB.out, (Below.refl _ _).alloc (Nat.le_refl _) _⟩

set_option maxRecDepth 100000 in
set_option maxHeartbeats 1000000 in
theorem one_4 (r : Nat) (w : World) (h : Utf.Pt r) (l0 : ¬ r < 128) (l1 : ¬ r < 2048) (l2 : ¬ r < 65536) (hr : r ≤ 1114111) :
    Calls Tryd.prog 62 #[.int .i32 r] w (OneAt r w) := by
  have hc : ∀ wx : World, (convert 44 9 (.slice (some ⟨wx.heap.size, 0, none⟩) 4 4)).run Tryd.prog (wx.alloc (.cells #[.int .u8 (240 + (r : Int) / 262144), .int .u8 (128 + (r : Int) / 4096 % 64), .int .u8 (128 + (r : Int) / 64 % 64), .int .u8 (128 + (r : Int) % 64)] 5)) = .ok (.string (strOfNums [240 + (r : Int) / 262144, 128 + (r : Int) / 4096 % 64, 128 + (r : Int) / 64 % 64, 128 + (r : Int) % 64])) (wx.alloc (.cells #[.int .u8 (240 + (r : Int) / 262144), .int .u8 (128 + (r : Int) / 4096 % 64), .int .u8 (128 + (r : Int) / 64 % 64), .int .u8 (128 + (r : Int) % 64)] 5)) := fun wx => by simpa using conv wx [240 + (r : Int) / 262144, 128 + (r : Int) / 4096 % 64, 128 + (r : Int) / 64 % 64, 128 + (r : Int) % 64] 4 rfl
  have hcw := hc w
  have hb : bs (strOfNums [240 + (r : Int) / 262144, 128 + (r : Int) / 4096 % 64, 128 + (r : Int) / 64 % 64, 128 + (r : Int) % 64]) = Utf.bytes r := by
    rw [bs_nums _ (by simp; omega)]
    unfold Utf.bytes
    rw [if_neg l0, if_neg l1, if_neg l2]
    simp
    omega
  have HB := Lib.hid hb
  have H := Lib.hid h
  have hr2 : (0 : Int) ≤ (r : Int) ∧ (r : Int) ≤ 1114111 := by unfold Utf.Pt at h; omega
  have z0 : ¬ (r : Int) < 128 := by omega
  have z1 : ¬ (r : Int) < 2048 := by omega
  have z2 : ¬ (r : Int) < 65536 := by omega
  have zr : (r : Int) ≤ 1114111 := by omega
  clear hc hb h l0 l1 l2 hr
  generalize (r : Int) = z at *
  go_enter Tryd.func62, Tryd.ntmps62
  go_wp2_with fail
  refine (pt_yes _ _ H.out).mono ?_
  rintro e w' ⟨rfl, rfl⟩
  go_wp2_with fail
  go_ret
  exact ⟨_, rfl, HB.out, (Below.refl _ _).alloc (Nat.le_refl _) _⟩

set_option maxRecDepth 100000 in
set_option maxHeartbeats 1000000 in
theorem one_bad (r : Int) (w : World) (h : ¬ Utf.Pt r) :
    Calls Tryd.prog 62 #[.int .i32 r] w (OneAt 65533 w) := by
  have hc : ∀ wx : World, (convert 44 9 (.slice (some ⟨wx.heap.size, 0, none⟩) 3 3)).run Tryd.prog (wx.alloc (.cells #[.int .u8 239, .int .u8 191, .int .u8 189] 5)) = .ok (.string (strOfNums [239, 191, 189])) (wx.alloc (.cells #[.int .u8 239, .int .u8 191, .int .u8 189] 5)) := fun wx => by simpa using conv wx [239, 191, 189] 3 rfl
  have hcw := hc w
  have hb : bs (strOfNums [239, 191, 189]) = Utf.bytes 65533 := by
    rw [bs_nums _ (by simp)]
    rfl
  have HB := Lib.hid hb
  have H := Lib.hid h
  clear hc hb h
  go_enter Tryd.func62, Tryd.ntmps62
  go_wp2_with fail
  refine (pt_no _ _ H.out).mono ?_
  rintro e w' ⟨rfl, rfl⟩
  go_wp2_with fail
  go_ret
  exact ⟨_, rfl, HB.out, (Below.refl _ _).alloc (Nat.le_refl _) _⟩

theorem one_any (r : Int) (w : World) :
    Calls Tryd.prog 62 #[.int .i32 r] w fun e w' => ∃ s, e = .returned (.string s) ∧ bs s = Utf.one r ∧ Below w.heap.size w w' := by
  by_cases h : Utf.Pt r
  · have hp := h
    unfold Utf.Pt at h
    obtain ⟨n, rfl⟩ := Int.eq_ofNat_of_zero_le h.1
    have e : Utf.one (n : Int) = Utf.bytes n := by unfold Utf.one Utf.fix; rw [if_pos hp]; rfl
    rw [e]
    by_cases h1 : n < 128
    · exact one_1 n w hp h1
    · by_cases h2 : n < 2048
      · exact one_2 n w hp h1 h2
      · by_cases h3 : n < 65536
        · exact one_3 n w hp h1 h2 h3
        · exact one_4 n w hp h1 h2 h3 (by omega)
  · have e : Utf.one r = Utf.bytes 65533 := by unfold Utf.one Utf.fix; rw [if_neg h]; rfl
    rw [e]
    exact one_bad r w h
theorem enc_snoc (zs : List Int) (k : Nat) (h : k < zs.length) : Utf.enc (zs.take (k + 1)) = Utf.enc (zs.take k) ++ Utf.one (zs.getD k 0) := by
  unfold Utf.enc
  rw [List.take_succ_eq_append_getElem h, List.flatMap_append]
  simp only [List.getD, List.getElem?_eq_getElem h, Option.getD_some, List.flatMap_cons, List.flatMap_nil, List.append_nil]

theorem one_len (r : Int) : (Utf.one r).length ≤ 4 := by
  unfold Utf.one Utf.bytes
  split
  · simp
  · split
    · simp
    · split <;> simp

theorem enc_len (zs : List Int) : (Utf.enc zs).length ≤ 4 * zs.length := by
  induction zs with
  | nil => simp [Utf.enc]
  | cons z zs ih =>
    have h := one_len z
    have e : Utf.enc (z :: zs) = Utf.one z ++ Utf.enc zs := by simp [Utf.enc]
    rw [e, List.length_append, List.length_cons]
    omega

set_option maxRecDepth 100000 in
set_option maxHeartbeats 1000000 in
theorem rencode_nil (w : World) :
    Calls Tryd.prog 33 #[.slice none 0 0] w fun e w' => ∃ s, e = .returned (.string s) ∧ bs s = [] ∧ Below w.heap.size w w' := by
  go_enter Tryd.func33, Tryd.ntmps33
  go_wp2_with fail
  refine wp_loop_rounds 1 ?_
  rw [rounds_succ]
  go_wp2_with fail
  go_ret
  exact ⟨_, rfl, rfl, Below.refl _ _⟩

set_option maxRecDepth 100000 in
set_option maxHeartbeats 2000000 in
theorem rencode_some (a : Addr) (zs : List Int) (cap : Nat) (w : World) (hn : zs.length ≤ 5000) (ha : zs.length = 0 ∨ a.block < w.heap.size)
    (hc : ∀ j, j < zs.length → w.cell? (a.add j) = some (.int .i32 (zs.getD j 0))) :
    Calls Tryd.prog 33 #[.slice (some a) zs.length cap] w fun e w' => ∃ s, e = .returned (.string s) ∧ bs s = Utf.enc zs ∧ Below w.heap.size w w' := by
  have HA := Lib.hid ha
  have HC := Lib.hid hc
  clear ha hc
  go_enter Tryd.func33, Tryd.ntmps33
  go_wp2_with fail
  go_loopg [3, 4] 6000 (fun g s3 s4 wx => Below w.heap.size w wx ∧ ∃ (k : Nat) (s : ByteArray), s4 = .int .i64 k ∧ s3 = .string s ∧ k ≤ zs.length ∧ g = 6000 - k ∧ s.size ≤ 4 * k ∧ Hid (bs s = Utf.enc (zs.take k)))
  case atStart => exact ⟨Below.refl _ _, 0, _, rfl, rfl, by omega, rfl, Nat.le_refl _, rfl⟩
  case round =>
    obtain ⟨bel, k, s, rfl, rfl, hk, rfl, hsz, HS⟩ := hrel
    by_cases hlt : k < zs.length
    · have hcell : wr.cell? (a.add k) = some (.int .i32 (zs.getD k 0)) := by
        rw [bel.cell (by rw [block_of_add]; rcases HA.out with h | h <;> omega)]
        exact HC.out k hlt
      have HT := Lib.hid (enc_snoc zs k hlt)
      generalize zs.getD k 0 = x at *
      go_wp2_with fail
      refine (one_any x _).mono ?_
      rintro e w1 ⟨t, rfl, ht, b1⟩
      have HT2 := Lib.hid ht
      have hl : t.size ≤ 4 := by rw [← bs_len, ht]; exact one_len x
      clear ht hcell
      go_wp2_with fail
      go_roundg (6000 - (k + 1))
      case measure => omega
      case rel => exact ⟨bel.trans (b1.mono bel.size), k + 1, s ++ t, by go_num, rfl, by omega, rfl, by rw [ByteArray.size_append]; omega, by show _ = _; rw [bs_append, HS.out, HT2.out, HT.out]⟩
    · obtain rfl : k = zs.length := by omega
      rw [List.take_length] at HS
      go_wp2_with fail
      go_ret
      exact ⟨_, rfl, HS.out, bel⟩
end Go.Proofs.YtejcfhfmdijimaaDoor.En

/- Contracts of the document's answers for layer 8 (package stickfulref08): Collapse, Kept. Conditions: the lists lie where the slices say, at most 5000 characters. -/
namespace Go.Proofs.YtejcfhfmdijimaaDoor
open Go.ChangeShapes Go.WideShapes Go.ChangeAt Go.RowKit
open Wh

theorem NdOk.turned {ss : List Sty} {l : List Cr} {W : Int → Int} {D : Int → Bool} {p : Option Cr} (h : NdOk ss l) : NdOk ss (turned W D p l) := fun c hc => by
  obtain ⟨d, hd, rfl⟩ := mem_turned hc
  rw [(turn_node d).1]
  exact h d hd

set_option maxRecDepth 100000 in
set_option maxHeartbeats 8000000 in
theorem rcollapse_any (l : List Cr) (v : Value) (ss : List Sty) (sv : Value) (w : World) (hR : RwC w v l) (hS : Ss w sv ss) (hn : l.length ≤ 1048576) :
    Calls Tryd.prog 11 #[v, sv] w (ColPost w ss l) := by
  have H1 := Lib.hid hR
  have HS := Lib.hid hS
  have CM := Lib.hid (rmay_any l v ss sv w hR hS hn)
  obtain ⟨b, hb⟩ : ∃ b, mayB ss l = b := ⟨_, rfl⟩
  rw [hb] at CM
  have HBB := Lib.hid hb
  obtain ⟨Q, hQ⟩ : ∃ Q, ColPost w ss l = Q := ⟨_, rfl⟩
  have FIN : Hid (∀ e w', ColPost w ss l e w' → Q e w') := Lib.hid fun e w' h => hQ ▸ h
  rw [hQ]
  clear hR hS hb hQ
  go_enter Tryd.func11, Tryd.ntmps11
  go_wp2_with fail
  refine CM.out.mono ?_
  rintro e w0 ⟨rfl, rfl⟩
  cases b with
  | false =>
    go_wp2_with fail
    exact FIN.out (.returned (.tuple #[.slice none 0 0, .int .i64 2])) _ (.inr ⟨HBB.out, rfl, Below.refl _ _⟩)
  | true =>
  have HN := Lib.hid (NdOk.of_may HBB.out)
  have CP := Lib.hid (rpairs_any l v w H1.out hn)
  clear CM
  go_wp2_with fail
  refine CP.out.mono ?_
  rintro e w1 ⟨u1, rfl, O1, b1⟩
  obtain ⟨l1, h1⟩ : ∃ x, pairs l = x := ⟨_, rfl⟩
  have N1 := Lib.hid (HN.out.sub (m := l1) fun c hc => mem_pairs (by rw [h1]; exact hc))
  have E1 : Hid (l1.length ≤ 1048576) := Lib.hid (by rw [← h1]; exact Nat.le_trans (left_pairs l).len hn)
  rw [h1] at O1
  have G1 := Lib.hid h1
  have C2 := Lib.hid (raround_any l1 u1 ss sv w1 O1.rw_ (HS.out.below b1) N1.out E1.out)
  have B1 := Lib.hid b1
  clear CP O1 h1 b1
  go_wp2_with fail
  refine C2.out.mono ?_
  rintro e w2 ⟨u2, rfl, O2, b2⟩
  obtain ⟨l2, h2⟩ : ∃ x, around (whF ss) false l1 = x := ⟨_, rfl⟩
  have N2 := Lib.hid (N1.out.sub (m := l2) fun c hc => mem_around (by rw [h2]; exact hc))
  have E2 : Hid (l2.length ≤ 1048576) := Lib.hid (by rw [← h2]; exact Nat.le_trans (left_around l1 false).len E1.out)
  rw [h2] at O2
  have G2 := Lib.hid h2
  have B2 := Lib.hid (below_seq B1.out b2)
  have C3 := Lib.hid (rseveral_any l2 u2 ss sv w2 O2.rw_ (HS.out.below B2.out) N2.out E2.out)
  clear C2 O2 h2 b2
  go_wp2_with fail
  refine C3.out.mono ?_
  rintro e w3 ⟨u3, rfl, O3, b3⟩
  obtain ⟨l3, h3⟩ : ∃ x, several (whF ss) false false l2 = x := ⟨_, rfl⟩
  have N3 := Lib.hid (N2.out.sub (m := l3) fun c hc => mem_several (by rw [h3]; exact hc))
  have E3 : Hid (l3.length ≤ 1048576) := Lib.hid (by rw [← h3]; exact Nat.le_trans (left_several l2 false false).len E2.out)
  rw [h3] at O3
  have G3 := Lib.hid h3
  have B3 := Lib.hid (below_seq B2.out b3)
  have C4 := Lib.hid (rturned_any l3 u3 ss sv w3 O3.rw_ (HS.out.below B3.out) N3.out E3.out)
  clear C3 O3 h3 b3
  go_wp2_with fail
  refine C4.out.mono ?_
  rintro e w4 ⟨u4, rfl, O4, b4⟩
  obtain ⟨l4, h4⟩ : ∃ x, turned (whF ss) wideB none l3 = x := ⟨_, rfl⟩
  have N4 : Hid (NdOk ss l4) := Lib.hid (h4 ▸ N3.out.turned)
  have E4 : Hid (l4.length ≤ 1048576) := Lib.hid (by rw [← h4]; exact Nat.le_trans (left_turned l3 none).len E3.out)
  rw [h4] at O4
  have G4 := Lib.hid h4
  have B4 := Lib.hid (below_seq B3.out b4)
  have C5 := Lib.hid (rrows_any l4 u4 ss sv w4 O4.rw_ (HS.out.below B4.out) N4.out E4.out)
  clear C4 O4 h4 b4
  go_wp2_with fail
  refine C5.out.mono ?_
  rintro e w5 ⟨u5, rfl, O5, b5⟩
  obtain ⟨l5, h5⟩ : ∃ x, rows (whF ss) false l4 = x := ⟨_, rfl⟩
  have N5 := Lib.hid (N4.out.sub (m := l5) fun c hc => mem_rows (by rw [h5]; exact hc))
  have E5 : Hid (l5.length ≤ 1048576) := Lib.hid (by rw [← h5]; exact Nat.le_trans (left_rows l4 false).len E4.out)
  rw [h5] at O5
  have G5 := Lib.hid h5
  have B5 := Lib.hid (below_seq B4.out b5)
  have C6 := Lib.hid (rkinds_any l5 u5 ss sv w5 O5.rw_ (HS.out.below B5.out) N5.out E5.out)
  clear C5 O5 h5 b5
  go_wp2_with fail
  refine C6.out.mono ?_
  rintro e w6 ⟨u6, rfl, O6, b6⟩
  have HO : Hid (OwC w.heap.size w6 u6 (collapse (whF ss) wideB l)) := Lib.hid (by
    have e : l5.map (kindOf (whF ss)) = collapse (whF ss) wideB l := by rw [← G5.out, ← G4.out, ← G3.out, ← G2.out, ← G1.out]; rfl
    rw [← e]
    exact O6.base_ B5.out.size)
  have B6 := Lib.hid (below_seq B5.out b6)
  clear C6 O6 b6
  go_wp2_with fail
  exact FIN.out (.returned (.tuple #[u6, .int .i64 0])) _ (.inl ⟨HBB.out, u6, rfl, HO.out, B6.out⟩)

/-! ### Kept -/
theorem elmZ : Elm Tryd.prog 42 21 1 4 := ⟨Tryd.underlying42, ⟨.int .i32 0, by kernel_rfl, rfl⟩, by decide, by decide⟩
theorem bsZ (z : Int) (w : World) : (Instr.buildSlice 42 1 #[(0, .int .i32 z)]).run Tryd.prog w = .ok (.slice (some ⟨w.heap.size, 0, none⟩) 1 1) (w.alloc (.cells #[.int .i32 z] 21)) := by kernel_rfl
theorem apZ {ops : Array Oper} {Q : Exit → Act → World → Prop} {a : Act} {w : World} {rest : List Oper} {o1 o2 : Oper} (hg1 : o1.guard = none) (x : Operand) (ho1 : o1.op = .buildSlice 42 1 #[(0, x)]) (D : Tmp) (hd1 : o1.dst = some D)
    (hg2 : o2.guard = none) (sl : Operand) (ho2 : o2.op = .call { callee := .builtin .append, args := #[sl, .tmp D], argTypes := #[42, 42] }) (z : Int) (hx : a.eval x = .int .i32 z)
    (v : Value) (hs : ∀ u, (a.put (some D) u).eval sl = v) (hD : ∀ u, (a.put (some D) u).eval (.tmp D) = u) (base n : Nat) (xs : List Value) (hown : w.ownsRow base 21 1 v n xs) (hn : n < 4194304) (hbase : base ≤ w.heap.size)
    (h : ∀ u v' w', w'.ownsRow base 21 1 v' (n + 1) (xs ++ [.int .i32 z]) → Below base w w' → wpList Tryd.prog ops Q rest ((a.put (some D) u).put o2.dst v') w') : wpList Tryd.prog ops Q (o1 :: o2 :: rest) a w :=
  apG elmZ hg1 x ho1 D hd1 hg2 sl ho2 (.int .i32 z) #[.int .i32 z] hx rfl (by simp [Value.oneCell']) (bsZ z) v hs hD base n xs hown hn hbase h
def kv (c : Cr) : Value := .int .i32 (krn c)
theorem kv_take {l : List Cr} {k : Nat} {c : Cr} (h : l[k]? = some c) : (l.take (k + 1)).map kv = (l.take k).map kv ++ [.int .i32 (krn c)] := by
  rw [List.take_add_one, h]
  simp [kv]
theorem renc_own {base : Nat} {w : World} {u : Value} {zs : List Int} {n : Nat} (hn : zs.length = n) (h5 : n ≤ 5000) (h : w.ownsRow base 21 1 u n (zs.map (Value.int .i32))) :
    Calls Tryd.prog 33 #[u] w fun e w' => ∃ s, e = .returned (.string s) ∧ bs s = Utf.enc zs ∧ Below w.heap.size w w' := by
  have h0 := h
  rcases h.2 with ⟨rfl, hz⟩ | ⟨g, cap, cur, rfl, _, hg, hnc, _⟩
  · subst hz
    obtain rfl := List.eq_nil_of_length_eq_zero hn
    exact En.rencode_nil w
  · subst hn
    refine En.rencode_some ⟨g, 0, none⟩ zs cap w h5 (.inr (Array.getElem?_eq_some_iff.1 hg).1) fun j hj => ?_
    rw [Addr.add_lit, Nat.zero_add, h0.cellAt j (by omega), List.getElem?_map, List.getElem?_eq_getElem hj]
    simp [List.getD, List.getElem?_eq_getElem hj]

set_option maxRecDepth 100000 in
set_option maxHeartbeats 8000000 in
theorem rkept_any (l : List Cr) (v : Value) (w : World) (hR : RwC w v l) (hn : l.length ≤ 5000) :
    Calls Tryd.prog 16 #[v] w fun e w' => ∃ s, e = .returned (.string s) ∧ bs s = keptL l ∧ Below w.heap.size w w' := by
  have H1 := Lib.hid hR
  obtain ⟨A, c, hv0⟩ := hR.form
  obtain ⟨n, hl⟩ : ∃ n, l.length = n := ⟨_, rfl⟩
  have HL := Lib.hid hl
  rw [hl] at hn hv0
  subst hv0
  clear hR hl
  go_enter Tryd.func16, Tryd.ntmps16
  go_wp2_with fail
  have O0 : w.ownsRow w.heap.size 21 1 (.slice none 0 0) 0 ((l.take 0).map kv) := World.ownsRow_nil _ _ _ _
  go_loopg [3, 4] n (fun kx s3 s4 wr => ∃ (k : Nat) (u : Value), u = s3 ∧ s4 = .int .i64 k ∧ k ≤ n ∧ kx = n - k ∧ wr.ownsRow w.heap.size 21 1 u k ((l.take k).map kv) ∧ Below w.heap.size w wr)
  case atStart => exact ⟨0, _, rfl, rfl, by omega, by omega, O0, Below.refl _ _⟩
  case round =>
    clear O0
    obtain ⟨k, u, rfl, rfl, hk, rfl, O, b⟩ := hrel
    by_cases hkm : k < n
    · have hkz : (k : Int) < n := by omega
      obtain ⟨x, hx⟩ := atR_of (l := l) (i := k) (by rw [HL.out]; exact hkm)
      obtain ⟨a1, cap1, o1, hv, _, ha1, hL1⟩ := H1.out.get b hx
      rw [HL.out] at hv
      injection hv with hv1 hv2 hv3
      subst hv1 hv3
      have q0 : wr.cell? ⟨a1.block, o1, none⟩ = some (.int .i32 x.r) := by have := hL1 0 _ rfl; rwa [Addr.add_lit] at this
      have q4 : wr.cell? ⟨a1.block, o1 + 4, none⟩ = some (.int .u8 x.kind) := by have := hL1 4 _ rfl; rwa [Addr.add_lit] at this
      have HSN := Lib.hid (kv_take hx)
      have HB := Lib.hid b
      have hbs := b.size
      obtain ⟨y, hy⟩ : ∃ y, krn x = y := ⟨_, rfl⟩
      rw [hy] at HSN
      have HY := Lib.hid hy
      unfold krn at HY
      obtain ⟨r, hr⟩ : ∃ z, x.r = z := ⟨_, rfl⟩
      obtain ⟨kd, hkd⟩ : ∃ z, x.kind = z := ⟨_, rfl⟩
      rw [hr] at q0 HY
      rw [hkd] at q4 HY
      clear hv2 hx hL1 hr hkd b hy
      by_cases k5 : kd = 5
      · subst k5
        obtain rfl : 10 = y := HY.out
        clear HY
        go_wp2_with (first | (refine apZ (o1 := ⟨some 31, _, _, _, _, _⟩) rfl (.tmp 30) rfl 31 rfl rfl (.tmp 29) rfl (10) rfl _ (fun _ => rfl) (fun _ => rfl) w.heap.size k _ O (by omega) hbs ?_; intro u4 v5 w5 O5 b5; refine Mk.out ?_))
        constructor
        have O6 : w5.ownsRow w.heap.size 21 1 v5 (k + 1) ((l.take (k + 1)).map kv) := by rw [HSN.out]; exact O5
        have b6 := HB.out.trans b5
        clear O5 b5 q0 q4
        go_wp2_with fail
        go_roundg (n - (k + 1))
        case measure => omega
        case rel => exact ⟨k + 1, _, rfl, by go_num, by omega, by omega, O6, b6⟩
      · have e5 : (kd == 5) = false := by simpa using k5
        by_cases k6 : kd = 6
        · subst k6
          obtain rfl : 65532 = y := HY.out
          clear HY
          go_wp2_with (first | (refine apZ (o1 := ⟨some 31, _, _, _, _, _⟩) rfl (.tmp 30) rfl 31 rfl rfl (.tmp 29) rfl (65532) rfl _ (fun _ => rfl) (fun _ => rfl) w.heap.size k _ O (by omega) hbs ?_; intro u4 v5 w5 O5 b5; refine Mk.out ?_))
          constructor
          have O6 : w5.ownsRow w.heap.size 21 1 v5 (k + 1) ((l.take (k + 1)).map kv) := by rw [HSN.out]; exact O5
          have b6 := HB.out.trans b5
          clear O5 b5 q0 q4
          go_wp2_with fail
          go_roundg (n - (k + 1))
          case measure => omega
          case rel => exact ⟨k + 1, _, rfl, by go_num, by omega, by omega, O6, b6⟩
        · have e6 : (kd == 6) = false := by simpa using k6
          obtain rfl : r = y := by have := HY.out; rwa [if_neg k5, if_neg k6] at this
          clear HY
          go_wp2_with (first | (refine apZ (o1 := ⟨some 31, _, _, _, _, _⟩) rfl (.tmp 30) rfl 31 rfl rfl (.tmp 29) rfl (r) rfl _ (fun _ => rfl) (fun _ => rfl) w.heap.size k _ O (by omega) hbs ?_; intro u4 v5 w5 O5 b5; refine Mk.out ?_))
          constructor
          have O6 : w5.ownsRow w.heap.size 21 1 v5 (k + 1) ((l.take (k + 1)).map kv) := by rw [HSN.out]; exact O5
          have b6 := HB.out.trans b5
          clear O5 b5 q0 q4
          go_wp2_with fail
          go_roundg (n - (k + 1))
          case measure => omega
          case rel => exact ⟨k + 1, _, rfl, by go_num, by omega, by omega, O6, b6⟩
    · obtain rfl : n = k := by omega
      have HE : Hid (Calls Tryd.prog 33 #[u] wr fun e w' => ∃ s, e = .returned (.string s) ∧ bs s = keptL l ∧ Below wr.heap.size wr w') := Lib.hid (by
        have h2 : (l.take n).map kv = (l.map krn).map (Value.int .i32) := by
          rw [List.take_of_length_le (by rw [HL.out]; exact Nat.le_refl _), List.map_map]
          rfl
        rw [h2] at O
        exact renc_own (by rw [List.length_map]; exact HL.out) hn O)
      clear O
      go_wp2_with fail
      refine HE.out.mono ?_
      rintro e w5 ⟨s, rfl, hs, b5⟩
      have HS := Lib.hid hs
      have b6 := below_seq b b5
      clear hs b5 HE
      go_wp2_with fail
      go_ret
      exact ⟨_, rfl, HS.out, b6⟩
end Go.Proofs.YtejcfhfmdijimaaDoor

/- The walk of WhiteCollapses: for every list and every row of styles the law returns true. Conditions: the lists lie where the slices say, numbers are int32; class's table lies in memory. -/
namespace Go.Proofs.YtejcfhfmdijimaaDoor
open Go.ChangeShapes Go.WideShapes Go.ChangeAt Go.RowKit Go.Shelf
open Wh

theorem collapse_fit {W : Int → Int} {D : Int → Bool} {l : List Cr} {P : Int → Prop} (h : ∀ c ∈ l, P c.r) (h1 : P 32) (h2 : P 10) : ∀ d ∈ collapse W D l, P d.r := fun d hd => by
  obtain ⟨c5, hc5, rfl⟩ := List.mem_map.1 hd
  rw [(kindOf_node c5).2.2.2]
  obtain ⟨c3, hc3, rfl⟩ := mem_turned (mem_rows hc5)
  have h3 := h c3 (mem_pairs (mem_around (mem_several hc3)))
  unfold turn
  split
  · exact h1
  · split
    · exact h2
    · split
      · exact h1
      · exact h3
def fitR (z : Int) : Prop := -2147483648 ≤ z ∧ z ≤ 2147483647

set_option maxRecDepth 100000 in
set_option maxHeartbeats 16000000 in
theorem wcols_any (l : List Cr) (v : Value) (ss : List Sty) (sv : Value) (w : World) (hR : RwC w v l) (hS : Ss w sv ss) (hfit : ∀ c ∈ l, -2147483648 ≤ c.r ∧ c.r ≤ 2147483647) (hT : Tab w) :
    Calls Tryd.prog 3 #[v, sv] w fun e w' => e = .returned (.bool true) ∧ Below w.heap.size w w' := by
  have HT := Lib.hid hT
  have H1 := Lib.hid hR
  have HS := Lib.hid hS
  have HFT := Lib.hid hfit
  have HD : Hid (∀ W, Below w.heap.size w W → Calls Tryd.prog 9 #[] W fun e w' => e = .returned (.bool true) ∧ Below w.heap.size w w') := Lib.hid fun W b => (whead_any W (HT.out.below b)).mono fun e w' h => ⟨h.1, b.trans (h.2.mono b.size)⟩
  obtain ⟨A1, c1, hv1⟩ := hR.form
  obtain ⟨A3, c3, hv3⟩ := Ss.form hS
  have G1 := Lib.hid (wgreat_any A1 A3 l.length c1 ss.length c3 w)
  obtain ⟨g1, hg1⟩ : ∃ b, greatB l.length ss.length = b := ⟨_, rfl⟩
  rw [hg1] at G1
  have HG1 := Lib.hid hg1
  rw [← hv1, ← hv3] at G1
  have HV3 := Lib.hid hv3
  clear hT hR hS hg1 hv1 hv3 hfit
  go_enter Tryd.func3, Tryd.ntmps3
  go_wp2_with fail
  refine G1.out.mono ?_
  rintro e w1 ⟨rfl, rfl⟩
  cases g1 with
  | true =>
    go_wp2_with fail
    refine (HD.out _ (Below.refl _ _)).mono ?_
    rintro e w1 ⟨rfl, b1⟩
    go_wp2_with fail
    go_ret
    exact ⟨rfl, b1⟩
  | false =>
  have hl150 : Hid (l.length ≤ 150) := Lib.hid (by have := HG1.out; unfold greatB at this; simp at this; omega)
  have hs40 : Hid (ss.length ≤ 40) := Lib.hid (by have := HG1.out; unfold greatB at this; simp at this; omega)
  have CL := Lib.hid (wcollapse_any l v ss sv w H1.out HS.out (by have := hl150.out; omega) HT.out)
  clear G1 HG1
  go_wp2_with fail
  refine CL.out.mono ?_
  rintro e w3 h
  have hres : ∃ (a : List Cr) (ua : Value) (z : Int), e = .returned (.tuple #[ua, .int .i64 z]) ∧ RwC w3 ua a ∧ Below w.heap.size w w3 ∧ a.length ≤ 150 ∧ (∀ c ∈ a, fitR c.r) ∧ (∀ X, Below w3.heap.size w3 X → Calls Tryd.prog 11 #[v, sv] X fun e w' => ∃ ub, e = .returned (.tuple #[ub, .int .i64 z]) ∧ RwC w' ub a ∧ Below X.heap.size X w') := by
    rcases h with ⟨hm1, ua, rfl, OA, b3⟩ | ⟨hm1, rfl, b3⟩
    · refine ⟨_, ua, 0, rfl, OA.rw_, b3, Nat.le_trans (left_collapse _).len hl150.out, collapse_fit (P := fitR) HFT.out (by unfold fitR; omega) (by unfold fitR; omega), fun X hX => ?_⟩
      have b4 := below_seq b3 hX
      refine (rcollapse_any l v ss sv X (H1.out.below b4) (HS.out.below b4) (by have := hl150.out; omega)).mono fun e w' h => ?_
      rcases h with ⟨_, ub, rfl, OB, b5⟩ | ⟨hm2, _⟩
      · exact ⟨ub, rfl, OB.rw_, b5⟩
      · rw [hm1] at hm2; cases hm2
    · refine ⟨[], _, 2, rfl, .inl ⟨rfl, rfl⟩, b3, by simp, by simp, fun X hX => ?_⟩
      have b4 := below_seq b3 hX
      refine (rcollapse_any l v ss sv X (H1.out.below b4) (HS.out.below b4) (by have := hl150.out; omega)).mono fun e w' h => ?_
      rcases h with ⟨hm2, _⟩ | ⟨_, rfl, b5⟩
      · rw [hm1] at hm2; cases hm2
      · exact ⟨_, rfl, .inl ⟨rfl, rfl⟩, b5⟩
  obtain ⟨a, ua, z, rfl, hRA, b3, ha150, hFA, hCC⟩ := hres
  have HRA := Lib.hid hRA
  have HB3 := Lib.hid b3
  have HA150 := Lib.hid ha150
  have HFA := Lib.hid hFA
  have CR := Lib.hid (hCC w3 (Below.refl _ _))
  clear h CL hRA b3 ha150 hFA hCC
  go_wp2_with fail
  refine CR.out.mono ?_
  rintro e w4 ⟨ub, rfl, hRB, b4⟩
  have HRB := Lib.hid hRB
  have HRA4 := Lib.hid (HRA.out.below b4)
  have HB4 := Lib.hid (below_seq HB3.out b4)
  have HS4 := Lib.hid (HS.out.below HB4.out)
  have hv3 := HV3.out
  obtain ⟨q, hq⟩ : ∃ q, ss.length = q := ⟨_, rfl⟩
  rw [hq] at hv3
  have hq40 : q ≤ 40 := by rw [← hq]; exact hs40.out
  have HQ := Lib.hid hq
  subst hv3
  clear CR hRB b4 hq HV3 hs40 HRA HB3
  go_wp2_with fail
  go_loopg [9] q (fun kx s9 wr => ∃ i : Nat, s9 = .int .i64 i ∧ i ≤ q ∧ kx = q - i ∧ Below w4.heap.size w4 wr)
  case atStart => exact ⟨0, rfl, by omega, by omega, Below.refl _ _⟩
  case round =>
    obtain ⟨i, rfl, hi, rfl, bel⟩ := hrel
    by_cases hlt : i < q
    · have hz : (i : Int) < q := by omega
      obtain ⟨s, hs⟩ : ∃ s, ss[i]? = some s := ⟨_, List.getElem?_eq_getElem (by rw [HQ.out]; exact hlt)⟩
      obtain ⟨a3, cap3, o3, hv, _, ha3, hL3⟩ := HS4.out.get bel hs
      rw [HQ.out] at hv
      injection hv with hv1 hv4 hv3
      subst hv1 hv3
      obtain ⟨b, hb⟩ : ∃ b, collW s.a0 = b := ⟨_, rfl⟩
      have C1 : Hid (∀ W, Calls Tryd.prog 12 #[.agg s.cells] W fun e w' => e = .returned (.bool b) ∧ Below W.heap.size W w') := Lib.hid fun W => hb ▸ wcolls_any s W
      have C2 : Hid (∀ W, Calls Tryd.prog 13 #[.agg s.cells] W fun e w' => e = .returned (.bool b) ∧ Below W.heap.size W w') := Lib.hid fun W => hb ▸ rcolls_any s W
      have HLS : Hid (∀ W, Below wr.heap.size wr W → Lies W ⟨a3.block, o3, none⟩ s.cells) := Lib.hid fun W h => hL3.below h
      clear hv4 hL3 hs hb
      go_wp2_with fail
      refine region_any (by kernel_rfl) (fun W => Below wr.heap.size wr W) (below_drewN (Below.refl _ _) 1) (fun R hR => ?_)
      refine AllS.take (i := 0) (v := ?_) (by rw [List.getElem?_toArray]; rfl) (by kernel_rfl) (by kernel_rfl) (by kernel_rfl) (KeepsIf.read (by rfl) ?_) ?_
      rotate_left
      · intro W hSw
        (try dsimp only at hSw)
        go_simp
        (try with_reducible rfl)
      rotate_left
      (try simp only [Act.put, List.setIfInBounds_toArray, List.set_cons_zero, List.set_cons_succ])
      refine AllS.take (i := 1) (v := ?_) (by rw [List.getElem?_toArray]; rfl) (by kernel_rfl) (by kernel_rfl) (by kernel_rfl) (KeepsIf.read (by rfl) ?_) ?_
      rotate_left
      · intro W hSw
        (try dsimp only at hSw)
        go_simp
        (try with_reducible rfl)
      rotate_left
      (try simp only [Act.put, List.setIfInBounds_toArray, List.set_cons_zero, List.set_cons_succ])
      refine AllS.take (i := 2) (v := ?_) (by rw [List.getElem?_toArray]; rfl) (by kernel_rfl) (by kernel_rfl) (by kernel_rfl) (KeepsIf.read (by rfl) ?_) ?_
      rotate_left
      · intro W hSw
        (try dsimp only at hSw)
        go_simp
        (try with_reducible rfl)
      rotate_left
      (try simp only [Act.put, List.setIfInBounds_toArray, List.set_cons_zero, List.set_cons_succ])
      refine AllS.take (i := 3) (v := .agg s.cells) (by rw [List.getElem?_toArray]; rfl) (by kernel_rfl) (by kernel_rfl) (by kernel_rfl) (KeepsIf.read (by rfl) (fun W hSw => ?_)) ?_
      · (try dsimp only at hSw)
        first | exact rdS (.tmp 34) rfl _ rfl s (HLS.out W hSw) | exact rdS (.tmp 34) rfl _ rfl s (ha3 ▸ HLS.out W hSw)
      (try simp only [Act.put, List.setIfInBounds_toArray, List.set_cons_zero, List.set_cons_succ])
      refine AllS.take (i := 4) (v := .bool b) (by rw [List.getElem?_toArray]; rfl) (by kernel_rfl) (by kernel_rfl) (by kernel_rfl) (KeepsIf.call 12 #[.agg s.cells] (by kernel_rfl) (fun W => ?_) (fun W hSw => ?_)) ?_
      · go_simp
      · exact (C1.out W).mono (fun e w2 h => ⟨h.1, below_seq hSw h.2⟩)
      (try simp only [Act.put, List.setIfInBounds_toArray, List.set_cons_zero, List.set_cons_succ])
      refine AllS.take (i := 5) (v := ?_) (by rw [List.getElem?_toArray]; rfl) (by kernel_rfl) (by kernel_rfl) (by kernel_rfl) (KeepsIf.read (by rfl) ?_) ?_
      rotate_left
      · intro W hSw
        (try dsimp only at hSw)
        go_simp
        (try with_reducible rfl)
      rotate_left
      (try simp only [Act.put, List.setIfInBounds_toArray, List.set_cons_zero, List.set_cons_succ])
      refine AllS.take (i := 6) (v := ?_) (by rw [List.getElem?_toArray]; rfl) (by kernel_rfl) (by kernel_rfl) (by kernel_rfl) (KeepsIf.read (by rfl) ?_) ?_
      rotate_left
      · intro W hSw
        (try dsimp only at hSw)
        go_simp
        (try with_reducible rfl)
      rotate_left
      (try simp only [Act.put, List.setIfInBounds_toArray, List.set_cons_zero, List.set_cons_succ])
      refine AllS.take (i := 7) (v := ?_) (by rw [List.getElem?_toArray]; rfl) (by kernel_rfl) (by kernel_rfl) (by kernel_rfl) (KeepsIf.read (by rfl) ?_) ?_
      rotate_left
      · intro W hSw
        (try dsimp only at hSw)
        go_simp
        (try with_reducible rfl)
      rotate_left
      (try simp only [Act.put, List.setIfInBounds_toArray, List.set_cons_zero, List.set_cons_succ])
      refine AllS.take (i := 8) (v := .agg s.cells) (by rw [List.getElem?_toArray]; rfl) (by kernel_rfl) (by kernel_rfl) (by kernel_rfl) (KeepsIf.read (by rfl) (fun W hSw => ?_)) ?_
      · (try dsimp only at hSw)
        first | exact rdS (.tmp 39) rfl _ rfl s (HLS.out W hSw) | exact rdS (.tmp 39) rfl _ rfl s (ha3 ▸ HLS.out W hSw)
      (try simp only [Act.put, List.setIfInBounds_toArray, List.set_cons_zero, List.set_cons_succ])
      refine AllS.take (i := 9) (v := .bool b) (by rw [List.getElem?_toArray]; rfl) (by kernel_rfl) (by kernel_rfl) (by kernel_rfl) (KeepsIf.call 13 #[.agg s.cells] (by kernel_rfl) (fun W => ?_) (fun W hSw => ?_)) ?_
      · go_simp
      · exact (C2.out W).mono (fun e w2 h => ⟨h.1, below_seq hSw h.2⟩)
      (try simp only [Act.put, List.setIfInBounds_toArray, List.set_cons_zero, List.set_cons_succ])
      refine AllS.take (i := 10) (v := .bool false) (by rw [List.getElem?_toArray]; rfl) (by kernel_rfl) (by kernel_rfl) (by kernel_rfl) (KeepsIf.read (by rfl) (fun W hSw => ?_)) ?_
      · (try dsimp only at hSw)
        cases b <;> go_simp
      (try simp only [Act.put, List.setIfInBounds_toArray, List.set_cons_zero, List.set_cons_succ])
      refine AllS.done (by kernel_rfl) (hR.out _ ?_) _
      clear hR R
      intro w6 b6
      clear C1 C2 HLS
      go_wp2_with fail
      go_roundg (q - (i + 1))
      case measure => omega
      case rel => exact ⟨i + 1, by go_num, by omega, by omega, below_seq bel b6⟩
    · obtain rfl : q = i := by omega
      have CS : Hid (Calls Tryd.prog 14 #[ua, ub] wr fun e w' => e = .returned (.bool true) ∧ Below wr.heap.size wr w') := Lib.hid ((wsame_any ua ub a a wr (HRA4.out.below bel) (HRB.out.below bel) (by have := HA150.out; omega)).mono fun e w' h => ⟨by rw [h.1, decide_eq_true rfl], h.2⟩)
      go_wp2_with fail
      refine CS.out.mono ?_
      rintro e w5 ⟨rfl, b5⟩
      have t5 := below_seq bel b5
      have K1 := Lib.hid (wkept_any a ua w5 (HRA4.out.below t5) (by have := HA150.out; omega) HFA.out)
      clear CS
      go_wp2_with fail
      refine K1.out.mono ?_
      rintro e w6 ⟨s1, rfl, hs1, b6⟩
      have t6 := below_seq t5 b6
      have K2 := Lib.hid (rkept_any a ub w6 (HRB.out.below t6) (by have := HA150.out; omega))
      have HS1 := Lib.hid hs1
      clear K1 hs1
      go_wp2_with fail
      refine K2.out.mono ?_
      rintro e w7 ⟨s2, rfl, hs2, b7⟩
      obtain rfl : s1 = s2 := bs_inj _ _ (HS1.out.trans hs2.symm)
      have t7 := below_seq t6 b7
      have K3 := Lib.hid (wkept_any l v w7 (H1.out.below (below_seq HB4.out t7)) (by have := hl150.out; omega) HFT.out)
      clear K2 hs2
      go_wp2_with fail
      refine K3.out.mono ?_
      rintro e w8 ⟨s3, rfl, hs3, b8⟩
      have t8 := below_seq t7 b8
      have K4 := Lib.hid (rkept_any l v w8 (H1.out.below (below_seq HB4.out t8)) (by have := hl150.out; omega))
      have HS3 := Lib.hid hs3
      clear K3 hs3
      go_wp2_with fail
      refine K4.out.mono ?_
      rintro e w9 ⟨s4, rfl, hs4, b9⟩
      obtain rfl : s3 = s4 := bs_inj _ _ (HS3.out.trans hs4.symm)
      have HB9 := Lib.hid (below_seq HB4.out (below_seq t8 b9))
      clear K4 hs4 b5 b6 b7 b8 b9 t5 t6 t7 t8
      go_wp2_with fail
      refine (HD.out _ HB9.out).mono ?_
      rintro e w10 ⟨rfl, b10⟩
      go_wp2_with fail
      go_ret
      exact ⟨rfl, b10⟩
end Go.Proofs.YtejcfhfmdijimaaDoor
