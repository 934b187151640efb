/- Contracts of unicode/utf8.AppendRune onto a row of bytes of the call's own, and of white.Kept. Conditions: at most 1048576 characters, whose numbers fit 32 bits, lie where the slice says. -/
import Derived.Test.YtejcfhfmdijimaaDoorWhE
import Derived.Test.YtejcfhfmdijimaaDoorUtfMath
import Derived.Shelf.Strings.BuilderK
import Derived.Lib.RuneBytes
import Derived.Lib.BufferRead
namespace Go.Proofs.YtejcfhfmdijimaaDoor
open Go.ChangeShapes Go.WideShapes Go.ChangeAt Go.RowKit Go.Shelf
open Wh

/-- a row of bytes of the call's own -/
def OwB (base : Nat) (w : World) (v : Value) (l : List Nat) : Prop := w.ownsRow base 5 1 v l.length (cb l)
theorem OwB.keep_ {base : Nat} {w w' : World} {v : Value} {l : List Nat} (h : OwB base w v l) (b : Below w.heap.size w w') : OwB base w' v l := own_keep (S := fun _ => False) h (Mod.of_below b) fun _ _ => id
theorem own_geW {w : World} {base : Nat} {e : TypeId} {size : Nat} {v : Value} {n : Nat} {xs : List Value} {k : Nat} (h : w.ownsRow base e size v n xs) (hk : v.ownBlock = some k) : base ≤ k := by
  rcases h.2 with ⟨rfl, _⟩ | ⟨g, cap, cur, rfl, hb, _⟩
  · simp [Value.ownBlock] at hk
  · obtain rfl : g = k := by simpa [Value.ownBlock] using hk
    exact hb
theorem info8W : (Tryd.prog.info? 5).map (fun i => (i.zero, i.size, i.bytes)) = some (some (.int .u8 0), 1, 1) := by kernel_rfl


set_option maxRecDepth 100000 in
set_option maxHeartbeats 4000000 in
theorem arune_1 (base : Nat) (v : Value) (l : List Nat) (r : Int) (h0 : 0 ≤ r) (h1 : r ≤ 127) (w : World) (h : OwB base w v l) (hb : base ≤ w.heap.size) (hl : l.length ≤ 4194304) :
    Calls Tryd.prog 32 #[v, .int .i32 r] w fun e w' => ∃ u, e = .returned u ∧ w'.ownsRow base 5 1 u (l.length + 1) (cb l ++ [.int .u8 (r)]) ∧ Below base w w' := by
  obtain ⟨i0, hi, hz0, hz1, hz2⟩ := info_parts info8W
  have H := Lib.hid h
  have hown : w.ownsRow base 5 1 v l.length (cb l) := h
  have HB := Lib.hid hb
  clear h hb
  go_enter Tryd.func32, Tryd.ntmps32
  go_wp2_with (at_builtin; refine wpList_append_own _ rfl _ _ 44 rfl base 5 i0 (.int .u8 0) 1 1 Tryd.underlying44 hi hz0 hz1 hz2 rfl (by decide) _ _ _ rfl (hown.alloc _) ⟨w.heap.size, 0, none⟩ 1 1 [.int .u8 (r)] rfl rfl ?c1 ?c2 ?c3 ?c4 ?c5 ?_)
  all_goals first
    | (intro v' w2 hown' hgrow _
       go_wp2
       go_ret
       exact ⟨_, rfl, hown', (Below.alloc (Below.refl base w) HB.out _).grown hgrow (by simp; have := HB.out; omega) fun k hk => own_geW H.out hk⟩)
    | (unfold maxLen; omega)
    | omega
    | (have := HB.out; simp; omega)
    | rfl
    | exact ⟨rfl, rfl, rfl⟩
    | (intro u hu; simp at hu; rcases hu with rfl <;> rfl)
    | (intro j u hj
       match j, hj with
         | 0, hj => simp at hj; subst hj; simp [Addr.add]
         | (j + 1), hj => simp at hj)


set_option maxRecDepth 100000 in
set_option maxHeartbeats 4000000 in
theorem arune_2 (base : Nat) (v : Value) (l : List Nat) (r : Int) (h0 : 128 ≤ r) (h1 : r ≤ 2047) (w : World) (h : OwB base w v l) (hb : base ≤ w.heap.size) (hl : l.length ≤ 4194304) :
    Calls Tryd.prog 61 #[v, .int .i32 r] w fun e w' => ∃ u, e = .returned u ∧ w'.ownsRow base 5 1 u (l.length + 2) (cb l ++ [.int .u8 (192 + r / 64), .int .u8 (128 + r % 64)]) ∧ Below base w w' := by
  obtain ⟨i0, hi, hz0, hz1, hz2⟩ := info_parts info8W
  have H := Lib.hid h
  have hown : w.ownsRow base 5 1 v l.length (cb l) := h
  have HB := Lib.hid hb
  clear h hb
  go_enter Tryd.func61, Tryd.ntmps61
  go_wp2_with (at_builtin; refine wpList_append_own _ rfl _ _ 44 rfl base 5 i0 (.int .u8 0) 1 1 Tryd.underlying44 hi hz0 hz1 hz2 rfl (by decide) _ _ _ rfl (hown.alloc _) ⟨w.heap.size, 0, none⟩ 2 2 [.int .u8 (192 + r / 64), .int .u8 (128 + r % 64)] rfl rfl ?c1 ?c2 ?c3 ?c4 ?c5 ?_)
  all_goals first
    | (intro v' w2 hown' hgrow _
       go_wp2
       go_ret
       exact ⟨_, rfl, hown', (Below.alloc (Below.refl base w) HB.out _).grown hgrow (by simp; have := HB.out; omega) fun k hk => own_geW H.out hk⟩)
    | (unfold maxLen; omega)
    | omega
    | (have := HB.out; simp; omega)
    | rfl
    | exact ⟨rfl, rfl, rfl⟩
    | (intro u hu; simp at hu; rcases hu with rfl | rfl <;> rfl)
    | (intro j u hj
       match j, hj with
         | 0, hj => simp at hj; subst hj; simp [Addr.add]
         | 1, hj => simp at hj; subst hj; simp [Addr.add]
         | (j + 2), hj => simp at hj)


set_option maxRecDepth 100000 in
set_option maxHeartbeats 4000000 in
theorem arune_3a (base : Nat) (v : Value) (l : List Nat) (r : Int) (h0 : 2048 ≤ r) (h1 : r < 55296) (w : World) (h : OwB base w v l) (hb : base ≤ w.heap.size) (hl : l.length ≤ 4194304) :
    Calls Tryd.prog 61 #[v, .int .i32 r] w fun e w' => ∃ u, e = .returned u ∧ w'.ownsRow base 5 1 u (l.length + 3) (cb l ++ [.int .u8 (224 + r / 4096), .int .u8 (128 + r / 64 % 64), .int .u8 (128 + r % 64)]) ∧ Below base w w' := by
  obtain ⟨i0, hi, hz0, hz1, hz2⟩ := info_parts info8W
  have H := Lib.hid h
  have hown : w.ownsRow base 5 1 v l.length (cb l) := h
  have HB := Lib.hid hb
  clear h hb
  go_enter Tryd.func61, Tryd.ntmps61
  go_wp2_with (at_builtin; refine wpList_append_own _ rfl _ _ 44 rfl base 5 i0 (.int .u8 0) 1 1 Tryd.underlying44 hi hz0 hz1 hz2 rfl (by decide) _ _ _ rfl (hown.alloc _) ⟨w.heap.size, 0, none⟩ 3 3 [.int .u8 (224 + r / 4096), .int .u8 (128 + r / 64 % 64), .int .u8 (128 + r % 64)] rfl rfl ?c1 ?c2 ?c3 ?c4 ?c5 ?_)
  all_goals first
    | (intro v' w2 hown' hgrow _
       go_wp2
       go_ret
       exact ⟨_, rfl, hown', (Below.alloc (Below.refl base w) HB.out _).grown hgrow (by simp; have := HB.out; omega) fun k hk => own_geW H.out hk⟩)
    | (unfold maxLen; omega)
    | omega
    | (have := HB.out; simp; omega)
    | rfl
    | exact ⟨rfl, rfl, rfl⟩
    | (intro u hu; simp at hu; rcases hu with rfl | rfl | rfl <;> rfl)
    | (intro j u hj
       match j, hj with
         | 0, hj => simp at hj; subst hj; simp [Addr.add]
         | 1, hj => simp at hj; subst hj; simp [Addr.add]
         | 2, hj => simp at hj; subst hj; simp [Addr.add]
         | (j + 3), hj => simp at hj)


set_option maxRecDepth 100000 in
set_option maxHeartbeats 4000000 in
theorem arune_3b (base : Nat) (v : Value) (l : List Nat) (r : Int) (h0 : 57343 < r) (h1 : r ≤ 65535) (w : World) (h : OwB base w v l) (hb : base ≤ w.heap.size) (hl : l.length ≤ 4194304) :
    Calls Tryd.prog 61 #[v, .int .i32 r] w fun e w' => ∃ u, e = .returned u ∧ w'.ownsRow base 5 1 u (l.length + 3) (cb l ++ [.int .u8 (224 + r / 4096), .int .u8 (128 + r / 64 % 64), .int .u8 (128 + r % 64)]) ∧ Below base w w' := by
  obtain ⟨i0, hi, hz0, hz1, hz2⟩ := info_parts info8W
  have H := Lib.hid h
  have hown : w.ownsRow base 5 1 v l.length (cb l) := h
  have HB := Lib.hid hb
  clear h hb
  go_enter Tryd.func61, Tryd.ntmps61
  go_wp2_with (at_builtin; refine wpList_append_own _ rfl _ _ 44 rfl base 5 i0 (.int .u8 0) 1 1 Tryd.underlying44 hi hz0 hz1 hz2 rfl (by decide) _ _ _ rfl (hown.alloc _) ⟨w.heap.size, 0, none⟩ 3 3 [.int .u8 (224 + r / 4096), .int .u8 (128 + r / 64 % 64), .int .u8 (128 + r % 64)] rfl rfl ?c1 ?c2 ?c3 ?c4 ?c5 ?_)
  all_goals first
    | (intro v' w2 hown' hgrow _
       go_wp2
       go_ret
       exact ⟨_, rfl, hown', (Below.alloc (Below.refl base w) HB.out _).grown hgrow (by simp; have := HB.out; omega) fun k hk => own_geW H.out hk⟩)
    | (unfold maxLen; omega)
    | omega
    | (have := HB.out; simp; omega)
    | rfl
    | exact ⟨rfl, rfl, rfl⟩
    | (intro u hu; simp at hu; rcases hu with rfl | rfl | rfl <;> rfl)
    | (intro j u hj
       match j, hj with
         | 0, hj => simp at hj; subst hj; simp [Addr.add]
         | 1, hj => simp at hj; subst hj; simp [Addr.add]
         | 2, hj => simp at hj; subst hj; simp [Addr.add]
         | (j + 3), hj => simp at hj)


set_option maxRecDepth 100000 in
set_option maxHeartbeats 4000000 in
theorem arune_4 (base : Nat) (v : Value) (l : List Nat) (r : Int) (h0 : 65536 ≤ r) (h1 : r ≤ 1114111) (w : World) (h : OwB base w v l) (hb : base ≤ w.heap.size) (hl : l.length ≤ 4194304) :
    Calls Tryd.prog 61 #[v, .int .i32 r] w fun e w' => ∃ u, e = .returned u ∧ w'.ownsRow base 5 1 u (l.length + 4) (cb l ++ [.int .u8 (240 + r / 262144), .int .u8 (128 + r / 4096 % 64), .int .u8 (128 + r / 64 % 64), .int .u8 (128 + r % 64)]) ∧ Below base w w' := by
  obtain ⟨i0, hi, hz0, hz1, hz2⟩ := info_parts info8W
  have H := Lib.hid h
  have hown : w.ownsRow base 5 1 v l.length (cb l) := h
  have HB := Lib.hid hb
  clear h hb
  go_enter Tryd.func61, Tryd.ntmps61
  go_wp2_with (at_builtin; refine wpList_append_own _ rfl _ _ 44 rfl base 5 i0 (.int .u8 0) 1 1 Tryd.underlying44 hi hz0 hz1 hz2 rfl (by decide) _ _ _ rfl (hown.alloc _) ⟨w.heap.size, 0, none⟩ 4 4 [.int .u8 (240 + r / 262144), .int .u8 (128 + r / 4096 % 64), .int .u8 (128 + r / 64 % 64), .int .u8 (128 + r % 64)] rfl rfl ?c1 ?c2 ?c3 ?c4 ?c5 ?_)
  all_goals first
    | (intro v' w2 hown' hgrow _
       go_wp2
       go_ret
       exact ⟨_, rfl, hown', (Below.alloc (Below.refl base w) HB.out _).grown hgrow (by simp; have := HB.out; omega) fun k hk => own_geW H.out hk⟩)
    | (unfold maxLen; omega)
    | omega
    | (have := HB.out; simp; omega)
    | rfl
    | exact ⟨rfl, rfl, rfl⟩
    | (intro u hu; simp at hu; rcases hu with rfl | rfl | rfl | rfl <;> rfl)
    | (intro j u hj
       match j, hj with
         | 0, hj => simp at hj; subst hj; simp [Addr.add]
         | 1, hj => simp at hj; subst hj; simp [Addr.add]
         | 2, hj => simp at hj; subst hj; simp [Addr.add]
         | 3, hj => simp at hj; subst hj; simp [Addr.add]
         | (j + 4), hj => simp at hj)


set_option maxRecDepth 100000 in
set_option maxHeartbeats 4000000 in
theorem arune_b1 (base : Nat) (v : Value) (l : List Nat) (r : Int) (h0 : -2147483648 ≤ r) (h1 : r < 0) (w : World) (h : OwB base w v l) (hb : base ≤ w.heap.size) (hl : l.length ≤ 4194304) :
    Calls Tryd.prog 61 #[v, .int .i32 r] w fun e w' => ∃ u, e = .returned u ∧ w'.ownsRow base 5 1 u (l.length + 3) (cb l ++ [.int .u8 (239), .int .u8 (191), .int .u8 (189)]) ∧ Below base w w' := by
  obtain ⟨i0, hi, hz0, hz1, hz2⟩ := info_parts info8W
  have H := Lib.hid h
  have hown : w.ownsRow base 5 1 v l.length (cb l) := h
  have HB := Lib.hid hb
  clear h hb
  go_enter Tryd.func61, Tryd.ntmps61
  go_wp2_with (at_builtin; refine wpList_append_own _ rfl _ _ 44 rfl base 5 i0 (.int .u8 0) 1 1 Tryd.underlying44 hi hz0 hz1 hz2 rfl (by decide) _ _ _ rfl (hown.alloc _) ⟨w.heap.size, 0, none⟩ 3 3 [.int .u8 (239), .int .u8 (191), .int .u8 (189)] rfl rfl ?c1 ?c2 ?c3 ?c4 ?c5 ?_)
  all_goals first
    | (intro v' w2 hown' hgrow _
       go_wp2
       go_ret
       exact ⟨_, rfl, hown', (Below.alloc (Below.refl base w) HB.out _).grown hgrow (by simp; have := HB.out; omega) fun k hk => own_geW H.out hk⟩)
    | (unfold maxLen; omega)
    | omega
    | (have := HB.out; simp; omega)
    | rfl
    | exact ⟨rfl, rfl, rfl⟩
    | (intro u hu; simp at hu; rcases hu with rfl | rfl | rfl <;> rfl)
    | (intro j u hj
       match j, hj with
         | 0, hj => simp at hj; subst hj; simp [Addr.add]
         | 1, hj => simp at hj; subst hj; simp [Addr.add]
         | 2, hj => simp at hj; subst hj; simp [Addr.add]
         | (j + 3), hj => simp at hj)


set_option maxRecDepth 100000 in
set_option maxHeartbeats 4000000 in
theorem arune_b2 (base : Nat) (v : Value) (l : List Nat) (r : Int) (h0 : 55296 ≤ r) (h1 : r ≤ 57343) (w : World) (h : OwB base w v l) (hb : base ≤ w.heap.size) (hl : l.length ≤ 4194304) :
    Calls Tryd.prog 61 #[v, .int .i32 r] w fun e w' => ∃ u, e = .returned u ∧ w'.ownsRow base 5 1 u (l.length + 3) (cb l ++ [.int .u8 (239), .int .u8 (191), .int .u8 (189)]) ∧ Below base w w' := by
  obtain ⟨i0, hi, hz0, hz1, hz2⟩ := info_parts info8W
  have H := Lib.hid h
  have hown : w.ownsRow base 5 1 v l.length (cb l) := h
  have HB := Lib.hid hb
  clear h hb
  go_enter Tryd.func61, Tryd.ntmps61
  go_wp2_with (at_builtin; refine wpList_append_own _ rfl _ _ 44 rfl base 5 i0 (.int .u8 0) 1 1 Tryd.underlying44 hi hz0 hz1 hz2 rfl (by decide) _ _ _ rfl (hown.alloc _) ⟨w.heap.size, 0, none⟩ 3 3 [.int .u8 (239), .int .u8 (191), .int .u8 (189)] rfl rfl ?c1 ?c2 ?c3 ?c4 ?c5 ?_)
  all_goals first
    | (intro v' w2 hown' hgrow _
       go_wp2
       go_ret
       exact ⟨_, rfl, hown', (Below.alloc (Below.refl base w) HB.out _).grown hgrow (by simp; have := HB.out; omega) fun k hk => own_geW H.out hk⟩)
    | (unfold maxLen; omega)
    | omega
    | (have := HB.out; simp; omega)
    | rfl
    | exact ⟨rfl, rfl, rfl⟩
    | (intro u hu; simp at hu; rcases hu with rfl | rfl | rfl <;> rfl)
    | (intro j u hj
       match j, hj with
         | 0, hj => simp at hj; subst hj; simp [Addr.add]
         | 1, hj => simp at hj; subst hj; simp [Addr.add]
         | 2, hj => simp at hj; subst hj; simp [Addr.add]
         | (j + 3), hj => simp at hj)


set_option maxRecDepth 100000 in
set_option maxHeartbeats 4000000 in
theorem arune_b3 (base : Nat) (v : Value) (l : List Nat) (r : Int) (h0 : 1114111 < r) (h1 : r ≤ 2147483647) (w : World) (h : OwB base w v l) (hb : base ≤ w.heap.size) (hl : l.length ≤ 4194304) :
    Calls Tryd.prog 61 #[v, .int .i32 r] w fun e w' => ∃ u, e = .returned u ∧ w'.ownsRow base 5 1 u (l.length + 3) (cb l ++ [.int .u8 (239), .int .u8 (191), .int .u8 (189)]) ∧ Below base w w' := by
  obtain ⟨i0, hi, hz0, hz1, hz2⟩ := info_parts info8W
  have H := Lib.hid h
  have hown : w.ownsRow base 5 1 v l.length (cb l) := h
  have HB := Lib.hid hb
  clear h hb
  go_enter Tryd.func61, Tryd.ntmps61
  go_wp2_with (at_builtin; refine wpList_append_own _ rfl _ _ 44 rfl base 5 i0 (.int .u8 0) 1 1 Tryd.underlying44 hi hz0 hz1 hz2 rfl (by decide) _ _ _ rfl (hown.alloc _) ⟨w.heap.size, 0, none⟩ 3 3 [.int .u8 (239), .int .u8 (191), .int .u8 (189)] rfl rfl ?c1 ?c2 ?c3 ?c4 ?c5 ?_)
  all_goals first
    | (intro v' w2 hown' hgrow _
       go_wp2
       go_ret
       exact ⟨_, rfl, hown', (Below.alloc (Below.refl base w) HB.out _).grown hgrow (by simp; have := HB.out; omega) fun k hk => own_geW H.out hk⟩)
    | (unfold maxLen; omega)
    | omega
    | (have := HB.out; simp; omega)
    | rfl
    | exact ⟨rfl, rfl, rfl⟩
    | (intro u hu; simp at hu; rcases hu with rfl | rfl | rfl <;> rfl)
    | (intro j u hj
       match j, hj with
         | 0, hj => simp at hj; subst hj; simp [Addr.add]
         | 1, hj => simp at hj; subst hj; simp [Addr.add]
         | 2, hj => simp at hj; subst hj; simp [Addr.add]
         | (j + 3), hj => simp at hj)


theorem OwB.of {base : Nat} {w w' : World} {e : Ending} {l m : List Nat} {cs : List Value} {k : Nat} (hk : m.length = k) (hm : cb m = cs) (h : ∃ u, e = .returned u ∧ w'.ownsRow base 5 1 u (l.length + k) (cb l ++ cs) ∧ Below base w w') : ∃ u, e = .returned u ∧ OwB base w' u (l ++ m) ∧ Below base w w' := by
  obtain ⟨u, h1, h2, h3⟩ := h
  refine ⟨u, h1, ?_, h3⟩
  unfold OwB
  rw [List.length_append, cb_append, hk, hm]
  exact h2


theorem one_good (q : Nat) (h : Utf.Pt (q : Int)) : Utf.one (q : Int) = Utf.bytes q := Utf.one_pt _ q rfl h
theorem one_bad_ (r : Int) (h : ¬ Utf.Pt r) : Utf.one r = [239, 191, 189] := by
  unfold Utf.one Utf.fix
  rw [if_neg h]
  rfl
theorem arune_non (base : Nat) (v : Value) (l : List Nat) (r : Int) (h0 : -2147483648 ≤ r) (h1 : r ≤ 2147483647) (hna : r < 0 ∨ 128 ≤ r) (w : World) (h : OwB base w v l) (hb : base ≤ w.heap.size) (hl : l.length ≤ 4194304) :
    Calls Tryd.prog 61 #[v, .int .i32 r] w fun e w' => ∃ u, e = .returned u ∧ OwB base w' u (l ++ Utf.one r) ∧ Below base w w' := by
  by_cases c0 : r < 0
  · rw [one_bad_ r (by unfold Utf.Pt; omega)]
    exact (arune_b1 base v l r h0 c0 w h hb hl).mono fun e w' h => OwB.of rfl (by simp [cb]) h
  · obtain ⟨q, rfl⟩ : ∃ q : Nat, r = q := ⟨r.toNat, by omega⟩
    by_cases c1 : q ≤ 2047
    · rw [one_good q (by unfold Utf.Pt; omega), show Utf.bytes q = [192 + q / 64, 128 + q % 64] by unfold Utf.bytes; rw [if_neg (by omega), if_pos (by omega)]]
      exact (arune_2 base v l q (by omega) (by omega) w h hb hl).mono fun e w' h => OwB.of rfl (by simp [cb]) h
    · by_cases c2 : q < 55296
      · rw [one_good q (by unfold Utf.Pt; omega), show Utf.bytes q = [224 + q / 4096, 128 + q / 64 % 64, 128 + q % 64] by unfold Utf.bytes; rw [if_neg (by omega), if_neg (by omega), if_pos (by omega)]]
        exact (arune_3a base v l q (by omega) (by omega) w h hb hl).mono fun e w' h => OwB.of rfl (by simp [cb]) h
      · by_cases c3 : q ≤ 57343
        · rw [one_bad_ _ (by unfold Utf.Pt; omega)]
          exact (arune_b2 base v l q (by omega) (by omega) w h hb hl).mono fun e w' h => OwB.of rfl (by simp [cb]) h
        · by_cases c4 : q ≤ 65535
          · rw [one_good q (by unfold Utf.Pt; omega), show Utf.bytes q = [224 + q / 4096, 128 + q / 64 % 64, 128 + q % 64] by unfold Utf.bytes; rw [if_neg (by omega), if_neg (by omega), if_pos (by omega)]]
            exact (arune_3b base v l q (by omega) (by omega) w h hb hl).mono fun e w' h => OwB.of rfl (by simp [cb]) h
          · by_cases c5 : q ≤ 1114111
            · rw [one_good q (by unfold Utf.Pt; omega), show Utf.bytes q = [240 + q / 262144, 128 + q / 4096 % 64, 128 + q / 64 % 64, 128 + q % 64] by unfold Utf.bytes; rw [if_neg (by omega), if_neg (by omega), if_neg (by omega)]]
              exact (arune_4 base v l q (by omega) (by omega) w h hb hl).mono fun e w' h => OwB.of rfl (by simp [cb]) h
            · rw [one_bad_ _ (by unfold Utf.Pt; omega)]
              exact (arune_b3 base v l q (by omega) h1 w h hb hl).mono fun e w' h => OwB.of rfl (by simp [cb]) h

set_option maxRecDepth 100000 in
set_option maxHeartbeats 4000000 in
theorem arune_any (base : Nat) (v : Value) (l : List Nat) (r : Int) (h0 : -2147483648 ≤ r) (h1 : r ≤ 2147483647) (w : World) (h : OwB base w v l) (hb : base ≤ w.heap.size) (hl : l.length ≤ 4194304) :
    Calls Tryd.prog 32 #[v, .int .i32 r] w fun e w' => ∃ u, e = .returned u ∧ OwB base w' u (l ++ Utf.one r) ∧ Below base w w' := by
  by_cases c : 0 ≤ r ∧ r ≤ 127
  · obtain ⟨q, rfl⟩ : ∃ q : Nat, r = q := ⟨r.toNat, by omega⟩
    rw [one_good q (by unfold Utf.Pt; omega), show Utf.bytes q = [q] by unfold Utf.bytes; rw [if_pos (by omega)]]
    exact (arune_1 base v l q (by omega) (by omega) w h hb hl).mono fun e w' h => OwB.of rfl (by simp [cb]) h
  · have hna : r < 0 ∨ 128 ≤ r := by omega
    have C := Lib.hid (arune_non base v l r h0 h1 hna w h hb hl)
    clear h c
    rcases hna with hna | hna
    all_goals
      go_enter Tryd.func32, Tryd.ntmps32
      go_wp2_with fail
      refine C.out.mono ?_
      rintro e w2 ⟨u, rfl, O, b⟩
      have HO := Lib.hid O
      clear O
      go_wp2_with fail
      go_ret
      exact ⟨_, rfl, HO.out, b⟩


/-! ### Kept -/
def krn (c : Cr) : Int := if c.kind = 5 then 10 else if c.kind = 6 then 65532 else c.r
def keptL (l : List Cr) : List Nat := Utf.enc (l.map krn)
theorem bytes_lt (q : Nat) (h : Utf.Pt (q : Int)) : ∀ b ∈ Utf.bytes q, b < 256 := by
  unfold Utf.Pt at h
  unfold Utf.bytes
  intro b hb
  split at hb
  · simp at hb; omega
  · split at hb
    · simp at hb; omega
    · split at hb
      · simp at hb; omega
      · simp at hb; omega
theorem one_lt (r : Int) : ∀ b ∈ Utf.one r, b < 256 := by
  have h := Utf.fix_pt r
  have e : ((Utf.fix r).toNat : Int) = Utf.fix r := by unfold Utf.Pt at h; omega
  exact bytes_lt _ (by rw [e]; exact h)
theorem enc_lt (l : List Int) : ∀ b ∈ Utf.enc l, b < 256 := fun b hb => by
  obtain ⟨r, _, h⟩ := List.mem_flatMap.1 hb
  exact one_lt r b h
theorem one_le (r : Int) : (Utf.one r).length ≤ 4 := by
  unfold Utf.one Utf.bytes
  split
  · simp
  · split
    · simp
    · split <;> simp
theorem enc_le : ∀ l : List Int, (Utf.enc l).length ≤ 4 * l.length
  | [] => Nat.le_refl _
  | r :: l => by
    have := enc_le l
    have := one_le r
    unfold Utf.enc at *
    rw [List.flatMap_cons, List.length_append, List.length_cons]
    omega
theorem enc_take {l : List Cr} {k : Nat} {c : Cr} (h : l[k]? = some c) : keptL (l.take (k + 1)) = keptL (l.take k) ++ Utf.one (krn c) := by
  unfold keptL Utf.enc
  rw [List.take_add_one, h]
  simp
theorem bs_numsW (l : List Nat) (h : ∀ b ∈ l, b < 256) : bs (strOfNums (l.map fun (b : Nat) => (b : Int))) = l := by
  unfold bs strOfNums
  simp only [List.map_map]
  refine (List.map_congr_left fun x hx => ?_).trans (List.map_id l)
  have := h x hx
  simp [UInt8.toNat_ofNat']
  omega
theorem conv_own {base : Nat} {w : World} {v : Value} {l : List Nat} (h : OwB base w v l) : (convert 44 9 v).run Tryd.prog w = .ok (.string (strOfNums (l.map fun (b : Nat) => (b : Int)))) w := by
  rcases h.2 with ⟨rfl, h0⟩ | ⟨g, cap, cur, rfl, _, hg, _⟩
  · obtain rfl := List.length_eq_zero_iff.1 h0
    exact Lib.run_convert_nil_bytes w 44 9 5 0 Tryd.underlying44 Tryd.underlying5 Tryd.underlying9
  · have hc := World.ownsRow.cells h (g := g) rfl
    have := run_convert_bytes_arg w 44 5 Tryd.underlying44 Tryd.underlying5 g 0 l.length cap (l.map fun (b : Nat) => (b : Int)) (by simp) (fun i hi => ?_) 9 Tryd.underlying9
    · exact this
    · have hi' : i < l.length := by simpa using hi
      have := hc i (.int .u8 (l[i] : Int)) (by unfold cb; rw [List.getElem?_map, List.getElem?_eq_getElem hi']; rfl)
      rw [Addr.add_lit] at this
      rw [this]
      simp [List.getElem?_eq_getElem hi']

set_option maxRecDepth 100000 in
set_option maxHeartbeats 4000000 in
theorem wkept_any (l : List Cr) (v : Value) (w : World) (hR : RwC w v l) (hlen : l.length ≤ 1048576) (hfit : ∀ c ∈ l, -2147483648 ≤ c.r ∧ c.r ≤ 2147483647) :
    Calls Tryd.prog 15 #[v] w fun e w' => ∃ s, e = .returned (.string s) ∧ bs s = keptL l ∧ Below w.heap.size w w' := by
  have HR := Lib.hid hR
  have HF := Lib.hid hfit
  obtain ⟨A, cap, rfl⟩ := hR.form
  obtain ⟨m, hm⟩ : ∃ m, l.length = m := ⟨_, rfl⟩
  have HM := Lib.hid hm
  rw [hm] at hlen HR ⊢
  clear hR hfit hm
  go_enter Tryd.func15, Tryd.ntmps15
  go_wp2_with fail
  have O0 : OwB w.heap.size w (.slice none 0 0) (keptL (l.take 0)) := World.ownsRow_nil _ _ _ _
  go_loopg [3, 9] m (fun kx s3 s9 wr => ∃ (k : Nat) (u : Value), u = s3 ∧ s9 = .int .i64 k ∧ k ≤ m ∧ kx = m - k ∧ OwB w.heap.size wr u (keptL (l.take k)) ∧ Below w.heap.size w wr)
  case atStart => exact ⟨0, _, rfl, rfl, by omega, by omega, O0, Below.refl _ _⟩
  case round =>
    clear O0
    obtain ⟨k, u, rfl, rfl, hk, rfl, O, b⟩ := hrel
    by_cases hkm : k < m
    · obtain ⟨c, hc⟩ : ∃ c, l[k]? = some c := ⟨_, List.getElem?_eq_getElem (by rw [HM.out]; exact hkm)⟩
      obtain ⟨a2, cap3, o, hv, hab, ha, hLi⟩ := HR.out.get b hc
      rw [HM.out] at hv
      injection hv with hv1 hv2 hv3
      subst hv1 hv3
      have HET := Lib.hid (enc_take hc)
      have hll : (keptL (l.take k)).length ≤ 4194304 := by
        have := enc_le ((l.take k).map krn)
        unfold keptL
        rw [List.length_map, List.length_take] at this
        omega
      obtain ⟨f0, f1⟩ := HF.out c (List.mem_of_getElem? hc)
      have HO := Lib.hid O
      have HB := Lib.hid b
      have hbs := b.size
      have hkz : (k : Int) < m := by omega
      obtain ⟨L, hL⟩ : ∃ L, keptL (l.take k) = L := ⟨_, rfl⟩
      rw [hL] at hll HO HET
      clear hv2 O b hc hL
      have CA : Hid (∀ (r : Int) (W : World), -2147483648 ≤ r → r ≤ 2147483647 → Below w.heap.size w W → OwB w.heap.size W u L → krn c = r → Calls Tryd.prog 32 #[u, .int .i32 r] W fun e w' => ∃ u', e = .returned u' ∧ OwB w.heap.size w' u' (keptL (l.take (k + 1))) ∧ Below w.heap.size w w') := Lib.hid fun r W h0 h1 hb hO he =>
        (arune_any w.heap.size u L r h0 h1 W hO hb.size hll).mono fun e w' ⟨u', h2, h3, h4⟩ => ⟨u', h2, by rw [HET.out, he]; exact h3, hb.trans h4⟩
      have HKR : Hid (krn c = if c.kind = 5 then 10 else if c.kind = 6 then 65532 else c.r) := Lib.hid rfl
      have BK : Hid (∀ W, Blk W wr.heap.size 38 (chA c) → W.cell? ⟨wr.heap.size, 0, none⟩ = some (.int .i32 c.r) ∧ W.cell? ⟨wr.heap.size, 4, none⟩ = some (.int .u8 c.kind)) := Lib.hid fun W h => ⟨h.cell 0, h.cell 4⟩
      obtain ⟨r, hr⟩ : ∃ r, c.r = r := ⟨_, rfl⟩
      obtain ⟨kd, hkd⟩ : ∃ x, c.kind = x := ⟨_, rfl⟩
      rw [hr, hkd] at HKR BK
      rw [hr] at f0 f1
      clear hr hkd
      by_cases h5 : kd = 5
      · subst h5
        have hkr := HKR.out
        rw [if_pos rfl] at hkr
        have HK := Lib.hid hkr
        clear hkr
        go_wp2_with (first
          | (refine ldC rfl (.tmp 11) rfl _ rfl c (ha ▸ hLi) ?_)
          | (refine nwC rfl rfl 5 rfl rfl (.tmp 12) rfl rfl c (fun _ => rfl) (fun _ => rfl) ?_; intro w2 b2 B2; obtain ⟨q0, q4⟩ := BK.out w2 B2))
        refine (CA.out 10 w2 (by omega) (by omega) (HB.out.trans (b2.mono hbs)) (HO.out.keep_ b2) HK.out).mono ?_
        rintro e w3 ⟨u', rfl, O3, b3⟩
        clear q0 q4 B2 b2
        go_wp2_with fail
        go_roundg (m - (k + 1))
        case measure => omega
        case rel => exact ⟨k + 1, _, rfl, by go_num, by omega, by omega, O3, b3⟩
      · by_cases h6 : kd = 6
        · subst h6
          have hkr := HKR.out
          rw [if_neg (by decide), if_pos rfl] at hkr
          have HK := Lib.hid hkr
          clear hkr
          go_wp2_with (first
            | (refine ldC rfl (.tmp 11) rfl _ rfl c (ha ▸ hLi) ?_)
            | (refine nwC rfl rfl 5 rfl rfl (.tmp 12) rfl rfl c (fun _ => rfl) (fun _ => rfl) ?_; intro w2 b2 B2; obtain ⟨q0, q4⟩ := BK.out w2 B2))
          refine (CA.out 65532 w2 (by omega) (by omega) (HB.out.trans (b2.mono hbs)) (HO.out.keep_ b2) HK.out).mono ?_
          rintro e w3 ⟨u', rfl, O3, b3⟩
          clear q0 q4 B2 b2
          go_wp2_with fail
          go_roundg (m - (k + 1))
          case measure => omega
          case rel => exact ⟨k + 1, _, rfl, by go_num, by omega, by omega, O3, b3⟩
        · have e5 : (kd == 5) = false := by simpa using h5
          have e6 : (kd == 6) = false := by simpa using h6
          have hkr := HKR.out
          rw [if_neg h5, if_neg h6] at hkr
          have HK := Lib.hid hkr
          clear hkr h5 h6
          go_wp2_with (first
            | (refine ldC rfl (.tmp 11) rfl _ rfl c (ha ▸ hLi) ?_)
            | (refine nwC rfl rfl 5 rfl rfl (.tmp 12) rfl rfl c (fun _ => rfl) (fun _ => rfl) ?_; intro w2 b2 B2; obtain ⟨q0, q4⟩ := BK.out w2 B2))
          refine (CA.out r w2 f0 f1 (HB.out.trans (b2.mono hbs)) (HO.out.keep_ b2) HK.out).mono ?_
          rintro e w3 ⟨u', rfl, O3, b3⟩
          clear q0 q4 B2 b2
          go_wp2_with fail
          go_roundg (m - (k + 1))
          case measure => omega
          case rel => exact ⟨k + 1, _, rfl, by go_num, by omega, by omega, O3, b3⟩
    · obtain rfl : k = m := by omega
      have hta : l.take k = l := List.take_of_length_le (by rw [HM.out]; exact Nat.le_refl _)
      rw [hta] at O
      have hcv := conv_own O
      have HBS := Lib.hid (bs_numsW (keptL l) (enc_lt _))
      obtain ⟨S, hS⟩ : ∃ S, strOfNums ((keptL l).map fun (b : Nat) => (b : Int)) = S := ⟨_, rfl⟩
      rw [hS] at hcv HBS
      clear O hta hS
      go_wp2_with fail
      go_ret
      exact ⟨_, rfl, HBS.out, b⟩
end Go.Proofs.YtejcfhfmdijimaaDoor
