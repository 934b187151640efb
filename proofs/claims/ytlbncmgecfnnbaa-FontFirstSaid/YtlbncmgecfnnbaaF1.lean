/- Fonts in memory; contracts of font's small functions and of the document's: which numbers may be, and what a number becomes at a size. No condition but that the numbers fit their kinds. -/
import Derived.Test.YtlbncmgecfnnbaaFMath
import Derived.Test.YtlbncmgecfnnbaaRowN
import Derived.Test.YtlbncmgecfnnbaaRefC
namespace Go.Proofs.Ytlbncmgecfnnbaa
open Go.ChangeShapes Go.WideShapes Go.ChangeAt Go.RowKit

def Rg.cells (x : Rg) : List Value := [.int .i32 x.f, .int .i32 x.t, .int .i64 x.a]
structure Fnt where
  a : Int
  d : Int
  g : Int
  x : Int
  o : Int
  v : Value
  rs : List Rg
def Fnt.cells (F : Fnt) : Array Value := #[.int .i64 F.a, .int .i64 F.d, .int .i64 F.g, .int .i64 F.x, .int .i64 F.o, F.v]
def Fnt.val (F : Fnt) : Value := .agg F.cells
def W64 (z : Int) : Prop := -9223372036854775808 ≤ z ∧ z ≤ 9223372036854775807
def W32 (z : Int) : Prop := -2147483648 ≤ z ∧ z ≤ 2147483647
/-- its numbers fit their kinds -/
structure Fnt.Wf (F : Fnt) : Prop where
  a : W64 F.a
  d : W64 F.d
  g : W64 F.g
  x : W64 F.x
  o : W64 F.o
  rs : ∀ y ∈ F.rs, W32 y.f ∧ W32 y.t ∧ W64 y.a
  len : F.rs.length ≤ 9223372036854775807
/-- its ranges lie there -/
def Fnt.In (F : Fnt) (w : World) : Prop := RowN 3 (fun _ => False) w F.v (F.rs.map Rg.cells)
theorem Fnt.In.below {F : Fnt} {w w' : World} (h : F.In w) (b : Below w.heap.size w w') : F.In w' := RowN.below h b
theorem Fnt.In.form {F : Fnt} {w : World} (h : F.In w) : ∃ A c, F.v = .slice A F.rs.length c := by
  have := RowN.form h
  rwa [List.length_map] at this
theorem Fnt.In.get {F : Fnt} {w wx : World} (h : F.In w) (b : Below w.heap.size w wx) {i : Nat} {x : Rg} (hi : F.rs[i]? = some x) :
    ∃ a cap o, F.v = .slice (some a) F.rs.length cap ∧ a.add (i * 3) = ⟨a.block, o, none⟩ ∧ wx.cell? ⟨a.block, o, none⟩ = some (.int .i32 x.f) ∧ wx.cell? ⟨a.block, o + 1, none⟩ = some (.int .i32 x.t) ∧ wx.cell? ⟨a.block, o + 2, none⟩ = some (.int .i64 x.a) := by
  obtain ⟨a, cap, o, hv, _, _, ha, hc⟩ := RowN.get h b (x := x.cells) (by rw [List.getElem?_map, hi]; rfl) (by simp [Rg.cells])
  rw [List.length_map] at hv
  exact ⟨a, cap, o, hv, ha, hc 0 _ rfl, hc 1 _ rfl, hc 2 _ rfl⟩

/-- may a number be? -/
def mayB (n : Int) : Bool := decide (0 ≤ n ∧ n ≤ 8192)

theorem fvalid_any (n : Int) (w : World) (hn : W64 n) :
    Calls Try.prog 21 #[.int .i64 n] w fun e w' => e = .returned (.bool (mayB n)) ∧ w = w' := by
  unfold W64 at hn
  by_cases ha : 0 ≤ n
  · by_cases hb : n ≤ 8192
    · have hf : mayB n = true := decide_eq_true ⟨ha, hb⟩
      rw [hf]
      clear hf
      go_enter Try.func21, Try.ntmps21
      go_wp2
      go_ret
      exact ⟨rfl, rfl⟩
    · have hf : mayB n = false := decide_eq_false (by omega)
      rw [hf]
      clear hf
      go_enter Try.func21, Try.ntmps21
      go_wp2
      go_ret
      exact ⟨rfl, rfl⟩
  · have hf : mayB n = false := decide_eq_false (by omega)
    rw [hf]
    clear hf
    go_enter Try.func21, Try.ntmps21
    go_wp2
    go_ret
    exact ⟨rfl, rfl⟩

theorem fmay_any (n : Int) (w : World) (hn : W64 n) :
    Calls Try.prog 23 #[.int .i64 n] w fun e w' => e = .returned (.bool (mayB n)) ∧ w = w' := by
  unfold W64 at hn
  by_cases ha : 0 ≤ n
  · by_cases hb : n ≤ 8192
    · have hf : mayB n = true := decide_eq_true ⟨ha, hb⟩
      rw [hf]
      clear hf
      go_enter Try.func23, Try.ntmps23
      go_wp2
      go_ret
      exact ⟨rfl, rfl⟩
    · have hf : mayB n = false := decide_eq_false (by omega)
      rw [hf]
      clear hf
      go_enter Try.func23, Try.ntmps23
      go_wp2
      go_ret
      exact ⟨rfl, rfl⟩
  · have hf : mayB n = false := decide_eq_false (by omega)
    rw [hf]
    clear hf
    go_enter Try.func23, Try.ntmps23
    go_wp2
    go_ret
    exact ⟨rfl, rfl⟩

theorem at_scale (n s : Int) (h : 0 ≤ s ∧ s ≤ 1073741824 ∧ 0 ≤ n ∧ n ≤ 8192) : fitV (rnd n s 1024) = atI n s ∧ atI n s = rnd n s 1024 := by
  have e : atI n s = rnd n s 1024 := by unfold atI; rw [if_pos h]
  have h1 := rnd_bds n s h
  rw [e]
  refine ⟨?_, rfl⟩
  unfold fitV
  rw [if_pos (by omega)]

set_option maxHeartbeats 1000000 in
theorem fat_any (s n : Int) (w : World) (hs : W64 s) (hn : W64 n) :
    Calls Try.prog 24 #[.int .i64 s, .int .i64 n] w fun e w' => e = .returned (.int .i64 (atI n s)) ∧ Below w.heap.size w w' := by
  have C2 := Lib.hid (fun w => fvalid_any n w hn)
  unfold W64 at hs hn
  have C1 := Lib.hid (fun w => may_any s w (by omega) (by omega))
  have C3 := Lib.hid (fun w => scale_any n s 1024 w (by omega) (by omega) (by omega))
  by_cases h0 : 0 ≤ s
  · by_cases h1 : s ≤ 1073741824
    · have e1 : decide (-1073741824 ≤ s ∧ s ≤ 1073741824) = true := decide_eq_true (by omega)
      rw [e1] at C1
      clear e1
      by_cases h2 : 0 ≤ n ∧ n ≤ 8192
      · have e2 : mayB n = true := decide_eq_true h2
        rw [e2] at C2
        clear e2
        rw [(at_scale n s ⟨h0, h1, h2⟩).1] at C3
        obtain ⟨z, hz⟩ : ∃ z, fitE (rnd n s 1024) = z := ⟨_, rfl⟩
        rw [hz] at C3
        clear hz
        obtain ⟨y, hy⟩ : ∃ y, atI n s = y := ⟨_, rfl⟩
        rw [hy] at C3 ⊢
        clear hy
        go_enter Try.func24, Try.ntmps24
        go_wp2_with fail
        refine (C1.out _).mono ?_
        rintro e w1 ⟨rfl, rfl⟩
        go_wp2_with fail
        refine (C2.out _).mono ?_
        rintro e w2 ⟨rfl, rfl⟩
        go_wp2_with fail
        refine (C3.out _).mono ?_
        rintro e w3 ⟨rfl, b3⟩
        go_wp2_with fail
        go_ret
        exact ⟨rfl, b3.1⟩
      · have e2 : mayB n = false := decide_eq_false h2
        rw [e2] at C2
        clear e2
        have e3 : atI n s = 0 := by unfold atI; rw [if_neg (by omega)]
        rw [e3]
        clear e3
        go_enter Try.func24, Try.ntmps24
        go_wp2_with fail
        refine (C1.out _).mono ?_
        rintro e w1 ⟨rfl, rfl⟩
        go_wp2_with fail
        refine (C2.out _).mono ?_
        rintro e w2 ⟨rfl, rfl⟩
        go_wp2_with fail
        go_ret
        exact ⟨rfl, Below.refl _ _⟩
    · have e1 : decide (-1073741824 ≤ s ∧ s ≤ 1073741824) = false := decide_eq_false (by omega)
      rw [e1] at C1
      clear e1
      have e3 : atI n s = 0 := by unfold atI; rw [if_neg (by omega)]
      rw [e3]
      clear e3
      go_enter Try.func24, Try.ntmps24
      go_wp2_with fail
      refine (C1.out _).mono ?_
      rintro e w1 ⟨rfl, rfl⟩
      go_wp2_with fail
      go_ret
      exact ⟨rfl, Below.refl _ _⟩
  · have e3 : atI n s = 0 := by unfold atI; rw [if_neg (by omega)]
    rw [e3]
    clear e3
    go_enter Try.func24, Try.ntmps24
    go_wp2_with fail
    go_ret
    exact ⟨rfl, Below.refl _ _⟩

set_option maxHeartbeats 1000000 in
theorem rat_any (n s : Int) (w : World) (hn : W64 n) (hs : W64 s) :
    Calls Try.prog 14 #[.int .i64 n, .int .i64 s] w fun e w' => e = .returned (.int .i64 (atI n s)) ∧ Below w.heap.size w w' := by
  have C2 := Lib.hid (fun w => fmay_any n w hn)
  unfold W64 at hs hn
  have C3 := Lib.hid (fun w => rscale_any n s 1024 w (by omega) (by omega) (by omega))
  by_cases h2 : 0 ≤ n ∧ n ≤ 8192
  · have e2 : mayB n = true := decide_eq_true h2
    rw [e2] at C2
    clear e2
    by_cases h1 : 0 ≤ s ∧ s ≤ 1073741824
    · rw [(at_scale n s ⟨h1.1, h1.2, h2⟩).1] at C3
      obtain ⟨z, hz⟩ : ∃ z, fitE (rnd n s 1024) = z := ⟨_, rfl⟩
      rw [hz] at C3
      clear hz
      obtain ⟨y, hy⟩ : ∃ y, atI n s = y := ⟨_, rfl⟩
      rw [hy] at C3 ⊢
      clear hy
      obtain ⟨h3, h4⟩ := h1
      go_enter Try.func14, Try.ntmps14
      go_wp2_with fail
      refine (C2.out _).mono ?_
      rintro e w2 ⟨rfl, rfl⟩
      go_wp2_with fail
      refine (C3.out _).mono ?_
      rintro e w3 ⟨rfl, b3⟩
      go_wp2_with fail
      go_ret
      exact ⟨rfl, b3.1⟩
    · have e3 : atI n s = 0 := by unfold atI; rw [if_neg (by omega)]
      rw [e3]
      clear e3
      by_cases h0 : s < 0
      · go_enter Try.func14, Try.ntmps14
        go_wp2_with fail
        refine (C2.out _).mono ?_
        rintro e w2 ⟨rfl, rfl⟩
        go_wp2_with fail
        go_ret
        exact ⟨rfl, Below.refl _ _⟩
      · have h1' : 1073741824 < s := by omega
        go_enter Try.func14, Try.ntmps14
        go_wp2_with fail
        refine (C2.out _).mono ?_
        rintro e w2 ⟨rfl, rfl⟩
        go_wp2_with fail
        go_ret
        exact ⟨rfl, Below.refl _ _⟩
  · have e2 : mayB n = false := decide_eq_false h2
    rw [e2] at C2
    clear e2
    have e3 : atI n s = 0 := by unfold atI; rw [if_neg (by omega)]
    rw [e3]
    clear e3
    go_enter Try.func14, Try.ntmps14
    go_wp2_with fail
    refine (C2.out _).mono ?_
    rintro e w2 ⟨rfl, rfl⟩
    go_wp2_with fail
    go_ret
    exact ⟨rfl, Below.refl _ _⟩
end Go.Proofs.Ytlbncmgecfnnbaa
