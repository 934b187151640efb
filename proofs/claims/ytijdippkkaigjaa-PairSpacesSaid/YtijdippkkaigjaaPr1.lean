/- Contracts of pair's and the reference's membership tests and of what a character counts as: in, slices.Index, slices.Contains, of, holdsMarks, counts, next. Conditions: the slice reads as the list, at most 1048576 long. -/
import Derived.Test.YtijdippkkaigjaaBase
import Derived.Test.YtijdippkkaigjaaPrMath
namespace Go.Proofs.Ytijdippkkaigjaa
open Go.ChangeShapes Go.WideShapes Go.ChangeAt Go.RowKit

/-- numbers of eight bits, as cells -/
def r8 (l : List Int) : List Value := l.map (Value.int .u8)
/-- bools, as cells -/
def rb (l : List Bool) : List Value := l.map Value.bool
theorem r8_len (l : List Int) : (r8 l).length = l.length := by simp [r8]
theorem rb_len (l : List Bool) : (rb l).length = l.length := by simp [rb]
abbrev R8 (w : World) (v : Value) (l : List Int) : Prop := Row (fun _ => False) w v (r8 l)
abbrev RB (w : World) (v : Value) (l : List Bool) : Prop := Row (fun _ => False) w v (rb l)
theorem r8_at {l : List Int} {k : Nat} {x : Int} (h : l[k]? = some x) : (r8 l)[k]? = some (.int .u8 x) := by simp [r8, h]
theorem rb_at {l : List Bool} {k : Nat} {x : Bool} (h : l[k]? = some x) : (rb l)[k]? = some (.bool x) := by simp [rb, h]
/-- is c one of l? -/
def has (l : List Int) (c : Int) : Bool := l.contains c
theorem has_succ {l : List Int} {k : Nat} {x c : Int} (h : l[k]? = some x) (h0 : has (l.take k) c = false) (hx : ¬ x = c) : has (l.take (k + 1)) c = false := by
  unfold has at h0 ⊢
  rw [List.take_add_one, h]
  simp only [List.contains_eq_mem, List.mem_append, decide_eq_false_iff_not, Option.toList_some, List.mem_singleton] at h0 ⊢
  rintro (h1 | h1)
  · exact h0 h1
  · exact hx h1.symm
theorem has_here {l : List Int} {k : Nat} {x : Int} (h : l[k]? = some x) : has l x = true := by
  unfold has
  simp only [List.contains_eq_mem, decide_eq_true_eq]
  exact List.mem_of_getElem? h

set_option maxRecDepth 100000 in
set_option maxHeartbeats 2000000 in
theorem pindex_any (v : Value) (l : List Int) (c : Int) (w : World) (hR : R8 w v l) (hn : l.length ≤ 1048576) :
    Calls Try.prog 60 #[v, .int .u8 c] w fun e w' => ∃ z : Int, e = .returned (.int .i64 z) ∧ w' = w ∧ decide (0 ≤ z) = has l c := by
  have HRw := Lib.hid hR
  obtain ⟨A, cap, rfl⟩ := hR.form
  rw [r8_len] at HRw ⊢
  obtain ⟨n, hl⟩ : ∃ n, l.length = n := ⟨_, rfl⟩
  have HN := Lib.hid hl
  rw [hl] at hn HRw ⊢
  clear hl hR
  go_enter Try.func60, Try.ntmps60
  go_wp2_with fail
  go_loopg [8] n (fun kx i wr => ∃ (k : Nat), i = .int .i64 k ∧ k ≤ n ∧ kx = n - k ∧ wr = w ∧ Hid (has (l.take k) c = false))
  case atStart => exact ⟨0, rfl, by omega, by omega, rfl, Lib.hid rfl⟩
  case round =>
    obtain ⟨k, rfl, hk, rfl, rfl, HC⟩ := hrel
    by_cases hlt : k < n
    · obtain ⟨x, hx⟩ : ∃ x, l[k]? = some x := ⟨_, List.getElem?_eq_getElem (by rw [HN.out]; exact hlt)⟩
      obtain ⟨a, cap2, hv, _, _, hcell⟩ := HRw.out.at_ (by rw [r8_len, HN.out]; omega)
      obtain rfl : A = some a := by injection hv
      have hcz := hcell k _ (r8_at hx)
      have hkz : (k : Int) < n := by omega
      have HX := Lib.hid hx
      clear hv hcell hx
      by_cases hxc : c = x
      · go_wp2_with fail
        go_ret
        refine ⟨_, rfl, rfl, ?_⟩
        rw [hxc, has_here HX.out]
        simp
      · go_wp2_with fail
        go_roundg (n - (k + 1))
        case measure => omega
        case rel => exact ⟨k + 1, by go_num, by omega, rfl, rfl, Lib.hid (has_succ HX.out HC.out fun e => hxc e.symm)⟩
    · have hkn : k = n := by omega
      subst hkn
      go_wp2_with fail
      go_ret
      refine ⟨_, rfl, rfl, ?_⟩
      have := HC.out
      rw [List.take_of_length_le (by rw [HN.out]; omega)] at this
      rw [this]
      rfl

set_option maxRecDepth 100000 in
set_option maxHeartbeats 2000000 in
theorem inref_any (v : Value) (l : List Int) (c : Int) (w : World) (hR : R8 w v l) (hn : l.length ≤ 1048576) :
    Calls Try.prog 24 #[.int .u8 c, v] w fun e w' => e = .returned (.bool (has l c)) ∧ w' = w := by
  have HRw := Lib.hid hR
  obtain ⟨A, cap, rfl⟩ := hR.form
  rw [r8_len] at HRw ⊢
  obtain ⟨n, hl⟩ : ∃ n, l.length = n := ⟨_, rfl⟩
  have HN := Lib.hid hl
  rw [hl] at hn HRw ⊢
  clear hl hR
  go_enter Try.func24, Try.ntmps24
  go_wp2_with fail
  go_loopg [5] n (fun kx i wr => ∃ (k : Nat), i = .int .i64 k ∧ k ≤ n ∧ kx = n - k ∧ wr = w ∧ Hid (has (l.take k) c = false))
  case atStart => exact ⟨0, rfl, by omega, by omega, rfl, Lib.hid rfl⟩
  case round =>
    obtain ⟨k, rfl, hk, rfl, rfl, HC⟩ := hrel
    by_cases hlt : k < n
    · obtain ⟨x, hx⟩ : ∃ x, l[k]? = some x := ⟨_, List.getElem?_eq_getElem (by rw [HN.out]; exact hlt)⟩
      obtain ⟨a, cap2, hv, _, _, hcell⟩ := HRw.out.at_ (by rw [r8_len, HN.out]; omega)
      obtain rfl : A = some a := by injection hv
      have hcz := hcell k _ (r8_at hx)
      have hkz : (k : Int) < n := by omega
      have HX := Lib.hid hx
      clear hv hcell hx
      by_cases hxc : x = c
      · go_wp2_with fail
        go_ret
        refine ⟨retb ?_, rfl⟩
        rw [← hxc, has_here HX.out]
      · go_wp2_with fail
        go_roundg (n - (k + 1))
        case measure => omega
        case rel => exact ⟨k + 1, by go_num, by omega, rfl, rfl, Lib.hid (has_succ HX.out HC.out hxc)⟩
    · have hkn : k = n := by omega
      subst hkn
      go_wp2_with fail
      go_ret
      refine ⟨retb ?_, rfl⟩
      have := HC.out
      rw [List.take_of_length_le (by rw [HN.out]; omega)] at this
      exact this.symm

set_option maxHeartbeats 2000000 in
theorem pcontains_any (v : Value) (l : List Int) (c : Int) (w : World) (hR : R8 w v l) (hn : l.length ≤ 1048576) :
    Calls Try.prog 58 #[v, .int .u8 c] w fun e w' => e = .returned (.bool (has l c)) ∧ w' = w := by
  have C := Lib.hid (pindex_any v l c w hR hn)
  clear hR
  go_enter Try.func58, Try.ntmps58
  go_wp2_with fail
  refine (C.out).mono ?_
  rintro e w1 ⟨z, rfl, rfl, hz⟩
  have HZ := Lib.hid hz
  clear hz C
  by_cases h0 : 0 ≤ z
  · go_wp2_with fail
    go_ret
    refine ⟨retb ?_, rfl⟩
    rw [← HZ.out]
    all_goals simp [h0]
  · go_wp2_with fail
    go_ret
    refine ⟨retb ?_, rfl⟩
    rw [← HZ.out]
    all_goals simp [h0]

set_option maxHeartbeats 2000000 in
theorem pin_any (v : Value) (l : List Int) (c : Int) (w : World) (hR : R8 w v l) (hn : l.length ≤ 1048576) :
    Calls Try.prog 32 #[.int .u8 c, v] w fun e w' => e = .returned (.bool (has l c)) ∧ w' = w := by
  have C := Lib.hid (pcontains_any v l c w hR hn)
  clear hR
  go_enter Try.func32, Try.ntmps32
  go_wp2_with fail
  refine (C.out).mono ?_
  rintro e w1 ⟨rfl, rfl⟩
  clear C
  go_wp2_with fail
  go_ret
  exact ⟨rfl, rfl⟩

/-- a place, as the program has it: a, b, o are 255 where there is none -/
def plV (a b o : Int) (cl : Bool) : Value := .agg #[.int .u8 a, .int .u8 b, .int .u8 o, .bool cl]

set_option maxHeartbeats 2000000 in
theorem pof_any (v : Value) (l : List Int) (a b o x : Int) (cl : Bool) (w : World) (hR : R8 w v l) (hn : l.length ≤ 1048576) :
    Calls Try.prog 33 #[.agg #[.int .u8 a, .int .u8 b, .int .u8 o, .bool cl], .int .u8 x, v] w fun e w' => e = .returned (.bool (decide (a = x) && has l b)) ∧ Below w.heap.size w w' := by
  have hb := below_alloc w (.cells #[.int .u8 a, .int .u8 b, .int .u8 o, .bool cl] 57)
  have C := Lib.hid (pin_any v l b _ (hR.below hb) hn)
  clear hR
  go_enter Try.func33, Try.ntmps33
  by_cases h : a = x
  · subst h
    go_wp2_with fail
    refine (C.out).mono ?_
    rintro e w1 ⟨rfl, rfl⟩
    clear C
    go_wp2_with fail
    go_ret
    exact ⟨retb (by simp), hb⟩
  · go_wp2_with fail
    go_ret
    exact ⟨retb (by simp [h]), hb⟩

/-- none, as the program has it -/
def oI (o : Option Int) : Int := o.getD 255
def hldB (c : Int) : Bool := !(c == 255 || c == 1 || c == 2 || c == 3 || c == 4 || c == 5 || c == 6)
set_option maxHeartbeats 4000000 in
theorem phold_any (c : Int) (w : World) :
    Calls Try.prog 61 #[.int .u8 c] w fun e w' => e = .returned (.bool (hldB c)) ∧ w' = w := by
  go_enter Try.func61, Try.ntmps61
  by_cases h0 : c = 255
  · go_wp2_with fail
    go_ret
    exact ⟨retb (by simp [hldB, h0]), rfl⟩
  by_cases h1 : c = 1
  · go_wp2_with fail
    go_ret
    exact ⟨retb (by simp [hldB, h1]), rfl⟩
  by_cases h2 : c = 2
  · go_wp2_with fail
    go_ret
    exact ⟨retb (by simp [hldB, h2]), rfl⟩
  by_cases h3 : c = 3
  · go_wp2_with fail
    go_ret
    exact ⟨retb (by simp [hldB, h3]), rfl⟩
  by_cases h4 : c = 4
  · go_wp2_with fail
    go_ret
    exact ⟨retb (by simp [hldB, h4]), rfl⟩
  by_cases h5 : c = 5
  · go_wp2_with fail
    go_ret
    exact ⟨retb (by simp [hldB, h5]), rfl⟩
  by_cases h6 : c = 6
  · go_wp2_with fail
    go_ret
    exact ⟨retb (by simp [hldB, h6]), rfl⟩
  · go_wp2_with fail
    go_ret
    exact ⟨retb (by simp [hldB, h0, h1, h2, h3, h4, h5, h6]), rfl⟩

/-- counts, as the program has it -/
def cntI (c p : Int) : Int × Bool := if c = 9 ∧ hldB p = true then (p, true) else if c = 9 ∨ 26 < c then (0, false) else if c = 20 then (19, false) else (c, false)
set_option maxHeartbeats 4000000 in
theorem pcounts_any (c p : Int) (w : World) :
    Calls Try.prog 59 #[.int .u8 c, .int .u8 p] w fun e w' => e = .returned (.tuple #[.int .u8 (cntI c p).1, .bool (cntI c p).2]) ∧ w' = w := by
  have C := Lib.hid (phold_any p w)
  obtain ⟨b, hb⟩ : ∃ b, hldB p = b := ⟨_, rfl⟩
  have HB := Lib.hid hb
  rw [hb] at C
  clear hb
  go_enter Try.func59, Try.ntmps59
  by_cases h9 : c = 9
  · cases b
    · go_wp2_with fail
      refine (C.out).mono ?_
      rintro e w1 ⟨rfl, rfl⟩
      clear C
      go_wp2_with fail
      go_ret2
      exact ⟨by simp [cntI, HB.out, h9], rfl⟩
    · go_wp2_with fail
      refine (C.out).mono ?_
      rintro e w1 ⟨rfl, rfl⟩
      clear C
      go_wp2_with fail
      go_ret2
      exact ⟨by simp [cntI, HB.out, h9], rfl⟩
  · by_cases h26 : 26 < c
    · go_wp2_with fail
      go_ret2
      exact ⟨by simp [cntI, h9, h26], rfl⟩
    · by_cases h20 : c = 20
      · go_wp2_with fail
        go_ret2
        exact ⟨by subst h20; rfl, rfl⟩
      · go_wp2_with fail
        go_ret2
        have e : cntI c p = (c, false) := by unfold cntI; rw [if_neg (fun h => h9 h.1), if_neg (by omega), if_neg h20]
        rw [e]
        exact ⟨rfl, rfl⟩
end Go.Proofs.Ytijdippkkaigjaa
