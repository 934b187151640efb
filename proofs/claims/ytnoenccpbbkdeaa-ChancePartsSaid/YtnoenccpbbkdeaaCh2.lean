/- Contracts of the closures of chance's table, of rows (the table, made anew), and of at (the first row that applies, through a pointer to the table). Conditions: the table lies at the pointer. -/
import Derived.Test.YtnoenccpbbkdeaaCh1
import Derived.Shelf.Abstract
namespace Go.Proofs.Ytnoenccpbbkdeaa
open Go.ChangeShapes Go.WideShapes Go.ChangeAt Go.RowKit Go.Shelf
open Wh (Cr)
open Ch

def cq1 (p : Pc) : Bool := p.first || p.b.kind == 5 || p.a.kind == 5 || p.s.a0 == 1 || p.s.a0 == 2
def cq2 (p : Pc) : Bool := endH p.b
def cq3 (p : Pc) : Bool := p.a.kind == 1 || p.a.kind == 2
def cq4 (p : Pc) : Bool := p.s.a3 == 3 && markH p.a
def cq5 (p : Pc) : Bool := p.s.a3 == 3
def cqh (p : Pc) : Bool := p.s.a1 == 2 && lettH p.b && lettH p.a
def cq6 (p : Pc) : Bool := p.e && !(p.s.a1 == 2 && lettH p.b && lettH p.a)
def cq7 (p : Pc) : Bool := p.s.a2 == 1 && !markH p.a
def cq8 (_ : Pc) : Bool := true

set_option maxRecDepth 100000 in
set_option maxHeartbeats 4000000 in
theorem chr1_any (p : Pc) (w : World) :
    Calls Try.prog 34 #[.agg (pcA p)] w fun e w' => e = .returned (.bool (cq1 p)) ∧ Below w.heap.size w w' := by
  obtain ⟨vf, hvf⟩ : ∃ x, p.first = x := ⟨_, rfl⟩
  have Hvf := Lib.hid hvf
  obtain ⟨vb, hvb⟩ : ∃ x, p.b.kind = x := ⟨_, rfl⟩
  have Hvb := Lib.hid hvb
  obtain ⟨va, hva⟩ : ∃ x, p.a.kind = x := ⟨_, rfl⟩
  have Hva := Lib.hid hva
  obtain ⟨v0, hv0⟩ : ∃ x, p.s.a0 = x := ⟨_, rfl⟩
  have Hv0 := Lib.hid hv0
  go_enter Try.func34, Try.ntmps34
  go_wp2_with (refine bxPcV rfl (.tmp 0) rfl p rfl ?_; intro w1 b1 B1; refine Mk.out ?_)
  constructor
  have cvf : w1.cell? ⟨w.heap.size, 0, none⟩ = some (.bool p.first) := B1.cell 0
  rw [hvf] at cvf
  have cvb : w1.cell? ⟨w.heap.size, 1, none⟩ = some (.int .u8 p.b.kind) := B1.cell 1
  rw [hvb] at cvb
  have cva : w1.cell? ⟨w.heap.size, 5, none⟩ = some (.int .u8 p.a.kind) := B1.cell 5
  rw [hva] at cva
  have cv0 : w1.cell? ⟨w.heap.size, 9, none⟩ = some (.int .u8 p.s.a0) := B1.cell 9
  rw [hv0] at cv0
  clear hvf
  clear hvb
  clear hva
  clear hv0
  cases vf
  rotate_left
  · go_wp2_with fail
    go_ret
    exact ⟨retb (by simp [cq1, Hvf.out, Hvb.out, Hva.out, Hv0.out]), b1⟩
  by_cases h1 : vb = 5
  · subst h1
    go_wp2_with fail
    go_ret
    exact ⟨retb (by simp [cq1, Hvf.out, Hvb.out, Hva.out, Hv0.out]), b1⟩
  by_cases h2 : va = 5
  · subst h2
    go_wp2_with fail
    go_ret
    exact ⟨retb (by simp [cq1, Hvf.out, Hvb.out, Hva.out, Hv0.out]), b1⟩
  by_cases h3 : v0 = 1
  · subst h3
    go_wp2_with fail
    go_ret
    exact ⟨retb (by simp [cq1, Hvf.out, Hvb.out, Hva.out, Hv0.out]), b1⟩
  go_wp2_with fail
  go_ret
  exact ⟨retb (by simp [cq1, Hvf.out, Hvb.out, Hva.out, Hv0.out]), b1⟩


set_option maxRecDepth 100000 in
set_option maxHeartbeats 4000000 in
theorem chr2_any (p : Pc) (w : World) :
    Calls Try.prog 35 #[.agg (pcA p)] w fun e w' => e = .returned (.bool (cq2 p)) ∧ Below w.heap.size w w' := by
  obtain ⟨q1, hq1⟩ : ∃ q, endH p.b = q := ⟨_, rfl⟩
  have Q1 := Lib.hid hq1
  have C1 : Hid (∀ W, Calls Try.prog 36 #[.agg (hcA p.b)] W fun e w' => e = .returned (.bool q1) ∧ Below W.heap.size W w') := Lib.hid fun W => by rw [← hq1]; exact chend_any _ W
  clear hq1
  go_enter Try.func35, Try.ntmps35
  go_wp2_with (refine bxPcV rfl (.tmp 0) rfl p rfl ?_; intro w1 b1 B1; refine Mk.out ?_)
  constructor
  go_wp2_with (refine ldHc rfl (.tmp 3) rfl _ rfl p.b B1.pcB ?_)
  refine (C1.out _).mono ?_
  rintro e w2 ⟨rfl, b2⟩
  go_wp2_with fail
  go_ret
  exact ⟨retb (by simp [cq2, Q1.out]), below_seq b1 b2⟩


set_option maxRecDepth 100000 in
set_option maxHeartbeats 4000000 in
theorem chr3_any (p : Pc) (w : World) :
    Calls Try.prog 37 #[.agg (pcA p)] w fun e w' => e = .returned (.bool (cq3 p)) ∧ Below w.heap.size w w' := by
  obtain ⟨va, hva⟩ : ∃ x, p.a.kind = x := ⟨_, rfl⟩
  have Hva := Lib.hid hva
  go_enter Try.func37, Try.ntmps37
  go_wp2_with (refine bxPcV rfl (.tmp 0) rfl p rfl ?_; intro w1 b1 B1; refine Mk.out ?_)
  constructor
  have cva : w1.cell? ⟨w.heap.size, 5, none⟩ = some (.int .u8 p.a.kind) := B1.cell 5
  rw [hva] at cva
  clear hva
  by_cases h1 : va = 1
  · subst h1
    go_wp2_with fail
    go_ret
    exact ⟨retb (by simp [cq3, Hva.out]), b1⟩
  · go_wp2_with fail
    go_ret
    exact ⟨retb (by simp [cq3, Hva.out]), b1⟩


set_option maxRecDepth 100000 in
set_option maxHeartbeats 4000000 in
theorem chr4_any (p : Pc) (w : World) :
    Calls Try.prog 38 #[.agg (pcA p)] w fun e w' => e = .returned (.bool (cq4 p)) ∧ Below w.heap.size w w' := by
  obtain ⟨v3, hv3⟩ : ∃ x, p.s.a3 = x := ⟨_, rfl⟩
  have Hv3 := Lib.hid hv3
  obtain ⟨q1, hq1⟩ : ∃ q, markH p.a = q := ⟨_, rfl⟩
  have Q1 := Lib.hid hq1
  have C1 : Hid (∀ W, Calls Try.prog 39 #[.agg (hcA p.a)] W fun e w' => e = .returned (.bool q1) ∧ Below W.heap.size W w') := Lib.hid fun W => by rw [← hq1]; exact chmark_any _ W
  clear hq1
  go_enter Try.func38, Try.ntmps38
  go_wp2_with (refine bxPcV rfl (.tmp 0) rfl p rfl ?_; intro w1 b1 B1; refine Mk.out ?_)
  constructor
  have cv3 : w1.cell? ⟨w.heap.size, 12, none⟩ = some (.int .u8 p.s.a3) := B1.cell 12
  rw [hv3] at cv3
  clear hv3
  by_cases h1 : v3 = 3
  · subst h1
    go_wp2_with (refine ldHcIf (by kernel_rfl) (.tmp 8) rfl _ rfl p.a B1.pcF ?_)
    refine (C1.out _).mono ?_
    rintro e w2 ⟨rfl, b2⟩
    go_wp2_with fail
    go_ret
    exact ⟨retb (by simp [cq4, Hv3.out, Q1.out]), below_seq b1 b2⟩
  · go_wp2_with fail
    go_ret
    exact ⟨retb (by simp [cq4, Hv3.out, h1]), b1⟩


set_option maxRecDepth 100000 in
set_option maxHeartbeats 4000000 in
theorem chr5_any (p : Pc) (w : World) :
    Calls Try.prog 40 #[.agg (pcA p)] w fun e w' => e = .returned (.bool (cq5 p)) ∧ Below w.heap.size w w' := by
  obtain ⟨v3, hv3⟩ : ∃ x, p.s.a3 = x := ⟨_, rfl⟩
  have Hv3 := Lib.hid hv3
  go_enter Try.func40, Try.ntmps40
  go_wp2_with (refine bxPcV rfl (.tmp 0) rfl p rfl ?_; intro w1 b1 B1; refine Mk.out ?_)
  constructor
  have cv3 : w1.cell? ⟨w.heap.size, 12, none⟩ = some (.int .u8 p.s.a3) := B1.cell 12
  rw [hv3] at cv3
  clear hv3
  by_cases h1 : v3 = 3
  · subst h1
    go_wp2_with fail
    go_ret
    exact ⟨retb (by simp [cq5, Hv3.out]), b1⟩
  · go_wp2_with fail
    go_ret
    exact ⟨retb (by simp [cq5, Hv3.out]), b1⟩


set_option maxRecDepth 100000 in
set_option maxHeartbeats 4000000 in
theorem chrh_any (p : Pc) (w : World) :
    Calls Try.prog 42 #[.agg (pcA p)] w fun e w' => e = .returned (.bool (cqh p)) ∧ Below w.heap.size w w' := by
  obtain ⟨v1, hv1⟩ : ∃ x, p.s.a1 = x := ⟨_, rfl⟩
  have Hv1 := Lib.hid hv1
  obtain ⟨q1, hq1⟩ : ∃ q, lettH p.b = q := ⟨_, rfl⟩
  have Q1 := Lib.hid hq1
  have C1 : Hid (∀ W, Calls Try.prog 29 #[.agg (hcA p.b)] W fun e w' => e = .returned (.bool q1) ∧ Below W.heap.size W w') := Lib.hid fun W => by rw [← hq1]; exact chlett_any _ W
  clear hq1
  obtain ⟨q2, hq2⟩ : ∃ q, lettH p.a = q := ⟨_, rfl⟩
  have Q2 := Lib.hid hq2
  have C2 : Hid (∀ W, Calls Try.prog 29 #[.agg (hcA p.a)] W fun e w' => e = .returned (.bool q2) ∧ Below W.heap.size W w') := Lib.hid fun W => by rw [← hq2]; exact chlett_any _ W
  clear hq2
  go_enter Try.func42, Try.ntmps42
  go_wp2_with (refine bxPcV rfl (.tmp 0) rfl p rfl ?_; intro w1 b1 B1; refine Mk.out ?_)
  constructor
  have cv1 : w1.cell? ⟨w.heap.size, 10, none⟩ = some (.int .u8 p.s.a1) := B1.cell 10
  rw [hv1] at cv1
  clear hv1
  by_cases h1 : v1 = 2
  · subst h1
    go_wp2_with (refine ldHcIf (by kernel_rfl) (.tmp 8) rfl _ rfl p.b B1.pcB ?_)
    refine (C1.out _).mono ?_
    rintro e w2 ⟨rfl, b2⟩
    have B2 := B1.keep (S := fun _ => False) (Mod.of_below b2) id
    cases q1
    · go_wp2_with fail
      go_ret
      exact ⟨retb (by simp [cqh, Hv1.out, Q1.out]), below_seq b1 b2⟩
    · go_wp2_with (refine ldHcIf (by kernel_rfl) (.tmp 13) rfl _ rfl p.a B2.pcF ?_)
      refine (C2.out _).mono ?_
      rintro e w3 ⟨rfl, b3⟩
      go_wp2_with fail
      go_ret
      exact ⟨retb (by simp [cqh, Hv1.out, Q1.out, Q2.out]), below_seq b1 (below_seq b2 b3)⟩
  · go_wp2_with fail
    go_ret
    exact ⟨retb (by simp [cqh, Hv1.out, h1]), b1⟩


set_option maxRecDepth 100000 in
set_option maxHeartbeats 4000000 in
theorem chr6_any (p : Pc) (w : World) :
    Calls Try.prog 41 #[.agg (pcA p)] w fun e w' => e = .returned (.bool (cq6 p)) ∧ Below w.heap.size w w' := by
  obtain ⟨ve, hve⟩ : ∃ x, p.e = x := ⟨_, rfl⟩
  have Hve := Lib.hid hve
  obtain ⟨q1, hq1⟩ : ∃ q, cqh p = q := ⟨_, rfl⟩
  have Q1 := Lib.hid hq1
  have C1 : Hid (∀ W, Calls Try.prog 42 #[.agg (pcA p)] W fun e w' => e = .returned (.bool q1) ∧ Below W.heap.size W w') := Lib.hid fun W => by rw [← hq1]; exact chrh_any _ W
  have hd : cq6 p = (ve && !q1) := by rw [← hve, ← hq1]; rfl
  rw [hd]
  clear hq1 hd
  go_enter Try.func41, Try.ntmps41
  go_wp2_with (refine bxPcV rfl (.tmp 0) rfl p rfl ?_; intro w1 b1 B1; refine Mk.out ?_)
  constructor
  have cve : w1.cell? ⟨w.heap.size, 18, none⟩ = some (.bool p.e) := B1.cell 18
  rw [hve] at cve
  clear hve
  cases ve
  · go_wp2_with fail
    go_ret
    exact ⟨rfl, b1⟩
  · go_wp2_with (refine ldPcIf (by kernel_rfl) (.tmp 1) rfl _ rfl p B1.lies ?_)
    refine (C1.out _).mono ?_
    rintro e w2 ⟨rfl, b2⟩
    go_wp2_with fail
    go_ret
    exact ⟨retb (by simp), below_seq b1 b2⟩


set_option maxRecDepth 100000 in
set_option maxHeartbeats 4000000 in
theorem chr7_any (p : Pc) (w : World) :
    Calls Try.prog 43 #[.agg (pcA p)] w fun e w' => e = .returned (.bool (cq7 p)) ∧ Below w.heap.size w w' := by
  obtain ⟨v2, hv2⟩ : ∃ x, p.s.a2 = x := ⟨_, rfl⟩
  have Hv2 := Lib.hid hv2
  obtain ⟨q1, hq1⟩ : ∃ q, markH p.a = q := ⟨_, rfl⟩
  have Q1 := Lib.hid hq1
  have C1 : Hid (∀ W, Calls Try.prog 39 #[.agg (hcA p.a)] W fun e w' => e = .returned (.bool q1) ∧ Below W.heap.size W w') := Lib.hid fun W => by rw [← hq1]; exact chmark_any _ W
  clear hq1
  go_enter Try.func43, Try.ntmps43
  go_wp2_with (refine bxPcV rfl (.tmp 0) rfl p rfl ?_; intro w1 b1 B1; refine Mk.out ?_)
  constructor
  have cv2 : w1.cell? ⟨w.heap.size, 11, none⟩ = some (.int .u8 p.s.a2) := B1.cell 11
  rw [hv2] at cv2
  clear hv2
  by_cases h1 : v2 = 1
  · subst h1
    go_wp2_with (refine ldHcIf (by kernel_rfl) (.tmp 8) rfl _ rfl p.a B1.pcF ?_)
    refine (C1.out _).mono ?_
    rintro e w2 ⟨rfl, b2⟩
    go_wp2_with fail
    go_ret
    exact ⟨retb (by simp [cq7, Hv2.out, Q1.out]), below_seq b1 b2⟩
  · go_wp2_with fail
    go_ret
    exact ⟨retb (by simp [cq7, Hv2.out, h1]), b1⟩


set_option maxRecDepth 100000 in
set_option maxHeartbeats 4000000 in
theorem chr8_any (p : Pc) (w : World) :
    Calls Try.prog 44 #[.agg (pcA p)] w fun e w' => e = .returned (.bool (cq8 p)) ∧ Below w.heap.size w w' := by
  go_enter Try.func44, Try.ntmps44
  go_wp2_with (refine bxPcV rfl (.tmp 0) rfl p rfl ?_; intro w1 b1 B1; refine Mk.out ?_)
  constructor
  go_wp2_with fail
  go_ret
  exact ⟨rfl, b1⟩


/-! ### the table -/
def rwC (n : Int) (f : Nat) : Array Value := #[.int .u8 n, .func (.func f) #[] #[]]
structure Rw where
  num : Int
  f : Nat
  ap : Pc → Bool

def rlC : List Rw := [⟨0, 34, cq1⟩, ⟨1, 35, cq2⟩, ⟨0, 37, cq3⟩, ⟨0, 38, cq4⟩, ⟨1, 40, cq5⟩, ⟨1, 41, cq6⟩, ⟨2, 43, cq7⟩, ⟨0, 44, cq8⟩]

def tbC : Array Value := #[.int .u8 0, .func (.func 34) #[] #[], .int .u8 1, .func (.func 35) #[] #[], .int .u8 0, .func (.func 37) #[] #[], .int .u8 0, .func (.func 38) #[] #[], .int .u8 1, .func (.func 40) #[] #[], .int .u8 1, .func (.func 41) #[] #[], .int .u8 2, .func (.func 43) #[] #[], .int .u8 0, .func (.func 44) #[] #[]]

def zTbC : Array Value := #[.int .u8 0, .nilFunc, .int .u8 0, .nilFunc, .int .u8 0, .nilFunc, .int .u8 0, .nilFunc, .int .u8 0, .nilFunc, .int .u8 0, .nilFunc, .int .u8 0, .nilFunc, .int .u8 0, .nilFunc]

theorem tbC_part : ∀ (k : Nat) (x : Rw), rlC[k]? = some x → ∀ (j : Nat) (v : Value), (rwC x.num x.f)[j]? = some v → tbC[k * 2 + j]? = some v
  | 0, x, hx, j, v, hj => by
    have e : x = ⟨0, 34, cq1⟩ := (Option.some.inj hx).symm
    subst e
    match j, hj with
    | 0, hj => exact hj
    | 1, hj => exact hj
    | j + 2, hj => simp [rwC] at hj
  | 1, x, hx, j, v, hj => by
    have e : x = ⟨1, 35, cq2⟩ := (Option.some.inj hx).symm
    subst e
    match j, hj with
    | 0, hj => exact hj
    | 1, hj => exact hj
    | j + 2, hj => simp [rwC] at hj
  | 2, x, hx, j, v, hj => by
    have e : x = ⟨0, 37, cq3⟩ := (Option.some.inj hx).symm
    subst e
    match j, hj with
    | 0, hj => exact hj
    | 1, hj => exact hj
    | j + 2, hj => simp [rwC] at hj
  | 3, x, hx, j, v, hj => by
    have e : x = ⟨0, 38, cq4⟩ := (Option.some.inj hx).symm
    subst e
    match j, hj with
    | 0, hj => exact hj
    | 1, hj => exact hj
    | j + 2, hj => simp [rwC] at hj
  | 4, x, hx, j, v, hj => by
    have e : x = ⟨1, 40, cq5⟩ := (Option.some.inj hx).symm
    subst e
    match j, hj with
    | 0, hj => exact hj
    | 1, hj => exact hj
    | j + 2, hj => simp [rwC] at hj
  | 5, x, hx, j, v, hj => by
    have e : x = ⟨1, 41, cq6⟩ := (Option.some.inj hx).symm
    subst e
    match j, hj with
    | 0, hj => exact hj
    | 1, hj => exact hj
    | j + 2, hj => simp [rwC] at hj
  | 6, x, hx, j, v, hj => by
    have e : x = ⟨2, 43, cq7⟩ := (Option.some.inj hx).symm
    subst e
    match j, hj with
    | 0, hj => exact hj
    | 1, hj => exact hj
    | j + 2, hj => simp [rwC] at hj
  | 7, x, hx, j, v, hj => by
    have e : x = ⟨0, 44, cq8⟩ := (Option.some.inj hx).symm
    subst e
    match j, hj with
    | 0, hj => exact hj
    | 1, hj => exact hj
    | j + 2, hj => simp [rwC] at hj
  | k + 8, x, hx, _, _, _ => by simp [rlC] at hx
/-- a row's closure does what the row says -/
structure RwOk (x : Rw) : Prop where
  enters : ∀ args w, (callFunc x.f args).run Try.prog w = .ok (.enter x.f args) w
  calls : ∀ p w, Calls Try.prog x.f #[.agg (pcA p)] w fun e w' => e = .returned (.bool (x.ap p)) ∧ Below w.heap.size w w'
theorem rlC_ok : ∀ x ∈ rlC, RwOk x := by
  intro x hx
  simp only [rlC, List.mem_cons, List.not_mem_nil, or_false] at hx
  rcases hx with rfl | rfl | rfl | rfl | rfl | rfl | rfl | rfl
  · exact ⟨enters_of Try.func34 (by kernel_rfl) rfl, chr1_any⟩
  · exact ⟨enters_of Try.func35 (by kernel_rfl) rfl, chr2_any⟩
  · exact ⟨enters_of Try.func37 (by kernel_rfl) rfl, chr3_any⟩
  · exact ⟨enters_of Try.func38 (by kernel_rfl) rfl, chr4_any⟩
  · exact ⟨enters_of Try.func40 (by kernel_rfl) rfl, chr5_any⟩
  · exact ⟨enters_of Try.func41 (by kernel_rfl) rfl, chr6_any⟩
  · exact ⟨enters_of Try.func43 (by kernel_rfl) rfl, chr7_any⟩
  · exact ⟨enters_of Try.func44 (by kernel_rfl) rfl, chr8_any⟩

theorem iTbC : (Try.prog.info? 55).map (·.size) = some 16 := by kernel_rfl
theorem alTbC (w : World) : (Instr.alloc 55 true (.tuple #[])).run Try.prog w = .ok (.pointer (some ⟨w.heap.size, 0, none⟩)) (w.alloc (.cells zTbC 55)) := by kernel_rfl
set_option maxRecDepth 100000 in
set_option maxHeartbeats 4000000 in
theorem chrows_any (w : World) :
    Calls Try.prog 22 #[] w fun e w' => e = .returned (.agg tbC) ∧ Below w.heap.size w w' := by
  go_enter Try.func22, Try.ntmps22
  go_wp2_with (first
    | (refine wpList_newV rfl 55 rfl _ alTbC ?_; intro w1 b1 B1)
    | (refine wpList_storeL rfl 55 (.tmp 0) (.tmp 9) rfl rfl _ rfl tbC rfl 55 zTbC B1 iTbC rfl (by kernel_rfl) ?_; intro w2 m2 B2))
  refine bodyPost_ret (v := .agg tbC) (res_row rfl _ _ w.heap.size 55 tbC _ rfl B2 Try.underlying55 rfl iTbC) rfl ⟨rfl, b1.trans (m2.below b1.size (fun k hk => by omega))⟩

/-! ### the first row that applies -/
def frsC (p : Pc) : List Rw → Int
  | [] => 0
  | x :: t => if x.ap p then x.num else frsC p t
theorem frsC_skip (p : Pc) : ∀ (l : List Rw) (k : Nat), (∀ j x, j < k → l[j]? = some x → x.ap p = false) → frsC p l = frsC p (l.drop k)
  | _, 0, _ => rfl
  | [], k + 1, _ => rfl
  | x :: t, k + 1, h => by
    have h0 := h 0 x (by omega) rfl
    show (if x.ap p then _ else frsC p t) = _
    rw [h0, if_neg (by decide)]
    exact frsC_skip p t k fun j y hj hy => h (j + 1) y (by omega) hy
theorem frsC_here (p : Pc) {l : List Rw} {k : Nat} {x : Rw} (h : ∀ j x, j < k → l[j]? = some x → x.ap p = false) (hx : l[k]? = some x) (ha : x.ap p = true) : frsC p l = x.num := by
  rw [frsC_skip p l k h]
  obtain ⟨hl, he⟩ := List.getElem?_eq_some_iff.1 hx
  rw [List.drop_eq_getElem_cons hl, he]
  show (if x.ap p then _ else _) = _
  rw [ha]
  rfl
theorem lookC {l : List Rw} {k : Nat} {x : Rw} {p : Pc} (h : ∀ j x, j < k → l[j]? = some x → x.ap p = false) (hx : l[k]? = some x) (ha : x.ap p = false) : ∀ j x, j < k + 1 → l[j]? = some x → x.ap p = false := fun j y hj hy => by
  by_cases e : j = k
  · subst e
    rw [hx] at hy
    cases hy
    exact ha
  · exact h j y (by omega) hy
/-- what is at a place, by the table -/
theorem frsC_first (b a : Hc) (s : Sty) (e : Bool) : frsC ⟨true, b, a, s, e⟩ rlC = 0 := rfl
theorem frsC_is (ss : List Sty) (x y : Cr) (r : Sty) (q : Bool) : frsC ⟨false, hcOf ss x, hcOf ss y, r, q⟩ rlC = Ch.oneC x y r (stl ss x.node) q := by
  have e1 : cq1 ⟨false, hcOf ss x, hcOf ss y, r, q⟩ = decide (x.kind = 5 ∨ y.kind = 5 ∨ r.a0 = 1 ∨ r.a0 = 2) := by rw [Bool.eq_iff_iff]; simp [cq1, hcOf, or_assoc]
  have e2 : cq2 ⟨false, hcOf ss x, hcOf ss y, r, q⟩ = decide ((x.kind = 3 ∨ x.kind = 4) ∧ (stl ss x.node).a0 = 5) := by rw [Bool.eq_iff_iff]; simp [cq2, endH, hcOf]
  have e3 : cq3 ⟨false, hcOf ss x, hcOf ss y, r, q⟩ = decide (y.kind = 1 ∨ y.kind = 2) := by rw [Bool.eq_iff_iff]; simp [cq3, hcOf]
  have e4 : cq4 ⟨false, hcOf ss x, hcOf ss y, r, q⟩ = (decide (r.a3 = 3) && markC y) := rfl
  have e5 : cq5 ⟨false, hcOf ss x, hcOf ss y, r, q⟩ = decide (r.a3 = 3) := rfl
  have e6 : cq6 ⟨false, hcOf ss x, hcOf ss y, r, q⟩ = (q && !(decide (r.a1 = 2) && lett x && lett y)) := rfl
  have e7 : cq7 ⟨false, hcOf ss x, hcOf ss y, r, q⟩ = (decide (r.a2 = 1) && !markC y) := rfl
  obtain ⟨P, hP⟩ : ∃ P : Pc, (⟨false, hcOf ss x, hcOf ss y, r, q⟩ : Pc) = P := ⟨_, rfl⟩
  rw [hP] at e1 e2 e3 e4 e5 e6 e7 ⊢
  show (if cq1 P then (0 : Int) else if cq2 P then 1 else if cq3 P then 0 else if cq4 P then 0 else if cq5 P then 1 else if cq6 P then 1 else if cq7 P then 2 else if cq8 P then 0 else 0) = _
  rw [e1, e2, e3, e4, e5, e6, e7]
  unfold Ch.oneC
  simp only [decide_eq_true_eq, Bool.and_eq_true, Bool.not_eq_true', ite_self]
  by_cases c1 : x.kind = 5 ∨ y.kind = 5 ∨ r.a0 = 1 ∨ r.a0 = 2
  · rw [if_pos c1, if_pos c1]
  rw [if_neg c1, if_neg c1]
  by_cases c2 : (x.kind = 3 ∨ x.kind = 4) ∧ (stl ss x.node).a0 = 5
  · rw [if_pos c2, if_pos c2]
  rw [if_neg c2, if_neg c2]
  by_cases c3 : y.kind = 1 ∨ y.kind = 2
  · rw [if_pos c3, if_pos c3]
  rw [if_neg c3, if_neg c3]
  by_cases c4 : r.a3 = 3
  · cases markC y <;> simp [c4]
  · simp [c4]

/-! ### at -/
theorem uRwC : Try.prog.underlying 53 = some (.struct (Try.prog.fieldsOf 53)) := by kernel_rfl
theorem iRwC (n : Int) (f : Nat) : (Try.prog.info? 53).map (·.size) = some (rwC n f).size := by kernel_rfl
theorem oneRwC (n : Int) (f : Nat) : (rwC n f).all (·.oneCell') = true := by kernel_rfl
theorem alRwC (w : World) : (Instr.alloc 53 true (.tuple #[])).run Try.prog w = .ok (.pointer (some ⟨w.heap.size, 0, none⟩)) (w.alloc (.cells #[.int .u8 0, .nilFunc] 53)) := by kernel_rfl
section
variable {ops : Array Oper} {Q : Exit → Act → World → Prop} {a : Act} {w : World} {rest : List Oper} {o o1 o2 : Oper}
theorem ldRwC (hg : o.guard = none) (x : Operand) (ho : o.op = .load 53 x) (p : Addr) (hx : a.eval x = .pointer (some p)) (n : Int) (f : Nat) (hL : Lies w p (rwC n f))
    (h : wpList Try.prog ops Q rest (a.put o.dst (.agg (rwC n f))) w) : wpList Try.prog ops Q (o :: rest) a w := wpList_loadL hg 53 x ho p hx (rwC n f) _ hL uRwC rfl (iRwC n f) h
theorem nwRwC (hg1 : o1.guard = none) (hg2 : o2.guard = none) (D : Tmp) (hd1 : o1.dst = some D) (ho1 : o1.op = .alloc 53) (y : Operand) (ho2 : o2.op = .store 53 (.tmp D) y) (hd2 : o2.dst = none)
    (n : Int) (f : Nat) (hx : ∀ v, (a.put (some D) v).eval (.tmp D) = v) (hy : ∀ v, (a.put (some D) v).eval y = .agg (rwC n f))
    (h : ∀ w', Below w.heap.size w w' → Blk w' w.heap.size 53 (rwC n f) → wpList Try.prog ops Q rest (a.put (some D) (.pointer (some ⟨w.heap.size, 0, none⟩))) w') : wpList Try.prog ops Q (o1 :: o2 :: rest) a w :=
  wpList_newS hg1 hg2 53 D hd1 ho1 y ho2 hd2 _ alRwC (rwC n f) hx hy (iRwC n f) rfl (oneRwC n f) h
end

set_option maxRecDepth 100000 in
set_option maxHeartbeats 8000000 in
theorem chat_any (p : Pc) (T : Nat) (w : World) (hT : Blk w T 55 tbC) :
    Calls Try.prog 23 #[.pointer (some ⟨T, 0, none⟩), .agg (pcA p)] w fun e w' => e = .returned (.int .u8 (frsC p rlC)) ∧ Below w.heap.size w w' := by
  have HT := Lib.hid hT
  obtain ⟨r, hr⟩ : ∃ r, frsC p rlC = r := ⟨_, rfl⟩
  have HR := Lib.hid hr
  rw [hr]
  clear hr hT
  go_enter Try.func23, Try.ntmps23
  go_wp2_with (refine bxPcV rfl (.tmp 1) rfl p rfl ?_; intro w1 b1 B1)
  have l1 := B1.lt
  have l0 := HT.out.lt
  have HK : Hid (∀ W, Below w1.heap.size w1 W → Blk W T 55 tbC ∧ Blk W w.heap.size 60 (pcA p)) := Lib.hid fun W h => by
    have m1 := Mod.of_below (S := fun _ => False) h
    have m0 := (Mod.of_below (S := fun _ => False) b1).trans m1
    exact ⟨HT.out.keep m0 id, B1.keep m1 id⟩
  have hs1 := b1.size
  clear B1 HT
  go_loopg [9] 8 (fun kx i wr => ∃ (k : Nat), i = .int .i64 k ∧ k ≤ 8 ∧ kx = 8 - k ∧ Below w1.heap.size w1 wr ∧ Hid (∀ j x, j < k → rlC[j]? = some x → x.ap p = false))
  case atStart => exact ⟨0, rfl, by omega, by omega, Below.refl _ _, Lib.hid fun j x h => absurd h (by omega)⟩
  case round =>
    obtain ⟨k, rfl, hk, rfl, bel, HN⟩ := hrel
    by_cases hlt : k < 8
    · obtain ⟨x, hx⟩ : ∃ x, rlC[k]? = some x := ⟨_, List.getElem?_eq_getElem (show k < rlC.length from hlt)⟩
      obtain ⟨kT, kP⟩ := HK.out wr bel
      have L : Lies wr ⟨T, k * 2, none⟩ (rwC x.num x.f) := kT.part (k * 2) (tbC_part k x hx)
      have hok := rlC_ok x (List.mem_of_getElem? hx)
      obtain ⟨q, hq⟩ : ∃ q, x.ap p = q := ⟨_, rfl⟩
      have HC : Hid (∀ W, Calls Try.prog x.f #[.agg (pcA p)] W fun e w' => e = .returned (.bool q) ∧ Below W.heap.size W w') := Lib.hid fun W => by rw [← hq]; exact hok.calls p W
      have hen := hok.enters
      have HQ : Hid (q = true → r = x.num) := Lib.hid fun h => by rw [← HR.out]; exact frsC_here p HN.out hx (hq.trans h)
      have HQ0 : Hid (q = false → ∀ j x, j < k + 1 → rlC[j]? = some x → x.ap p = false) := Lib.hid fun h => lookC HN.out hx (hq.trans h)
      generalize x.f = f at *
      generalize x.num = n at *
      have hkz : (k : Int) < 8 := by omega
      clear hok hx hq kT kP
      go_wp2_with (first
        | (refine ldRwC (o := ⟨some 13, _, _, _, _, _⟩) rfl (.tmp 12) rfl _ rfl n f L ?_)
        | (refine nwRwC (o1 := ⟨some 6, _, _, _, _, _⟩) rfl rfl 6 rfl rfl (.tmp 13) rfl rfl n f (fun _ => rfl) (fun _ => rfl) ?_; intro w4 b4 B4; refine Mk.out ?_))
      constructor
      have bel4 := bel.trans (b4.mono bel.size)
      obtain ⟨kT, kP⟩ := HK.out w4 bel4
      have n1 : w4.cell? ⟨wr.heap.size, 1, none⟩ = some (.func (.func f) #[] #[]) := B4.cell 1
      have LP := kP.lies
      clear L kT
      go_wp2_with (refine ldPc (o := ⟨some 16, _, _, _, _, _⟩) rfl (.tmp 3) rfl _ rfl p LP ?_)
      refine (HC.out _).mono ?_
      rintro e w5 ⟨rfl, b5⟩
      have bel5 := bel4.trans (b5.mono bel4.size)
      have B5 := B4.keep (S := fun _ => False) (Mod.of_below b5) id
      have n0 : w5.cell? ⟨wr.heap.size, 0, none⟩ = some (.int .u8 n) := B5.cell 0
      clear LP n1 kP hen
      cases q
      · go_wp2_with fail
        go_roundg (8 - (k + 1))
        case measure => omega
        case rel => exact ⟨k + 1, by go_num, by omega, by first | rfl | trivial, bel5, Lib.hid (HQ0.out (by first | rfl | trivial))⟩
      · obtain rfl := HQ.out rfl
        go_wp2_with fail
        go_ret
        exact ⟨rfl, below_seq b1 bel5⟩
    · obtain rfl : k = 8 := by omega
      exact absurd (show true = false from HN.out 7 _ (by omega) rfl) (by decide)
end Go.Proofs.Ytnoenccpbbkdeaa
