/- Contracts of pair's place.next and of the closures of its rules. No conditions. -/
import Derived.Test.YtnoenccpbbkdeaaPrRow
namespace Go.Proofs.Ytnoenccpbbkdeaa
open Go.ChangeShapes Go.WideShapes Go.ChangeAt Go.RowKit

def ap1 (p : Plc) : Bool := (p.a == 1)
set_option maxRecDepth 100000 in
set_option maxHeartbeats 4000000 in
theorem pr1_any (p : Plc) (w : World) :
    Calls Try.prog 61 #[.agg (plC p)] w fun e w' => e = .returned (.tuple #[.bool (ap1 p), .bool true]) ∧ Below w.heap.size w w' := by
  obtain ⟨a, b, o, cl⟩ := p
  go_enter Try.func61, Try.ntmps61
  go_wp2_with (refine bxPV rfl (.tmp 0) rfl ⟨a, b, o, cl⟩ rfl ?_; intro w1 b1 B1; refine Mk.out ?_)
  constructor
  have c0 : w1.cell? ⟨w.heap.size, 0, none⟩ = some (.int .u8 a) := B1.cell 0
  have c1 : w1.cell? ⟨w.heap.size, 1, none⟩ = some (.int .u8 b) := B1.cell 1
  have c2 : w1.cell? ⟨w.heap.size, 2, none⟩ = some (.int .u8 o) := B1.cell 2
  have c3 : w1.cell? ⟨w.heap.size, 3, none⟩ = some (.bool cl) := B1.cell 3
  go_wp2_with fail
  go_ret2
  exact ⟨rfl, b1⟩

def ap5 (p : Plc) : Bool := (p.o == 6)
set_option maxRecDepth 100000 in
set_option maxHeartbeats 4000000 in
theorem pr5_any (p : Plc) (w : World) :
    Calls Try.prog 67 #[.agg (plC p)] w fun e w' => e = .returned (.tuple #[.bool (ap5 p), .bool true]) ∧ Below w.heap.size w w' := by
  obtain ⟨a, b, o, cl⟩ := p
  go_enter Try.func67, Try.ntmps67
  go_wp2_with (refine bxPV rfl (.tmp 0) rfl ⟨a, b, o, cl⟩ rfl ?_; intro w1 b1 B1; refine Mk.out ?_)
  constructor
  have c0 : w1.cell? ⟨w.heap.size, 0, none⟩ = some (.int .u8 a) := B1.cell 0
  have c1 : w1.cell? ⟨w.heap.size, 1, none⟩ = some (.int .u8 b) := B1.cell 1
  have c2 : w1.cell? ⟨w.heap.size, 2, none⟩ = some (.int .u8 o) := B1.cell 2
  have c3 : w1.cell? ⟨w.heap.size, 3, none⟩ = some (.bool cl) := B1.cell 3
  go_wp2_with fail
  go_ret2
  exact ⟨rfl, b1⟩

def ap6 (p : Plc) : Bool := p.cl
set_option maxRecDepth 100000 in
set_option maxHeartbeats 4000000 in
theorem pr6_any (p : Plc) (w : World) :
    Calls Try.prog 68 #[.agg (plC p)] w fun e w' => e = .returned (.tuple #[.bool (ap6 p), .bool false]) ∧ Below w.heap.size w w' := by
  obtain ⟨a, b, o, cl⟩ := p
  obtain ⟨r, hr⟩ : ∃ r, ap6 ⟨a, b, o, cl⟩ = r := ⟨_, rfl⟩
  have HR := Lib.hid hr
  rw [hr]
  clear hr
  go_enter Try.func68, Try.ntmps68
  go_wp2_with (refine bxPV rfl (.tmp 0) rfl ⟨a, b, o, cl⟩ rfl ?_; intro w1 b1 B1; refine Mk.out ?_)
  constructor
  have c0 : w1.cell? ⟨w.heap.size, 0, none⟩ = some (.int .u8 a) := B1.cell 0
  have c1 : w1.cell? ⟨w.heap.size, 1, none⟩ = some (.int .u8 b) := B1.cell 1
  have c2 : w1.cell? ⟨w.heap.size, 2, none⟩ = some (.int .u8 o) := B1.cell 2
  have c3 : w1.cell? ⟨w.heap.size, 3, none⟩ = some (.bool cl) := B1.cell 3
  have e : cl = r := HR.out
  rw [e] at c3
  go_wp2_with fail
  go_ret2
  exact ⟨rfl, b1⟩

def ap7 (p : Plc) : Bool := (p.a == 7) || (p.b == 7)
set_option maxRecDepth 100000 in
set_option maxHeartbeats 4000000 in
theorem pr7_any (p : Plc) (w : World) :
    Calls Try.prog 69 #[.agg (plC p)] w fun e w' => e = .returned (.tuple #[.bool (ap7 p), .bool false]) ∧ Below w.heap.size w w' := by
  obtain ⟨a, b, o, cl⟩ := p
  go_enter Try.func69, Try.ntmps69
  go_wp2_with (refine bxPV rfl (.tmp 0) rfl ⟨a, b, o, cl⟩ rfl ?_; intro w1 b1 B1; refine Mk.out ?_)
  constructor
  have c0 : w1.cell? ⟨w.heap.size, 0, none⟩ = some (.int .u8 a) := B1.cell 0
  have c1 : w1.cell? ⟨w.heap.size, 1, none⟩ = some (.int .u8 b) := B1.cell 1
  have c2 : w1.cell? ⟨w.heap.size, 2, none⟩ = some (.int .u8 o) := B1.cell 2
  have c3 : w1.cell? ⟨w.heap.size, 3, none⟩ = some (.bool cl) := B1.cell 3
  by_cases h0 : a = 7
  · subst h0
    go_wp2_with fail
    go_ret2
    exact ⟨rfl, b1⟩
  · go_wp2_with fail
    go_ret2
    exact ⟨by simp [ap7], b1⟩

def ap10 (p : Plc) : Bool := (p.o == 14)
set_option maxRecDepth 100000 in
set_option maxHeartbeats 4000000 in
theorem pr10_any (p : Plc) (w : World) :
    Calls Try.prog 72 #[.agg (plC p)] w fun e w' => e = .returned (.tuple #[.bool (ap10 p), .bool false]) ∧ Below w.heap.size w w' := by
  obtain ⟨a, b, o, cl⟩ := p
  go_enter Try.func72, Try.ntmps72
  go_wp2_with (refine bxPV rfl (.tmp 0) rfl ⟨a, b, o, cl⟩ rfl ?_; intro w1 b1 B1; refine Mk.out ?_)
  constructor
  have c0 : w1.cell? ⟨w.heap.size, 0, none⟩ = some (.int .u8 a) := B1.cell 0
  have c1 : w1.cell? ⟨w.heap.size, 1, none⟩ = some (.int .u8 b) := B1.cell 1
  have c2 : w1.cell? ⟨w.heap.size, 2, none⟩ = some (.int .u8 o) := B1.cell 2
  have c3 : w1.cell? ⟨w.heap.size, 3, none⟩ = some (.bool cl) := B1.cell 3
  go_wp2_with fail
  go_ret2
  exact ⟨rfl, b1⟩

def ap11 (p : Plc) : Bool := (p.o == 16) && (p.b == 14)
set_option maxRecDepth 100000 in
set_option maxHeartbeats 4000000 in
theorem pr11_any (p : Plc) (w : World) :
    Calls Try.prog 73 #[.agg (plC p)] w fun e w' => e = .returned (.tuple #[.bool (ap11 p), .bool false]) ∧ Below w.heap.size w w' := by
  obtain ⟨a, b, o, cl⟩ := p
  go_enter Try.func73, Try.ntmps73
  go_wp2_with (refine bxPV rfl (.tmp 0) rfl ⟨a, b, o, cl⟩ rfl ?_; intro w1 b1 B1; refine Mk.out ?_)
  constructor
  have c0 : w1.cell? ⟨w.heap.size, 0, none⟩ = some (.int .u8 a) := B1.cell 0
  have c1 : w1.cell? ⟨w.heap.size, 1, none⟩ = some (.int .u8 b) := B1.cell 1
  have c2 : w1.cell? ⟨w.heap.size, 2, none⟩ = some (.int .u8 o) := B1.cell 2
  have c3 : w1.cell? ⟨w.heap.size, 3, none⟩ = some (.bool cl) := B1.cell 3
  by_cases h0 : o = 16
  · subst h0
    go_wp2_with fail
    go_ret2
    exact ⟨rfl, b1⟩
  · go_wp2_with fail
    go_ret2
    exact ⟨by simp [ap11, h0], b1⟩

def ap12 (p : Plc) : Bool := (p.o == 15) && (p.b == 19)
set_option maxRecDepth 100000 in
set_option maxHeartbeats 4000000 in
theorem pr12_any (p : Plc) (w : World) :
    Calls Try.prog 74 #[.agg (plC p)] w fun e w' => e = .returned (.tuple #[.bool (ap12 p), .bool false]) ∧ Below w.heap.size w w' := by
  obtain ⟨a, b, o, cl⟩ := p
  go_enter Try.func74, Try.ntmps74
  go_wp2_with (refine bxPV rfl (.tmp 0) rfl ⟨a, b, o, cl⟩ rfl ?_; intro w1 b1 B1; refine Mk.out ?_)
  constructor
  have c0 : w1.cell? ⟨w.heap.size, 0, none⟩ = some (.int .u8 a) := B1.cell 0
  have c1 : w1.cell? ⟨w.heap.size, 1, none⟩ = some (.int .u8 b) := B1.cell 1
  have c2 : w1.cell? ⟨w.heap.size, 2, none⟩ = some (.int .u8 o) := B1.cell 2
  have c3 : w1.cell? ⟨w.heap.size, 3, none⟩ = some (.bool cl) := B1.cell 3
  by_cases h0 : o = 15
  · subst h0
    go_wp2_with fail
    go_ret2
    exact ⟨rfl, b1⟩
  · go_wp2_with fail
    go_ret2
    exact ⟨by simp [ap12, h0], b1⟩

def ap13 (p : Plc) : Bool := (p.o == 12) && (p.b == 12)
set_option maxRecDepth 100000 in
set_option maxHeartbeats 4000000 in
theorem pr13_any (p : Plc) (w : World) :
    Calls Try.prog 75 #[.agg (plC p)] w fun e w' => e = .returned (.tuple #[.bool (ap13 p), .bool false]) ∧ Below w.heap.size w w' := by
  obtain ⟨a, b, o, cl⟩ := p
  go_enter Try.func75, Try.ntmps75
  go_wp2_with (refine bxPV rfl (.tmp 0) rfl ⟨a, b, o, cl⟩ rfl ?_; intro w1 b1 B1; refine Mk.out ?_)
  constructor
  have c0 : w1.cell? ⟨w.heap.size, 0, none⟩ = some (.int .u8 a) := B1.cell 0
  have c1 : w1.cell? ⟨w.heap.size, 1, none⟩ = some (.int .u8 b) := B1.cell 1
  have c2 : w1.cell? ⟨w.heap.size, 2, none⟩ = some (.int .u8 o) := B1.cell 2
  have c3 : w1.cell? ⟨w.heap.size, 3, none⟩ = some (.bool cl) := B1.cell 3
  by_cases h0 : o = 12
  · subst h0
    go_wp2_with fail
    go_ret2
    exact ⟨rfl, b1⟩
  · go_wp2_with fail
    go_ret2
    exact ⟨by simp [ap13, h0], b1⟩

def ap14 (p : Plc) : Bool := (p.a == 5)
set_option maxRecDepth 100000 in
set_option maxHeartbeats 4000000 in
theorem pr14_any (p : Plc) (w : World) :
    Calls Try.prog 76 #[.agg (plC p)] w fun e w' => e = .returned (.tuple #[.bool (ap14 p), .bool true]) ∧ Below w.heap.size w w' := by
  obtain ⟨a, b, o, cl⟩ := p
  go_enter Try.func76, Try.ntmps76
  go_wp2_with (refine bxPV rfl (.tmp 0) rfl ⟨a, b, o, cl⟩ rfl ?_; intro w1 b1 B1; refine Mk.out ?_)
  constructor
  have c0 : w1.cell? ⟨w.heap.size, 0, none⟩ = some (.int .u8 a) := B1.cell 0
  have c1 : w1.cell? ⟨w.heap.size, 1, none⟩ = some (.int .u8 b) := B1.cell 1
  have c2 : w1.cell? ⟨w.heap.size, 2, none⟩ = some (.int .u8 o) := B1.cell 2
  have c3 : w1.cell? ⟨w.heap.size, 3, none⟩ = some (.bool cl) := B1.cell 3
  go_wp2_with fail
  go_ret2
  exact ⟨rfl, b1⟩

def ap15 (p : Plc) : Bool := (p.a == 16) || (p.b == 16)
set_option maxRecDepth 100000 in
set_option maxHeartbeats 4000000 in
theorem pr15_any (p : Plc) (w : World) :
    Calls Try.prog 77 #[.agg (plC p)] w fun e w' => e = .returned (.tuple #[.bool (ap15 p), .bool false]) ∧ Below w.heap.size w w' := by
  obtain ⟨a, b, o, cl⟩ := p
  go_enter Try.func77, Try.ntmps77
  go_wp2_with (refine bxPV rfl (.tmp 0) rfl ⟨a, b, o, cl⟩ rfl ?_; intro w1 b1 B1; refine Mk.out ?_)
  constructor
  have c0 : w1.cell? ⟨w.heap.size, 0, none⟩ = some (.int .u8 a) := B1.cell 0
  have c1 : w1.cell? ⟨w.heap.size, 1, none⟩ = some (.int .u8 b) := B1.cell 1
  have c2 : w1.cell? ⟨w.heap.size, 2, none⟩ = some (.int .u8 o) := B1.cell 2
  have c3 : w1.cell? ⟨w.heap.size, 3, none⟩ = some (.bool cl) := B1.cell 3
  by_cases h0 : a = 16
  · subst h0
    go_wp2_with fail
    go_ret2
    exact ⟨rfl, b1⟩
  · go_wp2_with fail
    go_ret2
    exact ⟨by simp [ap15], b1⟩

def ap16 (p : Plc) : Bool := (p.a == 26) || (p.b == 26)
set_option maxRecDepth 100000 in
set_option maxHeartbeats 4000000 in
theorem pr16_any (p : Plc) (w : World) :
    Calls Try.prog 78 #[.agg (plC p)] w fun e w' => e = .returned (.tuple #[.bool (ap16 p), .bool true]) ∧ Below w.heap.size w w' := by
  obtain ⟨a, b, o, cl⟩ := p
  go_enter Try.func78, Try.ntmps78
  go_wp2_with (refine bxPV rfl (.tmp 0) rfl ⟨a, b, o, cl⟩ rfl ?_; intro w1 b1 B1; refine Mk.out ?_)
  constructor
  have c0 : w1.cell? ⟨w.heap.size, 0, none⟩ = some (.int .u8 a) := B1.cell 0
  have c1 : w1.cell? ⟨w.heap.size, 1, none⟩ = some (.int .u8 b) := B1.cell 1
  have c2 : w1.cell? ⟨w.heap.size, 2, none⟩ = some (.int .u8 o) := B1.cell 2
  have c3 : w1.cell? ⟨w.heap.size, 3, none⟩ = some (.bool cl) := B1.cell 3
  by_cases h0 : a = 26
  · subst h0
    go_wp2_with fail
    go_ret2
    exact ⟨rfl, b1⟩
  · go_wp2_with fail
    go_ret2
    exact ⟨by simp [ap16], b1⟩

def ap18 (p : Plc) : Bool := (p.b == 21)
set_option maxRecDepth 100000 in
set_option maxHeartbeats 4000000 in
theorem pr18_any (p : Plc) (w : World) :
    Calls Try.prog 80 #[.agg (plC p)] w fun e w' => e = .returned (.tuple #[.bool (ap18 p), .bool false]) ∧ Below w.heap.size w w' := by
  obtain ⟨a, b, o, cl⟩ := p
  go_enter Try.func80, Try.ntmps80
  go_wp2_with (refine bxPV rfl (.tmp 0) rfl ⟨a, b, o, cl⟩ rfl ?_; intro w1 b1 B1; refine Mk.out ?_)
  constructor
  have c0 : w1.cell? ⟨w.heap.size, 0, none⟩ = some (.int .u8 a) := B1.cell 0
  have c1 : w1.cell? ⟨w.heap.size, 1, none⟩ = some (.int .u8 b) := B1.cell 1
  have c2 : w1.cell? ⟨w.heap.size, 2, none⟩ = some (.int .u8 o) := B1.cell 2
  have c3 : w1.cell? ⟨w.heap.size, 3, none⟩ = some (.bool cl) := B1.cell 3
  go_wp2_with fail
  go_ret2
  exact ⟨rfl, b1⟩

def ap3 (p : Plc) : Bool := has [1, 2, 3, 4] p.b
set_option maxRecDepth 100000 in
set_option maxHeartbeats 4000000 in
theorem pr3_any (p : Plc) (w : World) :
    Calls Try.prog 65 #[.agg (plC p)] w fun e w' => e = .returned (.tuple #[.bool (ap3 p), .bool false]) ∧ Below w.heap.size w w' := by
  obtain ⟨a, b, o, cl⟩ := p
  obtain ⟨r, hr⟩ : ∃ r, ap3 ⟨a, b, o, cl⟩ = r := ⟨_, rfl⟩
  have HR := Lib.hid hr
  rw [hr]
  clear hr
  obtain ⟨q1, hq1⟩ : ∃ q, has [1, 2, 3, 4] b = q := ⟨_, rfl⟩
  have Q1 := Lib.hid hq1
  have C1 : Hid (∀ W v, R8 W v [1, 2, 3, 4] → Calls Try.prog 63 #[.int .u8 b, v] W fun e W' => e = .returned (.bool q1) ∧ W' = W) := Lib.hid fun W v h => by rw [← hq1]; exact pin_any v _ _ W h (by decide)
  clear hq1
  go_enter Try.func65, Try.ntmps65
  go_wp2_with (refine bxPV rfl (.tmp 0) rfl ⟨a, b, o, cl⟩ rfl ?_; intro w1 b1 B1; refine Mk.out ?_)
  constructor
  have c0 : w1.cell? ⟨w.heap.size, 0, none⟩ = some (.int .u8 a) := B1.cell 0
  have c1 : w1.cell? ⟨w.heap.size, 1, none⟩ = some (.int .u8 b) := B1.cell 1
  have c2 : w1.cell? ⟨w.heap.size, 2, none⟩ = some (.int .u8 o) := B1.cell 2
  have c3 : w1.cell? ⟨w.heap.size, 3, none⟩ = some (.bool cl) := B1.cell 3
  go_wp2_with fail
  refine (C1.out _ _ (r8_lit w1 [1, 2, 3, 4] 5 4 _ rfl rfl)).mono ?_
  rintro e w2 ⟨rfl, rfl⟩
  have b2 := below_seq b1 (below_alloc w1 (.cells (r8 [1, 2, 3, 4]).toArray 5))
  obtain rfl : q1 = r := by rw [← HR.out, ← Q1.out]; rfl
  go_wp2_with fail
  go_ret2
  exact ⟨rfl, b2⟩

def ap4 (p : Plc) : Bool := has [5, 6] p.b
set_option maxRecDepth 100000 in
set_option maxHeartbeats 4000000 in
theorem pr4_any (p : Plc) (w : World) :
    Calls Try.prog 66 #[.agg (plC p)] w fun e w' => e = .returned (.tuple #[.bool (ap4 p), .bool false]) ∧ Below w.heap.size w w' := by
  obtain ⟨a, b, o, cl⟩ := p
  obtain ⟨r, hr⟩ : ∃ r, ap4 ⟨a, b, o, cl⟩ = r := ⟨_, rfl⟩
  have HR := Lib.hid hr
  rw [hr]
  clear hr
  obtain ⟨q1, hq1⟩ : ∃ q, has [5, 6] b = q := ⟨_, rfl⟩
  have Q1 := Lib.hid hq1
  have C1 : Hid (∀ W v, R8 W v [5, 6] → Calls Try.prog 63 #[.int .u8 b, v] W fun e W' => e = .returned (.bool q1) ∧ W' = W) := Lib.hid fun W v h => by rw [← hq1]; exact pin_any v _ _ W h (by decide)
  clear hq1
  go_enter Try.func66, Try.ntmps66
  go_wp2_with (refine bxPV rfl (.tmp 0) rfl ⟨a, b, o, cl⟩ rfl ?_; intro w1 b1 B1; refine Mk.out ?_)
  constructor
  have c0 : w1.cell? ⟨w.heap.size, 0, none⟩ = some (.int .u8 a) := B1.cell 0
  have c1 : w1.cell? ⟨w.heap.size, 1, none⟩ = some (.int .u8 b) := B1.cell 1
  have c2 : w1.cell? ⟨w.heap.size, 2, none⟩ = some (.int .u8 o) := B1.cell 2
  have c3 : w1.cell? ⟨w.heap.size, 3, none⟩ = some (.bool cl) := B1.cell 3
  go_wp2_with fail
  refine (C1.out _ _ (r8_lit w1 [5, 6] 5 2 _ rfl rfl)).mono ?_
  rintro e w2 ⟨rfl, rfl⟩
  have b2 := below_seq b1 (below_alloc w1 (.cells (r8 [5, 6]).toArray 5))
  obtain rfl : q1 = r := by rw [← HR.out, ← Q1.out]; rfl
  go_wp2_with fail
  go_ret2
  exact ⟨rfl, b2⟩

def ap9 (p : Plc) : Bool := has [15, 17, 18] p.b
set_option maxRecDepth 100000 in
set_option maxHeartbeats 4000000 in
theorem pr9_any (p : Plc) (w : World) :
    Calls Try.prog 71 #[.agg (plC p)] w fun e w' => e = .returned (.tuple #[.bool (ap9 p), .bool false]) ∧ Below w.heap.size w w' := by
  obtain ⟨a, b, o, cl⟩ := p
  obtain ⟨r, hr⟩ : ∃ r, ap9 ⟨a, b, o, cl⟩ = r := ⟨_, rfl⟩
  have HR := Lib.hid hr
  rw [hr]
  clear hr
  obtain ⟨q1, hq1⟩ : ∃ q, has [15, 17, 18] b = q := ⟨_, rfl⟩
  have Q1 := Lib.hid hq1
  have C1 : Hid (∀ W v, R8 W v [15, 17, 18] → Calls Try.prog 63 #[.int .u8 b, v] W fun e W' => e = .returned (.bool q1) ∧ W' = W) := Lib.hid fun W v h => by rw [← hq1]; exact pin_any v _ _ W h (by decide)
  clear hq1
  go_enter Try.func71, Try.ntmps71
  go_wp2_with (refine bxPV rfl (.tmp 0) rfl ⟨a, b, o, cl⟩ rfl ?_; intro w1 b1 B1; refine Mk.out ?_)
  constructor
  have c0 : w1.cell? ⟨w.heap.size, 0, none⟩ = some (.int .u8 a) := B1.cell 0
  have c1 : w1.cell? ⟨w.heap.size, 1, none⟩ = some (.int .u8 b) := B1.cell 1
  have c2 : w1.cell? ⟨w.heap.size, 2, none⟩ = some (.int .u8 o) := B1.cell 2
  have c3 : w1.cell? ⟨w.heap.size, 3, none⟩ = some (.bool cl) := B1.cell 3
  go_wp2_with fail
  refine (C1.out _ _ (r8_lit w1 [15, 17, 18] 5 3 _ rfl rfl)).mono ?_
  rintro e w2 ⟨rfl, rfl⟩
  have b2 := below_seq b1 (below_alloc w1 (.cells (r8 [15, 17, 18]).toArray 5))
  obtain rfl : q1 = r := by rw [← HR.out, ← Q1.out]; rfl
  go_wp2_with fail
  go_ret2
  exact ⟨rfl, b2⟩

def ap8 (p : Plc) : Bool := (p.a == 8) || ((p.b == 8) && !has [5, 10, 13] p.a)
set_option maxRecDepth 100000 in
set_option maxHeartbeats 4000000 in
theorem pr8_any (p : Plc) (w : World) :
    Calls Try.prog 70 #[.agg (plC p)] w fun e w' => e = .returned (.tuple #[.bool (ap8 p), .bool false]) ∧ Below w.heap.size w w' := by
  obtain ⟨a, b, o, cl⟩ := p
  obtain ⟨r, hr⟩ : ∃ r, ap8 ⟨a, b, o, cl⟩ = r := ⟨_, rfl⟩
  have HR := Lib.hid hr
  rw [hr]
  clear hr
  obtain ⟨q1, hq1⟩ : ∃ q, has [5, 10, 13] a = q := ⟨_, rfl⟩
  have Q1 := Lib.hid hq1
  have C1 : Hid (∀ W v, R8 W v [5, 10, 13] → Calls Try.prog 63 #[.int .u8 a, v] W fun e W' => e = .returned (.bool q1) ∧ W' = W) := Lib.hid fun W v h => by rw [← hq1]; exact pin_any v _ _ W h (by decide)
  clear hq1
  go_enter Try.func70, Try.ntmps70
  go_wp2_with (refine bxPV rfl (.tmp 0) rfl ⟨a, b, o, cl⟩ rfl ?_; intro w1 b1 B1; refine Mk.out ?_)
  constructor
  have c0 : w1.cell? ⟨w.heap.size, 0, none⟩ = some (.int .u8 a) := B1.cell 0
  have c1 : w1.cell? ⟨w.heap.size, 1, none⟩ = some (.int .u8 b) := B1.cell 1
  have c2 : w1.cell? ⟨w.heap.size, 2, none⟩ = some (.int .u8 o) := B1.cell 2
  have c3 : w1.cell? ⟨w.heap.size, 3, none⟩ = some (.bool cl) := B1.cell 3
  by_cases h0 : a = 8
  · obtain rfl : true = r := by rw [← HR.out]; simp [ap8, h0]
    go_wp2_with fail
    go_ret2
    exact ⟨rfl, b1⟩
  · by_cases h1 : b = 8
    · go_wp2_with fail
      refine (C1.out _ _ (r8_lit w1 [5, 10, 13] 5 3 _ rfl rfl)).mono ?_
      rintro e w2 ⟨rfl, rfl⟩
      have b2 := below_seq b1 (below_alloc w1 (.cells (r8 [5, 10, 13]).toArray 5))
      cases q1
      · obtain rfl : true = r := by rw [← HR.out]; simp [ap8, h1, Q1.out]
        go_wp2_with fail
        go_ret2
        exact ⟨rfl, b2⟩
      · obtain rfl : false = r := by rw [← HR.out]; simp [ap8, h0, h1, Q1.out]
        go_wp2_with fail
        go_ret2
        exact ⟨by simp [h0], b2⟩
    · obtain rfl : false = r := by rw [← HR.out]; simp [ap8, h0, h1]
      go_wp2_with fail
      go_ret2
      exact ⟨by simp [h0], b1⟩

def ap17 (p : Plc) : Bool := has [10, 13, 19] p.b || (p.a == 11)
set_option maxRecDepth 100000 in
set_option maxHeartbeats 4000000 in
theorem pr17_any (p : Plc) (w : World) :
    Calls Try.prog 79 #[.agg (plC p)] w fun e w' => e = .returned (.tuple #[.bool (ap17 p), .bool false]) ∧ Below w.heap.size w w' := by
  obtain ⟨a, b, o, cl⟩ := p
  obtain ⟨r, hr⟩ : ∃ r, ap17 ⟨a, b, o, cl⟩ = r := ⟨_, rfl⟩
  have HR := Lib.hid hr
  rw [hr]
  clear hr
  obtain ⟨q1, hq1⟩ : ∃ q, has [10, 13, 19] b = q := ⟨_, rfl⟩
  have Q1 := Lib.hid hq1
  have C1 : Hid (∀ W v, R8 W v [10, 13, 19] → Calls Try.prog 63 #[.int .u8 b, v] W fun e W' => e = .returned (.bool q1) ∧ W' = W) := Lib.hid fun W v h => by rw [← hq1]; exact pin_any v _ _ W h (by decide)
  clear hq1
  go_enter Try.func79, Try.ntmps79
  go_wp2_with (refine bxPV rfl (.tmp 0) rfl ⟨a, b, o, cl⟩ rfl ?_; intro w1 b1 B1; refine Mk.out ?_)
  constructor
  have c0 : w1.cell? ⟨w.heap.size, 0, none⟩ = some (.int .u8 a) := B1.cell 0
  have c1 : w1.cell? ⟨w.heap.size, 1, none⟩ = some (.int .u8 b) := B1.cell 1
  have c2 : w1.cell? ⟨w.heap.size, 2, none⟩ = some (.int .u8 o) := B1.cell 2
  have c3 : w1.cell? ⟨w.heap.size, 3, none⟩ = some (.bool cl) := B1.cell 3
  go_wp2_with fail
  refine (C1.out _ _ (r8_lit w1 [10, 13, 19] 5 3 _ rfl rfl)).mono ?_
  rintro e w2 ⟨rfl, rfl⟩
  have b2 := below_seq b1 (below_alloc w1 (.cells (r8 [10, 13, 19]).toArray 5))
  have c0' : (w1.alloc (.cells (r8 [10, 13, 19]).toArray 5)).cell? ⟨w.heap.size, 0, none⟩ = some (.int .u8 a) := (B1.alloc _).cell 0
  cases q1
  · obtain rfl : (a == 11) = r := by rw [← HR.out]; simp [ap17, Q1.out]
    go_wp2_with fail
    go_ret2
    exact ⟨rfl, b2⟩
  · obtain rfl : true = r := by rw [← HR.out]; simp [ap17, Q1.out]
    go_wp2_with fail
    go_ret2
    exact ⟨rfl, b2⟩

def ap19 (p : Plc) : Bool := (decide (p.a = 0) && has [22] p.b) || (decide (p.a = 22) && has [0] p.b) || (decide (p.a = 23) && has [25] p.b) || (decide (p.a = 25) && has [24] p.b)
set_option maxRecDepth 100000 in
set_option maxHeartbeats 4000000 in
theorem pr19_any (p : Plc) (w : World) :
    Calls Try.prog 81 #[.agg (plC p)] w fun e w' => e = .returned (.tuple #[.bool (ap19 p), .bool false]) ∧ Below w.heap.size w w' := by
  obtain ⟨a, b, o, cl⟩ := p
  obtain ⟨r, hr⟩ : ∃ r, ap19 ⟨a, b, o, cl⟩ = r := ⟨_, rfl⟩
  have HR := Lib.hid hr
  rw [hr]
  clear hr
  obtain ⟨q1, hq1⟩ : ∃ q, (decide (a = 0) && has [22] b) = q := ⟨_, rfl⟩
  have Q1 := Lib.hid hq1
  have C1 : Hid (∀ W v, R8 W v [22] → Calls Try.prog 64 #[.agg (plC ⟨a, b, o, cl⟩), .int .u8 0, v] W fun e W' => e = .returned (.bool q1) ∧ Below W.heap.size W W') := Lib.hid fun W v h => by rw [← hq1]; exact pof_any v _ _ _ _ _ _ W h (by decide)
  clear hq1
  obtain ⟨q2, hq2⟩ : ∃ q, (decide (a = 22) && has [0] b) = q := ⟨_, rfl⟩
  have Q2 := Lib.hid hq2
  have C2 : Hid (∀ W v, R8 W v [0] → Calls Try.prog 64 #[.agg (plC ⟨a, b, o, cl⟩), .int .u8 22, v] W fun e W' => e = .returned (.bool q2) ∧ Below W.heap.size W W') := Lib.hid fun W v h => by rw [← hq2]; exact pof_any v _ _ _ _ _ _ W h (by decide)
  clear hq2
  obtain ⟨q3, hq3⟩ : ∃ q, (decide (a = 23) && has [25] b) = q := ⟨_, rfl⟩
  have Q3 := Lib.hid hq3
  have C3 : Hid (∀ W v, R8 W v [25] → Calls Try.prog 64 #[.agg (plC ⟨a, b, o, cl⟩), .int .u8 23, v] W fun e W' => e = .returned (.bool q3) ∧ Below W.heap.size W W') := Lib.hid fun W v h => by rw [← hq3]; exact pof_any v _ _ _ _ _ _ W h (by decide)
  clear hq3
  obtain ⟨q4, hq4⟩ : ∃ q, (decide (a = 25) && has [24] b) = q := ⟨_, rfl⟩
  have Q4 := Lib.hid hq4
  have C4 : Hid (∀ W v, R8 W v [24] → Calls Try.prog 64 #[.agg (plC ⟨a, b, o, cl⟩), .int .u8 25, v] W fun e W' => e = .returned (.bool q4) ∧ Below W.heap.size W W') := Lib.hid fun W v h => by rw [← hq4]; exact pof_any v _ _ _ _ _ _ W h (by decide)
  clear hq4
  go_enter Try.func81, Try.ntmps81
  go_wp2_with (refine bxPV rfl (.tmp 0) rfl ⟨a, b, o, cl⟩ rfl ?_; intro w1 b1 B1; refine Mk.out ?_)
  constructor
  have c0 : w1.cell? ⟨w.heap.size, 0, none⟩ = some (.int .u8 a) := B1.cell 0
  have c1 : w1.cell? ⟨w.heap.size, 1, none⟩ = some (.int .u8 b) := B1.cell 1
  have c2 : w1.cell? ⟨w.heap.size, 2, none⟩ = some (.int .u8 o) := B1.cell 2
  have c3 : w1.cell? ⟨w.heap.size, 3, none⟩ = some (.bool cl) := B1.cell 3
  go_wp2_with (refine ldP rfl (.tmp 1) rfl _ rfl ⟨a, b, o, cl⟩ B1.lies ?_)
  refine (C1.out _ _ (r8_lit w1 [22] 5 1 _ rfl rfl)).mono ?_
  rintro e w2 ⟨rfl, d1⟩
  have e1 := below_seq (below_alloc w1 _) d1
  have b2 := below_seq b1 e1
  have B2 := B1.keep (S := fun _ => False) (Mod.of_below e1) id
  cases q1
  rotate_left
  · obtain rfl : true = r := by rw [← HR.out]; simp [ap19, Q1.out]
    go_wp2_with fail
    go_ret2
    exact ⟨rfl, b2⟩
  go_wp2_with (refine ldPIf (by kernel_rfl) (.tmp 1) rfl _ rfl ⟨a, b, o, cl⟩ B2.lies ?_)
  refine (C2.out _ _ (r8_lit w2 [0] 5 1 _ rfl rfl)).mono ?_
  rintro e w3 ⟨rfl, d2⟩
  have e2 := below_seq (below_alloc w2 _) d2
  have b3 := below_seq b2 e2
  have B3 := B2.keep (S := fun _ => False) (Mod.of_below e2) id
  cases q2
  rotate_left
  · obtain rfl : true = r := by rw [← HR.out]; simp [ap19, Q1.out, Q2.out]
    go_wp2_with fail
    go_ret2
    exact ⟨rfl, b3⟩
  go_wp2_with (refine ldPIf (by kernel_rfl) (.tmp 1) rfl _ rfl ⟨a, b, o, cl⟩ B3.lies ?_)
  refine (C3.out _ _ (r8_lit w3 [25] 5 1 _ rfl rfl)).mono ?_
  rintro e w4 ⟨rfl, d3⟩
  have e3 := below_seq (below_alloc w3 _) d3
  have b4 := below_seq b3 e3
  have B4 := B3.keep (S := fun _ => False) (Mod.of_below e3) id
  cases q3
  rotate_left
  · obtain rfl : true = r := by rw [← HR.out]; simp [ap19, Q1.out, Q2.out, Q3.out]
    go_wp2_with fail
    go_ret2
    exact ⟨rfl, b4⟩
  go_wp2_with (refine ldPIf (by kernel_rfl) (.tmp 1) rfl _ rfl ⟨a, b, o, cl⟩ B4.lies ?_)
  refine (C4.out _ _ (r8_lit w4 [24] 5 1 _ rfl rfl)).mono ?_
  rintro e w5 ⟨rfl, d4⟩
  have e4 := below_seq (below_alloc w4 _) d4
  have b5 := below_seq b4 e4
  have B5 := B4.keep (S := fun _ => False) (Mod.of_below e4) id
  cases q4
  · obtain rfl : false = r := by rw [← HR.out]; simp [ap19, Q1.out, Q2.out, Q3.out, Q4.out]
    go_wp2_with fail
    go_ret2
    exact ⟨rfl, b5⟩
  · obtain rfl : true = r := by rw [← HR.out]; simp [ap19, Q1.out, Q2.out, Q3.out, Q4.out]
    go_wp2_with fail
    go_ret2
    exact ⟨rfl, b5⟩

def ap20 (p : Plc) : Bool := (decide (p.a = 23) && has [0] p.b) || (decide (p.a = 24) && has [0] p.b) || (decide (p.a = 0) && has [23, 24] p.b)
set_option maxRecDepth 100000 in
set_option maxHeartbeats 4000000 in
theorem pr20_any (p : Plc) (w : World) :
    Calls Try.prog 82 #[.agg (plC p)] w fun e w' => e = .returned (.tuple #[.bool (ap20 p), .bool false]) ∧ Below w.heap.size w w' := by
  obtain ⟨a, b, o, cl⟩ := p
  obtain ⟨r, hr⟩ : ∃ r, ap20 ⟨a, b, o, cl⟩ = r := ⟨_, rfl⟩
  have HR := Lib.hid hr
  rw [hr]
  clear hr
  obtain ⟨q1, hq1⟩ : ∃ q, (decide (a = 23) && has [0] b) = q := ⟨_, rfl⟩
  have Q1 := Lib.hid hq1
  have C1 : Hid (∀ W v, R8 W v [0] → Calls Try.prog 64 #[.agg (plC ⟨a, b, o, cl⟩), .int .u8 23, v] W fun e W' => e = .returned (.bool q1) ∧ Below W.heap.size W W') := Lib.hid fun W v h => by rw [← hq1]; exact pof_any v _ _ _ _ _ _ W h (by decide)
  clear hq1
  obtain ⟨q2, hq2⟩ : ∃ q, (decide (a = 24) && has [0] b) = q := ⟨_, rfl⟩
  have Q2 := Lib.hid hq2
  have C2 : Hid (∀ W v, R8 W v [0] → Calls Try.prog 64 #[.agg (plC ⟨a, b, o, cl⟩), .int .u8 24, v] W fun e W' => e = .returned (.bool q2) ∧ Below W.heap.size W W') := Lib.hid fun W v h => by rw [← hq2]; exact pof_any v _ _ _ _ _ _ W h (by decide)
  clear hq2
  obtain ⟨q3, hq3⟩ : ∃ q, (decide (a = 0) && has [23, 24] b) = q := ⟨_, rfl⟩
  have Q3 := Lib.hid hq3
  have C3 : Hid (∀ W v, R8 W v [23, 24] → Calls Try.prog 64 #[.agg (plC ⟨a, b, o, cl⟩), .int .u8 0, v] W fun e W' => e = .returned (.bool q3) ∧ Below W.heap.size W W') := Lib.hid fun W v h => by rw [← hq3]; exact pof_any v _ _ _ _ _ _ W h (by decide)
  clear hq3
  go_enter Try.func82, Try.ntmps82
  go_wp2_with (refine bxPV rfl (.tmp 0) rfl ⟨a, b, o, cl⟩ rfl ?_; intro w1 b1 B1; refine Mk.out ?_)
  constructor
  have c0 : w1.cell? ⟨w.heap.size, 0, none⟩ = some (.int .u8 a) := B1.cell 0
  have c1 : w1.cell? ⟨w.heap.size, 1, none⟩ = some (.int .u8 b) := B1.cell 1
  have c2 : w1.cell? ⟨w.heap.size, 2, none⟩ = some (.int .u8 o) := B1.cell 2
  have c3 : w1.cell? ⟨w.heap.size, 3, none⟩ = some (.bool cl) := B1.cell 3
  go_wp2_with (refine ldP rfl (.tmp 1) rfl _ rfl ⟨a, b, o, cl⟩ B1.lies ?_)
  refine (C1.out _ _ (r8_lit w1 [0] 5 1 _ rfl rfl)).mono ?_
  rintro e w2 ⟨rfl, d1⟩
  have e1 := below_seq (below_alloc w1 _) d1
  have b2 := below_seq b1 e1
  have B2 := B1.keep (S := fun _ => False) (Mod.of_below e1) id
  cases q1
  rotate_left
  · obtain rfl : true = r := by rw [← HR.out]; simp [ap20, Q1.out]
    go_wp2_with fail
    go_ret2
    exact ⟨rfl, b2⟩
  go_wp2_with (refine ldPIf (by kernel_rfl) (.tmp 1) rfl _ rfl ⟨a, b, o, cl⟩ B2.lies ?_)
  refine (C2.out _ _ (r8_lit w2 [0] 5 1 _ rfl rfl)).mono ?_
  rintro e w3 ⟨rfl, d2⟩
  have e2 := below_seq (below_alloc w2 _) d2
  have b3 := below_seq b2 e2
  have B3 := B2.keep (S := fun _ => False) (Mod.of_below e2) id
  cases q2
  rotate_left
  · obtain rfl : true = r := by rw [← HR.out]; simp [ap20, Q1.out, Q2.out]
    go_wp2_with fail
    go_ret2
    exact ⟨rfl, b3⟩
  go_wp2_with (refine ldPIf (by kernel_rfl) (.tmp 1) rfl _ rfl ⟨a, b, o, cl⟩ B3.lies ?_)
  refine (C3.out _ _ (r8_lit w3 [23, 24] 5 2 _ rfl rfl)).mono ?_
  rintro e w4 ⟨rfl, d3⟩
  have e3 := below_seq (below_alloc w3 _) d3
  have b4 := below_seq b3 e3
  have B4 := B3.keep (S := fun _ => False) (Mod.of_below e3) id
  cases q3
  · obtain rfl : false = r := by rw [← HR.out]; simp [ap20, Q1.out, Q2.out, Q3.out]
    go_wp2_with fail
    go_ret2
    exact ⟨rfl, b4⟩
  · obtain rfl : true = r := by rw [← HR.out]; simp [ap20, Q1.out, Q2.out, Q3.out]
    go_wp2_with fail
    go_ret2
    exact ⟨rfl, b4⟩

def ap21 (p : Plc) : Bool := (decide (p.a = 15) && has [24, 23] p.b) || (decide (p.a = 22) && has [24, 23, 22] p.b) || (decide (p.a = 24) && has [14, 22] p.b) || (decide (p.a = 23) && has [14, 22] p.b) || (decide (p.a = 13) && has [22] p.b) || (decide (p.a = 18) && has [22] p.b)
set_option maxRecDepth 100000 in
set_option maxHeartbeats 4000000 in
theorem pr21_any (p : Plc) (w : World) :
    Calls Try.prog 83 #[.agg (plC p)] w fun e w' => e = .returned (.tuple #[.bool (ap21 p), .bool false]) ∧ Below w.heap.size w w' := by
  obtain ⟨a, b, o, cl⟩ := p
  obtain ⟨r, hr⟩ : ∃ r, ap21 ⟨a, b, o, cl⟩ = r := ⟨_, rfl⟩
  have HR := Lib.hid hr
  rw [hr]
  clear hr
  obtain ⟨q1, hq1⟩ : ∃ q, (decide (a = 15) && has [24, 23] b) = q := ⟨_, rfl⟩
  have Q1 := Lib.hid hq1
  have C1 : Hid (∀ W v, R8 W v [24, 23] → Calls Try.prog 64 #[.agg (plC ⟨a, b, o, cl⟩), .int .u8 15, v] W fun e W' => e = .returned (.bool q1) ∧ Below W.heap.size W W') := Lib.hid fun W v h => by rw [← hq1]; exact pof_any v _ _ _ _ _ _ W h (by decide)
  clear hq1
  obtain ⟨q2, hq2⟩ : ∃ q, (decide (a = 22) && has [24, 23, 22] b) = q := ⟨_, rfl⟩
  have Q2 := Lib.hid hq2
  have C2 : Hid (∀ W v, R8 W v [24, 23, 22] → Calls Try.prog 64 #[.agg (plC ⟨a, b, o, cl⟩), .int .u8 22, v] W fun e W' => e = .returned (.bool q2) ∧ Below W.heap.size W W') := Lib.hid fun W v h => by rw [← hq2]; exact pof_any v _ _ _ _ _ _ W h (by decide)
  clear hq2
  obtain ⟨q3, hq3⟩ : ∃ q, (decide (a = 24) && has [14, 22] b) = q := ⟨_, rfl⟩
  have Q3 := Lib.hid hq3
  have C3 : Hid (∀ W v, R8 W v [14, 22] → Calls Try.prog 64 #[.agg (plC ⟨a, b, o, cl⟩), .int .u8 24, v] W fun e W' => e = .returned (.bool q3) ∧ Below W.heap.size W W') := Lib.hid fun W v h => by rw [← hq3]; exact pof_any v _ _ _ _ _ _ W h (by decide)
  clear hq3
  obtain ⟨q4, hq4⟩ : ∃ q, (decide (a = 23) && has [14, 22] b) = q := ⟨_, rfl⟩
  have Q4 := Lib.hid hq4
  have C4 : Hid (∀ W v, R8 W v [14, 22] → Calls Try.prog 64 #[.agg (plC ⟨a, b, o, cl⟩), .int .u8 23, v] W fun e W' => e = .returned (.bool q4) ∧ Below W.heap.size W W') := Lib.hid fun W v h => by rw [← hq4]; exact pof_any v _ _ _ _ _ _ W h (by decide)
  clear hq4
  obtain ⟨q5, hq5⟩ : ∃ q, (decide (a = 13) && has [22] b) = q := ⟨_, rfl⟩
  have Q5 := Lib.hid hq5
  have C5 : Hid (∀ W v, R8 W v [22] → Calls Try.prog 64 #[.agg (plC ⟨a, b, o, cl⟩), .int .u8 13, v] W fun e W' => e = .returned (.bool q5) ∧ Below W.heap.size W W') := Lib.hid fun W v h => by rw [← hq5]; exact pof_any v _ _ _ _ _ _ W h (by decide)
  clear hq5
  obtain ⟨q6, hq6⟩ : ∃ q, (decide (a = 18) && has [22] b) = q := ⟨_, rfl⟩
  have Q6 := Lib.hid hq6
  have C6 : Hid (∀ W v, R8 W v [22] → Calls Try.prog 64 #[.agg (plC ⟨a, b, o, cl⟩), .int .u8 18, v] W fun e W' => e = .returned (.bool q6) ∧ Below W.heap.size W W') := Lib.hid fun W v h => by rw [← hq6]; exact pof_any v _ _ _ _ _ _ W h (by decide)
  clear hq6
  go_enter Try.func83, Try.ntmps83
  go_wp2_with (refine bxPV rfl (.tmp 0) rfl ⟨a, b, o, cl⟩ rfl ?_; intro w1 b1 B1; refine Mk.out ?_)
  constructor
  have c0 : w1.cell? ⟨w.heap.size, 0, none⟩ = some (.int .u8 a) := B1.cell 0
  have c1 : w1.cell? ⟨w.heap.size, 1, none⟩ = some (.int .u8 b) := B1.cell 1
  have c2 : w1.cell? ⟨w.heap.size, 2, none⟩ = some (.int .u8 o) := B1.cell 2
  have c3 : w1.cell? ⟨w.heap.size, 3, none⟩ = some (.bool cl) := B1.cell 3
  go_wp2_with (refine ldP rfl (.tmp 1) rfl _ rfl ⟨a, b, o, cl⟩ B1.lies ?_)
  refine (C1.out _ _ (r8_lit w1 [24, 23] 5 2 _ rfl rfl)).mono ?_
  rintro e w2 ⟨rfl, d1⟩
  have e1 := below_seq (below_alloc w1 _) d1
  have b2 := below_seq b1 e1
  have B2 := B1.keep (S := fun _ => False) (Mod.of_below e1) id
  cases q1
  rotate_left
  · obtain rfl : true = r := by rw [← HR.out]; simp [ap21, Q1.out]
    go_wp2_with fail
    go_ret2
    exact ⟨rfl, b2⟩
  go_wp2_with (refine ldPIf (by kernel_rfl) (.tmp 1) rfl _ rfl ⟨a, b, o, cl⟩ B2.lies ?_)
  refine (C2.out _ _ (r8_lit w2 [24, 23, 22] 5 3 _ rfl rfl)).mono ?_
  rintro e w3 ⟨rfl, d2⟩
  have e2 := below_seq (below_alloc w2 _) d2
  have b3 := below_seq b2 e2
  have B3 := B2.keep (S := fun _ => False) (Mod.of_below e2) id
  cases q2
  rotate_left
  · obtain rfl : true = r := by rw [← HR.out]; simp [ap21, Q1.out, Q2.out]
    go_wp2_with fail
    go_ret2
    exact ⟨rfl, b3⟩
  go_wp2_with (refine ldPIf (by kernel_rfl) (.tmp 1) rfl _ rfl ⟨a, b, o, cl⟩ B3.lies ?_)
  refine (C3.out _ _ (r8_lit w3 [14, 22] 5 2 _ rfl rfl)).mono ?_
  rintro e w4 ⟨rfl, d3⟩
  have e3 := below_seq (below_alloc w3 _) d3
  have b4 := below_seq b3 e3
  have B4 := B3.keep (S := fun _ => False) (Mod.of_below e3) id
  cases q3
  rotate_left
  · obtain rfl : true = r := by rw [← HR.out]; simp [ap21, Q1.out, Q2.out, Q3.out]
    go_wp2_with fail
    go_ret2
    exact ⟨rfl, b4⟩
  go_wp2_with (refine ldPIf (by kernel_rfl) (.tmp 1) rfl _ rfl ⟨a, b, o, cl⟩ B4.lies ?_)
  refine (C4.out _ _ (r8_lit w4 [14, 22] 5 2 _ rfl rfl)).mono ?_
  rintro e w5 ⟨rfl, d4⟩
  have e4 := below_seq (below_alloc w4 _) d4
  have b5 := below_seq b4 e4
  have B5 := B4.keep (S := fun _ => False) (Mod.of_below e4) id
  cases q4
  rotate_left
  · obtain rfl : true = r := by rw [← HR.out]; simp [ap21, Q1.out, Q2.out, Q3.out, Q4.out]
    go_wp2_with fail
    go_ret2
    exact ⟨rfl, b5⟩
  go_wp2_with (refine ldPIf (by kernel_rfl) (.tmp 1) rfl _ rfl ⟨a, b, o, cl⟩ B5.lies ?_)
  refine (C5.out _ _ (r8_lit w5 [22] 5 1 _ rfl rfl)).mono ?_
  rintro e w6 ⟨rfl, d5⟩
  have e5 := below_seq (below_alloc w5 _) d5
  have b6 := below_seq b5 e5
  have B6 := B5.keep (S := fun _ => False) (Mod.of_below e5) id
  cases q5
  rotate_left
  · obtain rfl : true = r := by rw [← HR.out]; simp [ap21, Q1.out, Q2.out, Q3.out, Q4.out, Q5.out]
    go_wp2_with fail
    go_ret2
    exact ⟨rfl, b6⟩
  go_wp2_with (refine ldPIf (by kernel_rfl) (.tmp 1) rfl _ rfl ⟨a, b, o, cl⟩ B6.lies ?_)
  refine (C6.out _ _ (r8_lit w6 [22] 5 1 _ rfl rfl)).mono ?_
  rintro e w7 ⟨rfl, d6⟩
  have e6 := below_seq (below_alloc w6 _) d6
  have b7 := below_seq b6 e6
  have B7 := B6.keep (S := fun _ => False) (Mod.of_below e6) id
  cases q6
  · obtain rfl : false = r := by rw [← HR.out]; simp [ap21, Q1.out, Q2.out, Q3.out, Q4.out, Q5.out, Q6.out]
    go_wp2_with fail
    go_ret2
    exact ⟨rfl, b7⟩
  · obtain rfl : true = r := by rw [← HR.out]; simp [ap21, Q1.out, Q2.out, Q3.out, Q4.out, Q5.out, Q6.out]
    go_wp2_with fail
    go_ret2
    exact ⟨rfl, b7⟩

def ap22 (p : Plc) : Bool := decide (p.a = 0) && has [0] p.b
set_option maxRecDepth 100000 in
set_option maxHeartbeats 4000000 in
theorem pr22_any (p : Plc) (w : World) :
    Calls Try.prog 84 #[.agg (plC p)] w fun e w' => e = .returned (.tuple #[.bool (ap22 p), .bool false]) ∧ Below w.heap.size w w' := by
  obtain ⟨a, b, o, cl⟩ := p
  obtain ⟨r, hr⟩ : ∃ r, ap22 ⟨a, b, o, cl⟩ = r := ⟨_, rfl⟩
  have HR := Lib.hid hr
  rw [hr]
  clear hr
  obtain ⟨q1, hq1⟩ : ∃ q, (decide (a = 0) && has [0] b) = q := ⟨_, rfl⟩
  have Q1 := Lib.hid hq1
  have C1 : Hid (∀ W v, R8 W v [0] → Calls Try.prog 64 #[.agg (plC ⟨a, b, o, cl⟩), .int .u8 0, v] W fun e W' => e = .returned (.bool q1) ∧ Below W.heap.size W W') := Lib.hid fun W v h => by rw [← hq1]; exact pof_any v _ _ _ _ _ _ W h (by decide)
  clear hq1
  go_enter Try.func84, Try.ntmps84
  go_wp2_with (refine bxPV rfl (.tmp 0) rfl ⟨a, b, o, cl⟩ rfl ?_; intro w1 b1 B1; refine Mk.out ?_)
  constructor
  have c0 : w1.cell? ⟨w.heap.size, 0, none⟩ = some (.int .u8 a) := B1.cell 0
  have c1 : w1.cell? ⟨w.heap.size, 1, none⟩ = some (.int .u8 b) := B1.cell 1
  have c2 : w1.cell? ⟨w.heap.size, 2, none⟩ = some (.int .u8 o) := B1.cell 2
  have c3 : w1.cell? ⟨w.heap.size, 3, none⟩ = some (.bool cl) := B1.cell 3
  go_wp2_with (refine ldP rfl (.tmp 1) rfl _ rfl ⟨a, b, o, cl⟩ B1.lies ?_)
  refine (C1.out _ _ (r8_lit w1 [0] 5 1 _ rfl rfl)).mono ?_
  rintro e w2 ⟨rfl, d1⟩
  have b2 := below_seq b1 (below_seq (below_alloc w1 _) d1)
  obtain rfl : q1 = r := by rw [← HR.out, ← Q1.out]; rfl
  go_wp2_with fail
  go_ret2
  exact ⟨rfl, b2⟩

def ap23 (p : Plc) : Bool := decide (p.a = 18) && has [0] p.b
set_option maxRecDepth 100000 in
set_option maxHeartbeats 4000000 in
theorem pr23_any (p : Plc) (w : World) :
    Calls Try.prog 85 #[.agg (plC p)] w fun e w' => e = .returned (.tuple #[.bool (ap23 p), .bool false]) ∧ Below w.heap.size w w' := by
  obtain ⟨a, b, o, cl⟩ := p
  obtain ⟨r, hr⟩ : ∃ r, ap23 ⟨a, b, o, cl⟩ = r := ⟨_, rfl⟩
  have HR := Lib.hid hr
  rw [hr]
  clear hr
  obtain ⟨q1, hq1⟩ : ∃ q, (decide (a = 18) && has [0] b) = q := ⟨_, rfl⟩
  have Q1 := Lib.hid hq1
  have C1 : Hid (∀ W v, R8 W v [0] → Calls Try.prog 64 #[.agg (plC ⟨a, b, o, cl⟩), .int .u8 18, v] W fun e W' => e = .returned (.bool q1) ∧ Below W.heap.size W W') := Lib.hid fun W v h => by rw [← hq1]; exact pof_any v _ _ _ _ _ _ W h (by decide)
  clear hq1
  go_enter Try.func85, Try.ntmps85
  go_wp2_with (refine bxPV rfl (.tmp 0) rfl ⟨a, b, o, cl⟩ rfl ?_; intro w1 b1 B1; refine Mk.out ?_)
  constructor
  have c0 : w1.cell? ⟨w.heap.size, 0, none⟩ = some (.int .u8 a) := B1.cell 0
  have c1 : w1.cell? ⟨w.heap.size, 1, none⟩ = some (.int .u8 b) := B1.cell 1
  have c2 : w1.cell? ⟨w.heap.size, 2, none⟩ = some (.int .u8 o) := B1.cell 2
  have c3 : w1.cell? ⟨w.heap.size, 3, none⟩ = some (.bool cl) := B1.cell 3
  go_wp2_with (refine ldP rfl (.tmp 1) rfl _ rfl ⟨a, b, o, cl⟩ B1.lies ?_)
  refine (C1.out _ _ (r8_lit w1 [0] 5 1 _ rfl rfl)).mono ?_
  rintro e w2 ⟨rfl, d1⟩
  have b2 := below_seq b1 (below_seq (below_alloc w1 _) d1)
  obtain rfl : q1 = r := by rw [← HR.out, ← Q1.out]; rfl
  go_wp2_with fail
  go_ret2
  exact ⟨rfl, b2⟩

set_option maxHeartbeats 4000000 in
theorem pr24_any (p : Plc) (w : World) :
    Calls Try.prog 86 #[.agg (plC p)] w fun e w' => e = .returned (.tuple #[.bool true, .bool true]) ∧ Below w.heap.size w w' := by
  obtain ⟨a, b, o, cl⟩ := p
  go_enter Try.func86, Try.ntmps86
  go_wp2_with (refine bxPV rfl (.tmp 0) rfl ⟨a, b, o, cl⟩ rfl ?_; intro w1 b1 B1; refine Mk.out ?_)
  constructor
  go_wp2_with fail
  go_ret2
  exact ⟨rfl, b1⟩
end Go.Proofs.Ytnoenccpbbkdeaa
