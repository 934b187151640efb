/- Contracts of layers below. -/
import Derived.Test.YtmceblkjbpbcoaaGreatDoorPPrMath
import Derived.Test.YtmceblkjbpbcoaaGreatDoorPRegK
namespace Go.Proofs.YtmceblkjbpbcoaaGreatDoor
set_option maxRecDepth 100000
set_option maxHeartbeats 4000000
open Go.ChangeShapes Go.WideShapes Go.ChangeAt Go.RowKit
section
theorem cl4 {w : World} {g : Nat} {t : TypeId} {a b o : Int} {cl : Bool} (B : Blk w g t (plC ⟨a, b, o, cl⟩)) : w.cell? ⟨g, 0, none⟩ = some (.int .u8 a) /\ w.cell? ⟨g, 1, none⟩ = some (.int .u8 b) /\ w.cell? ⟨g, 2, none⟩ = some (.int .u8 o) /\ w.cell? ⟨g, 3, none⟩ = some (.bool cl) := ⟨B.cell 0, B.cell 1, B.cell 2, B.cell 3⟩
def ap1 (p : Plc) : Bool := (p.a == 1)
theorem qzd (p : Plc) (w : World) :
 Calls Tryz.prog 154 #[.agg (plC p)] w fun e w' => e = .returned (.tuple #[.bool (ap1 p), .bool true]) /\ Below w.heap.size w w' := by
 obtain ⟨a, b, o, cl⟩ := p
 go_enter Tryz.func154, Tryz.ntmps154
 go_wp2_with (refine qe7 rfl (.tmp 0) rfl ⟨a, b, o, cl⟩ rfl ?_; intro w1 b1 B1; refine Mk.out ?_)
 constructor
 have c3 := cl4 B1
 go_wp2_with fail
 go_ret2
 exact ⟨rfl, b1⟩
def ap5 (p : Plc) : Bool := (p.o == 6)
theorem qy9 (p : Plc) (w : World) :
 Calls Tryz.prog 160 #[.agg (plC p)] w fun e w' => e = .returned (.tuple #[.bool (ap5 p), .bool true]) /\ Below w.heap.size w w' := by
 obtain ⟨a, b, o, cl⟩ := p
 go_enter Tryz.func160, Tryz.ntmps160
 go_wp2_with (refine qe7 rfl (.tmp 0) rfl ⟨a, b, o, cl⟩ rfl ?_; intro w1 b1 B1; refine Mk.out ?_)
 constructor
 have c3 := cl4 B1
 go_wp2_with fail
 go_ret2
 exact ⟨rfl, b1⟩
def ap6 (p : Plc) : Bool := p.cl
theorem qy8 (p : Plc) (w : World) :
 Calls Tryz.prog 161 #[.agg (plC p)] w fun e w' => e = .returned (.tuple #[.bool (ap6 p), .bool false]) /\ Below w.heap.size w w' := by
 obtain ⟨a, b, o, cl⟩ := p
 obtain ⟨r, hr⟩ : ∃ r, ap6 ⟨a, b, o, cl⟩ = r := ⟨_, rfl⟩
 have HR := xaa hr
 rw [hr]
 clear hr
 go_enter Tryz.func161, Tryz.ntmps161
 go_wp2_with (refine qe7 rfl (.tmp 0) rfl ⟨a, b, o, cl⟩ rfl ?_; intro w1 b1 B1; refine Mk.out ?_)
 constructor
 have c3 := cl4 B1
 have e : cl = r := HR.out
 rw [e] at c3
 go_wp2_with fail
 go_ret2
 exact ⟨rfl, b1⟩
def ap7 (p : Plc) : Bool := (p.a == 7) || (p.b == 7)
theorem qy7 (p : Plc) (w : World) :
 Calls Tryz.prog 162 #[.agg (plC p)] w fun e w' => e = .returned (.tuple #[.bool (ap7 p), .bool false]) /\ Below w.heap.size w w' := by
 obtain ⟨a, b, o, cl⟩ := p
 go_enter Tryz.func162, Tryz.ntmps162
 go_wp2_with (refine qe7 rfl (.tmp 0) rfl ⟨a, b, o, cl⟩ rfl ?_; intro w1 b1 B1; refine Mk.out ?_)
 constructor
 have c3 := cl4 B1
 by_cases h0 : a = 7
 ·subst h0
  go_wp2_with fail
  go_ret2
  exact ⟨rfl, b1⟩
 ·go_wp2_with fail
  go_ret2
  exact ⟨by simp [ap7], b1⟩
def ap10 (p : Plc) : Bool := (p.o == 14)
theorem quq (p : Plc) (w : World) :
 Calls Tryz.prog 165 #[.agg (plC p)] w fun e w' => e = .returned (.tuple #[.bool (ap10 p), .bool false]) /\ Below w.heap.size w w' := by
 obtain ⟨a, b, o, cl⟩ := p
 go_enter Tryz.func165, Tryz.ntmps165
 go_wp2_with (refine qe7 rfl (.tmp 0) rfl ⟨a, b, o, cl⟩ rfl ?_; intro w1 b1 B1; refine Mk.out ?_)
 constructor
 have c3 := cl4 B1
 go_wp2_with fail
 go_ret2
 exact ⟨rfl, b1⟩
def ap11 (p : Plc) : Bool := (p.o == 16) && (p.b == 14)
theorem qup (p : Plc) (w : World) :
 Calls Tryz.prog 166 #[.agg (plC p)] w fun e w' => e = .returned (.tuple #[.bool (ap11 p), .bool false]) /\ Below w.heap.size w w' := by
 obtain ⟨a, b, o, cl⟩ := p
 go_enter Tryz.func166, Tryz.ntmps166
 go_wp2_with (refine qe7 rfl (.tmp 0) rfl ⟨a, b, o, cl⟩ rfl ?_; intro w1 b1 B1; refine Mk.out ?_)
 constructor
 have c3 := cl4 B1
 by_cases h0 : o = 16
 ·subst h0
  go_wp2_with fail
  go_ret2
  exact ⟨rfl, b1⟩
 ·go_wp2_with fail
  go_ret2
  exact ⟨by simp [ap11, h0], b1⟩
def ap12 (p : Plc) : Bool := (p.o == 15) && (p.b == 19)
theorem qun (p : Plc) (w : World) :
 Calls Tryz.prog 167 #[.agg (plC p)] w fun e w' => e = .returned (.tuple #[.bool (ap12 p), .bool false]) /\ Below w.heap.size w w' := by
 obtain ⟨a, b, o, cl⟩ := p
 go_enter Tryz.func167, Tryz.ntmps167
 go_wp2_with (refine qe7 rfl (.tmp 0) rfl ⟨a, b, o, cl⟩ rfl ?_; intro w1 b1 B1; refine Mk.out ?_)
 constructor
 have c3 := cl4 B1
 by_cases h0 : o = 15
 ·subst h0
  go_wp2_with fail
  go_ret2
  exact ⟨rfl, b1⟩
 ·go_wp2_with fail
  go_ret2
  exact ⟨by simp [ap12, h0], b1⟩
def ap13 (p : Plc) : Bool := (p.o == 12) && (p.b == 12)
theorem qum (p : Plc) (w : World) :
 Calls Tryz.prog 168 #[.agg (plC p)] w fun e w' => e = .returned (.tuple #[.bool (ap13 p), .bool false]) /\ Below w.heap.size w w' := by
 obtain ⟨a, b, o, cl⟩ := p
 go_enter Tryz.func168, Tryz.ntmps168
 go_wp2_with (refine qe7 rfl (.tmp 0) rfl ⟨a, b, o, cl⟩ rfl ?_; intro w1 b1 B1; refine Mk.out ?_)
 constructor
 have c3 := cl4 B1
 by_cases h0 : o = 12
 ·subst h0
  go_wp2_with fail
  go_ret2
  exact ⟨rfl, b1⟩
 ·go_wp2_with fail
  go_ret2
  exact ⟨by simp [ap13, h0], b1⟩
def ap14 (p : Plc) : Bool := (p.a == 5)
theorem qul (p : Plc) (w : World) :
 Calls Tryz.prog 169 #[.agg (plC p)] w fun e w' => e = .returned (.tuple #[.bool (ap14 p), .bool true]) /\ Below w.heap.size w w' := by
 obtain ⟨a, b, o, cl⟩ := p
 go_enter Tryz.func169, Tryz.ntmps169
 go_wp2_with (refine qe7 rfl (.tmp 0) rfl ⟨a, b, o, cl⟩ rfl ?_; intro w1 b1 B1; refine Mk.out ?_)
 constructor
 have c3 := cl4 B1
 go_wp2_with fail
 go_ret2
 exact ⟨rfl, b1⟩
def ap15 (p : Plc) : Bool := (p.a == 16) || (p.b == 16)
theorem quk (p : Plc) (w : World) :
 Calls Tryz.prog 170 #[.agg (plC p)] w fun e w' => e = .returned (.tuple #[.bool (ap15 p), .bool false]) /\ Below w.heap.size w w' := by
 obtain ⟨a, b, o, cl⟩ := p
 go_enter Tryz.func170, Tryz.ntmps170
 go_wp2_with (refine qe7 rfl (.tmp 0) rfl ⟨a, b, o, cl⟩ rfl ?_; intro w1 b1 B1; refine Mk.out ?_)
 constructor
 have c3 := cl4 B1
 by_cases h0 : a = 16
 ·subst h0
  go_wp2_with fail
  go_ret2
  exact ⟨rfl, b1⟩
 ·go_wp2_with fail
  go_ret2
  exact ⟨by simp [ap15], b1⟩
def ap16 (p : Plc) : Bool := (p.a == 26) || (p.b == 26)
theorem quj (p : Plc) (w : World) :
 Calls Tryz.prog 171 #[.agg (plC p)] w fun e w' => e = .returned (.tuple #[.bool (ap16 p), .bool true]) /\ Below w.heap.size w w' := by
 obtain ⟨a, b, o, cl⟩ := p
 go_enter Tryz.func171, Tryz.ntmps171
 go_wp2_with (refine qe7 rfl (.tmp 0) rfl ⟨a, b, o, cl⟩ rfl ?_; intro w1 b1 B1; refine Mk.out ?_)
 constructor
 have c3 := cl4 B1
 by_cases h0 : a = 26
 ·subst h0
  go_wp2_with fail
  go_ret2
  exact ⟨rfl, b1⟩
 ·go_wp2_with fail
  go_ret2
  exact ⟨by simp [ap16], b1⟩
def ap18 (p : Plc) : Bool := (p.b == 21)
theorem quh (p : Plc) (w : World) :
 Calls Tryz.prog 173 #[.agg (plC p)] w fun e w' => e = .returned (.tuple #[.bool (ap18 p), .bool false]) /\ Below w.heap.size w w' := by
 obtain ⟨a, b, o, cl⟩ := p
 go_enter Tryz.func173, Tryz.ntmps173
 go_wp2_with (refine qe7 rfl (.tmp 0) rfl ⟨a, b, o, cl⟩ rfl ?_; intro w1 b1 B1; refine Mk.out ?_)
 constructor
 have c3 := cl4 B1
 go_wp2_with fail
 go_ret2
 exact ⟨rfl, b1⟩
def ap3 (p : Plc) : Bool := has [1, 2, 3, 4] p.b
theorem qzb (p : Plc) (w : World) :
 Calls Tryz.prog 158 #[.agg (plC p)] w fun e w' => e = .returned (.tuple #[.bool (ap3 p), .bool false]) /\ Below w.heap.size w w' := by
 obtain ⟨a, b, o, cl⟩ := p
 obtain ⟨r, hr⟩ : ∃ r, ap3 ⟨a, b, o, cl⟩ = r := ⟨_, rfl⟩
 have HR := xaa hr
 rw [hr]
 clear hr
 obtain ⟨q1, hq1⟩ : ∃ q, has [1, 2, 3, 4] b = q := ⟨_, rfl⟩
 have Q1 := xaa hq1
 have C1 : Hid (∀ W v, R8 W v [1, 2, 3, 4] -> Calls Tryz.prog 156 #[.int .u8 b, v] W fun e W' => e = .returned (.bool q1) /\ W' = W) := xaa fun W v h => by rw [<- hq1]; exact qdp v _ _ W h (by decide)
 clear hq1
 go_enter Tryz.func158, Tryz.ntmps158
 go_wp2_with (refine qe7 rfl (.tmp 0) rfl ⟨a, b, o, cl⟩ rfl ?_; intro w1 b1 B1; refine Mk.out ?_)
 constructor
 have c3 := cl4 B1
 go_wp2_with fail
 refine (C1.out _ _ (qa9 w1 [1, 2, 3, 4] 5 4 _ rfl rfl)).mono ?_
 rintro e w2 ⟨rfl, rfl⟩
 have b2 := xaq b1 (xar w1 (.cells (r8 [1, 2, 3, 4]).toArray 5))
 obtain rfl : q1 = r := by rw [<- HR.out, <- Q1.out]; rfl
 go_wp2_with fail
 go_ret2
 exact ⟨rfl, b2⟩
def ap4 (p : Plc) : Bool := has [5, 6] p.b
theorem qza (p : Plc) (w : World) :
 Calls Tryz.prog 159 #[.agg (plC p)] w fun e w' => e = .returned (.tuple #[.bool (ap4 p), .bool false]) /\ Below w.heap.size w w' := by
 obtain ⟨a, b, o, cl⟩ := p
 obtain ⟨r, hr⟩ : ∃ r, ap4 ⟨a, b, o, cl⟩ = r := ⟨_, rfl⟩
 have HR := xaa hr
 rw [hr]
 clear hr
 obtain ⟨q1, hq1⟩ : ∃ q, has [5, 6] b = q := ⟨_, rfl⟩
 have Q1 := xaa hq1
 have C1 : Hid (∀ W v, R8 W v [5, 6] -> Calls Tryz.prog 156 #[.int .u8 b, v] W fun e W' => e = .returned (.bool q1) /\ W' = W) := xaa fun W v h => by rw [<- hq1]; exact qdp v _ _ W h (by decide)
 clear hq1
 go_enter Tryz.func159, Tryz.ntmps159
 go_wp2_with (refine qe7 rfl (.tmp 0) rfl ⟨a, b, o, cl⟩ rfl ?_; intro w1 b1 B1; refine Mk.out ?_)
 constructor
 have c3 := cl4 B1
 go_wp2_with fail
 refine (C1.out _ _ (qa9 w1 [5, 6] 5 2 _ rfl rfl)).mono ?_
 rintro e w2 ⟨rfl, rfl⟩
 have b2 := xaq b1 (xar w1 (.cells (r8 [5, 6]).toArray 5))
 obtain rfl : q1 = r := by rw [<- HR.out, <- Q1.out]; rfl
 go_wp2_with fail
 go_ret2
 exact ⟨rfl, b2⟩
def ap9 (p : Plc) : Bool := has [15, 17, 18] p.b
theorem qy5 (p : Plc) (w : World) :
 Calls Tryz.prog 164 #[.agg (plC p)] w fun e w' => e = .returned (.tuple #[.bool (ap9 p), .bool false]) /\ Below w.heap.size w w' := by
 obtain ⟨a, b, o, cl⟩ := p
 obtain ⟨r, hr⟩ : ∃ r, ap9 ⟨a, b, o, cl⟩ = r := ⟨_, rfl⟩
 have HR := xaa hr
 rw [hr]
 clear hr
 obtain ⟨q1, hq1⟩ : ∃ q, has [15, 17, 18] b = q := ⟨_, rfl⟩
 have Q1 := xaa hq1
 have C1 : Hid (∀ W v, R8 W v [15, 17, 18] -> Calls Tryz.prog 156 #[.int .u8 b, v] W fun e W' => e = .returned (.bool q1) /\ W' = W) := xaa fun W v h => by rw [<- hq1]; exact qdp v _ _ W h (by decide)
 clear hq1
 go_enter Tryz.func164, Tryz.ntmps164
 go_wp2_with (refine qe7 rfl (.tmp 0) rfl ⟨a, b, o, cl⟩ rfl ?_; intro w1 b1 B1; refine Mk.out ?_)
 constructor
 have c3 := cl4 B1
 go_wp2_with fail
 refine (C1.out _ _ (qa9 w1 [15, 17, 18] 5 3 _ rfl rfl)).mono ?_
 rintro e w2 ⟨rfl, rfl⟩
 have b2 := xaq b1 (xar w1 (.cells (r8 [15, 17, 18]).toArray 5))
 obtain rfl : q1 = r := by rw [<- HR.out, <- Q1.out]; rfl
 go_wp2_with fail
 go_ret2
 exact ⟨rfl, b2⟩
def ap8 (p : Plc) : Bool := (p.a == 8) || ((p.b == 8) && !has [5, 10, 13] p.a)
theorem qy6 (p : Plc) (w : World) :
 Calls Tryz.prog 163 #[.agg (plC p)] w fun e w' => e = .returned (.tuple #[.bool (ap8 p), .bool false]) /\ Below w.heap.size w w' := by
 obtain ⟨a, b, o, cl⟩ := p
 obtain ⟨r, hr⟩ : ∃ r, ap8 ⟨a, b, o, cl⟩ = r := ⟨_, rfl⟩
 have HR := xaa hr
 rw [hr]
 clear hr
 obtain ⟨q1, hq1⟩ : ∃ q, has [5, 10, 13] a = q := ⟨_, rfl⟩
 have Q1 := xaa hq1
 have C1 : Hid (∀ W v, R8 W v [5, 10, 13] -> Calls Tryz.prog 156 #[.int .u8 a, v] W fun e W' => e = .returned (.bool q1) /\ W' = W) := xaa fun W v h => by rw [<- hq1]; exact qdp v _ _ W h (by decide)
 clear hq1
 go_enter Tryz.func163, Tryz.ntmps163
 go_wp2_with (refine qe7 rfl (.tmp 0) rfl ⟨a, b, o, cl⟩ rfl ?_; intro w1 b1 B1; refine Mk.out ?_)
 constructor
 have c3 := cl4 B1
 by_cases h0 : a = 8
 ·obtain rfl : true = r := by rw [<- HR.out]; simp [ap8, h0]
  go_wp2_with fail
  go_ret2
  exact ⟨rfl, b1⟩
 ·by_cases h1 : b = 8
  ·go_wp2_with fail
   refine (C1.out _ _ (qa9 w1 [5, 10, 13] 5 3 _ rfl rfl)).mono ?_
   rintro e w2 ⟨rfl, rfl⟩
   have b2 := xaq b1 (xar w1 (.cells (r8 [5, 10, 13]).toArray 5))
   cases q1
   ·obtain rfl : true = r := by rw [<- HR.out]; simp [ap8, h1, Q1.out]
    go_wp2_with fail
    go_ret2
    exact ⟨rfl, b2⟩
   ·obtain rfl : false = r := by rw [<- HR.out]; simp [ap8, h0, h1, Q1.out]
    go_wp2_with fail
    go_ret2
    exact ⟨by simp [h0], b2⟩
  ·obtain rfl : false = r := by rw [<- HR.out]; simp [ap8, h0, h1]
   go_wp2_with fail
   go_ret2
   exact ⟨by simp [h0], b1⟩
def ap17 (p : Plc) : Bool := has [10, 13, 19] p.b || (p.a == 11)
theorem qui (p : Plc) (w : World) :
 Calls Tryz.prog 172 #[.agg (plC p)] w fun e w' => e = .returned (.tuple #[.bool (ap17 p), .bool false]) /\ Below w.heap.size w w' := by
 obtain ⟨a, b, o, cl⟩ := p
 obtain ⟨r, hr⟩ : ∃ r, ap17 ⟨a, b, o, cl⟩ = r := ⟨_, rfl⟩
 have HR := xaa hr
 rw [hr]
 clear hr
 obtain ⟨q1, hq1⟩ : ∃ q, has [10, 13, 19] b = q := ⟨_, rfl⟩
 have Q1 := xaa hq1
 have C1 : Hid (∀ W v, R8 W v [10, 13, 19] -> Calls Tryz.prog 156 #[.int .u8 b, v] W fun e W' => e = .returned (.bool q1) /\ W' = W) := xaa fun W v h => by rw [<- hq1]; exact qdp v _ _ W h (by decide)
 clear hq1
 go_enter Tryz.func172, Tryz.ntmps172
 go_wp2_with (refine qe7 rfl (.tmp 0) rfl ⟨a, b, o, cl⟩ rfl ?_; intro w1 b1 B1; refine Mk.out ?_)
 constructor
 have c3 := cl4 B1
 go_wp2_with fail
 refine (C1.out _ _ (qa9 w1 [10, 13, 19] 5 3 _ rfl rfl)).mono ?_
 rintro e w2 ⟨rfl, rfl⟩
 have b2 := xaq b1 (xar w1 (.cells (r8 [10, 13, 19]).toArray 5))
 have c0' : (w1.alloc (.cells (r8 [10, 13, 19]).toArray 5)).cell? ⟨w.heap.size, 0, none⟩ = some (.int .u8 a) := (B1.alloc _).cell 0
 cases q1
 ·obtain rfl : (a == 11) = r := by rw [<- HR.out]; simp [ap17, Q1.out]
  go_wp2_with fail
  go_ret2
  exact ⟨rfl, b2⟩
 ·obtain rfl : true = r := by rw [<- HR.out]; simp [ap17, Q1.out]
  go_wp2_with fail
  go_ret2
  exact ⟨rfl, b2⟩
def ap19 (p : Plc) : Bool := (decide (p.a = 0) && has [22] p.b) || (decide (p.a = 22) && has [0] p.b) || (decide (p.a = 23) && has [25] p.b) || (decide (p.a = 25) && has [24] p.b)
theorem qug (p : Plc) (w : World) :
 Calls Tryz.prog 174 #[.agg (plC p)] w fun e w' => e = .returned (.tuple #[.bool (ap19 p), .bool false]) /\ Below w.heap.size w w' := by
 obtain ⟨a, b, o, cl⟩ := p
 obtain ⟨r, hr⟩ : ∃ r, ap19 ⟨a, b, o, cl⟩ = r := ⟨_, rfl⟩
 have HR := xaa hr
 rw [hr]
 clear hr
 obtain ⟨q1, hq1⟩ : ∃ q, (decide (a = 0) && has [22] b) = q := ⟨_, rfl⟩
 have Q1 := xaa hq1
 have C1 : Hid (∀ W v, R8 W v [22] -> Calls Tryz.prog 157 #[.agg (plC ⟨a, b, o, cl⟩), .int .u8 0, v] W fun e W' => e = .returned (.bool q1) /\ Below W.heap.size W W') := xaa fun W v h => by rw [<- hq1]; exact qba v _ _ _ _ _ _ W h (by decide)
 clear hq1
 obtain ⟨q2, hq2⟩ : ∃ q, (decide (a = 22) && has [0] b) = q := ⟨_, rfl⟩
 have Q2 := xaa hq2
 have C2 : Hid (∀ W v, R8 W v [0] -> Calls Tryz.prog 157 #[.agg (plC ⟨a, b, o, cl⟩), .int .u8 22, v] W fun e W' => e = .returned (.bool q2) /\ Below W.heap.size W W') := xaa fun W v h => by rw [<- hq2]; exact qba v _ _ _ _ _ _ W h (by decide)
 clear hq2
 obtain ⟨q3, hq3⟩ : ∃ q, (decide (a = 23) && has [25] b) = q := ⟨_, rfl⟩
 have Q3 := xaa hq3
 have C3 : Hid (∀ W v, R8 W v [25] -> Calls Tryz.prog 157 #[.agg (plC ⟨a, b, o, cl⟩), .int .u8 23, v] W fun e W' => e = .returned (.bool q3) /\ Below W.heap.size W W') := xaa fun W v h => by rw [<- hq3]; exact qba v _ _ _ _ _ _ W h (by decide)
 clear hq3
 obtain ⟨q4, hq4⟩ : ∃ q, (decide (a = 25) && has [24] b) = q := ⟨_, rfl⟩
 have Q4 := xaa hq4
 have C4 : Hid (∀ W v, R8 W v [24] -> Calls Tryz.prog 157 #[.agg (plC ⟨a, b, o, cl⟩), .int .u8 25, v] W fun e W' => e = .returned (.bool q4) /\ Below W.heap.size W W') := xaa fun W v h => by rw [<- hq4]; exact qba v _ _ _ _ _ _ W h (by decide)
 clear hq4
 go_enter Tryz.func174, Tryz.ntmps174
 go_wp2_with (refine qe7 rfl (.tmp 0) rfl ⟨a, b, o, cl⟩ rfl ?_; intro w1 b1 B1; refine Mk.out ?_)
 constructor
 have c3 := cl4 B1
 go_wp2_with (refine ldP rfl (.tmp 1) rfl _ rfl ⟨a, b, o, cl⟩ B1.lies ?_)
 refine (C1.out _ _ (qa9 w1 [22] 5 1 _ rfl rfl)).mono ?_
 rintro e w2 ⟨rfl, d1⟩
 have e1 := xaq (xar w1 _) d1
 have b2 := xaq b1 e1
 have B2 := B1.kb e1
 cases q1
 rotate_left
 ·obtain rfl : true = r := by rw [<- HR.out]; simp [ap19, Q1.out]
  go_wp2_with fail
  go_ret2
  exact ⟨rfl, b2⟩
 go_wp2_with (refine qgy (by kernel_rfl) (.tmp 1) rfl _ rfl ⟨a, b, o, cl⟩ B2.lies ?_)
 refine (C2.out _ _ (qa9 w2 [0] 5 1 _ rfl rfl)).mono ?_
 rintro e w3 ⟨rfl, d2⟩
 have e2 := xaq (xar w2 _) d2
 have b3 := xaq b2 e2
 have B3 := B2.kb e2
 cases q2
 rotate_left
 ·obtain rfl : true = r := by rw [<- HR.out]; simp [ap19, Q1.out, Q2.out]
  go_wp2_with fail
  go_ret2
  exact ⟨rfl, b3⟩
 go_wp2_with (refine qgy (by kernel_rfl) (.tmp 1) rfl _ rfl ⟨a, b, o, cl⟩ B3.lies ?_)
 refine (C3.out _ _ (qa9 w3 [25] 5 1 _ rfl rfl)).mono ?_
 rintro e w4 ⟨rfl, d3⟩
 have e3 := xaq (xar w3 _) d3
 have b4 := xaq b3 e3
 have B4 := B3.kb e3
 cases q3
 rotate_left
 ·obtain rfl : true = r := by rw [<- HR.out]; simp [ap19, Q1.out, Q2.out, Q3.out]
  go_wp2_with fail
  go_ret2
  exact ⟨rfl, b4⟩
 go_wp2_with (refine qgy (by kernel_rfl) (.tmp 1) rfl _ rfl ⟨a, b, o, cl⟩ B4.lies ?_)
 refine (C4.out _ _ (qa9 w4 [24] 5 1 _ rfl rfl)).mono ?_
 rintro e w5 ⟨rfl, d4⟩
 have e4 := xaq (xar w4 _) d4
 have b5 := xaq b4 e4
 have B5 := B4.kb e4
 cases q4
 ·obtain rfl : false = r := by rw [<- HR.out]; simp [ap19, Q1.out, Q2.out, Q3.out, Q4.out]
  go_wp2_with fail
  go_ret2
  exact ⟨rfl, b5⟩
 ·obtain rfl : true = r := by rw [<- HR.out]; simp [ap19, Q1.out, Q2.out, Q3.out, Q4.out]
  go_wp2_with fail
  go_ret2
  exact ⟨rfl, b5⟩
def ap20 (p : Plc) : Bool := (decide (p.a = 23) && has [0] p.b) || (decide (p.a = 24) && has [0] p.b) || (decide (p.a = 0) && has [23, 24] p.b)
theorem quf (p : Plc) (w : World) :
 Calls Tryz.prog 175 #[.agg (plC p)] w fun e w' => e = .returned (.tuple #[.bool (ap20 p), .bool false]) /\ Below w.heap.size w w' := by
 obtain ⟨a, b, o, cl⟩ := p
 obtain ⟨r, hr⟩ : ∃ r, ap20 ⟨a, b, o, cl⟩ = r := ⟨_, rfl⟩
 have HR := xaa hr
 rw [hr]
 clear hr
 obtain ⟨q1, hq1⟩ : ∃ q, (decide (a = 23) && has [0] b) = q := ⟨_, rfl⟩
 have Q1 := xaa hq1
 have C1 : Hid (∀ W v, R8 W v [0] -> Calls Tryz.prog 157 #[.agg (plC ⟨a, b, o, cl⟩), .int .u8 23, v] W fun e W' => e = .returned (.bool q1) /\ Below W.heap.size W W') := xaa fun W v h => by rw [<- hq1]; exact qba v _ _ _ _ _ _ W h (by decide)
 clear hq1
 obtain ⟨q2, hq2⟩ : ∃ q, (decide (a = 24) && has [0] b) = q := ⟨_, rfl⟩
 have Q2 := xaa hq2
 have C2 : Hid (∀ W v, R8 W v [0] -> Calls Tryz.prog 157 #[.agg (plC ⟨a, b, o, cl⟩), .int .u8 24, v] W fun e W' => e = .returned (.bool q2) /\ Below W.heap.size W W') := xaa fun W v h => by rw [<- hq2]; exact qba v _ _ _ _ _ _ W h (by decide)
 clear hq2
 obtain ⟨q3, hq3⟩ : ∃ q, (decide (a = 0) && has [23, 24] b) = q := ⟨_, rfl⟩
 have Q3 := xaa hq3
 have C3 : Hid (∀ W v, R8 W v [23, 24] -> Calls Tryz.prog 157 #[.agg (plC ⟨a, b, o, cl⟩), .int .u8 0, v] W fun e W' => e = .returned (.bool q3) /\ Below W.heap.size W W') := xaa fun W v h => by rw [<- hq3]; exact qba v _ _ _ _ _ _ W h (by decide)
 clear hq3
 go_enter Tryz.func175, Tryz.ntmps175
 go_wp2_with (refine qe7 rfl (.tmp 0) rfl ⟨a, b, o, cl⟩ rfl ?_; intro w1 b1 B1; refine Mk.out ?_)
 constructor
 have c3 := cl4 B1
 go_wp2_with (refine ldP rfl (.tmp 1) rfl _ rfl ⟨a, b, o, cl⟩ B1.lies ?_)
 refine (C1.out _ _ (qa9 w1 [0] 5 1 _ rfl rfl)).mono ?_
 rintro e w2 ⟨rfl, d1⟩
 have e1 := xaq (xar w1 _) d1
 have b2 := xaq b1 e1
 have B2 := B1.kb e1
 cases q1
 rotate_left
 ·obtain rfl : true = r := by rw [<- HR.out]; simp [ap20, Q1.out]
  go_wp2_with fail
  go_ret2
  exact ⟨rfl, b2⟩
 go_wp2_with (refine qgy (by kernel_rfl) (.tmp 1) rfl _ rfl ⟨a, b, o, cl⟩ B2.lies ?_)
 refine (C2.out _ _ (qa9 w2 [0] 5 1 _ rfl rfl)).mono ?_
 rintro e w3 ⟨rfl, d2⟩
 have e2 := xaq (xar w2 _) d2
 have b3 := xaq b2 e2
 have B3 := B2.kb e2
 cases q2
 rotate_left
 ·obtain rfl : true = r := by rw [<- HR.out]; simp [ap20, Q1.out, Q2.out]
  go_wp2_with fail
  go_ret2
  exact ⟨rfl, b3⟩
 go_wp2_with (refine qgy (by kernel_rfl) (.tmp 1) rfl _ rfl ⟨a, b, o, cl⟩ B3.lies ?_)
 refine (C3.out _ _ (qa9 w3 [23, 24] 5 2 _ rfl rfl)).mono ?_
 rintro e w4 ⟨rfl, d3⟩
 have e3 := xaq (xar w3 _) d3
 have b4 := xaq b3 e3
 have B4 := B3.kb e3
 cases q3
 ·obtain rfl : false = r := by rw [<- HR.out]; simp [ap20, Q1.out, Q2.out, Q3.out]
  go_wp2_with fail
  go_ret2
  exact ⟨rfl, b4⟩
 ·obtain rfl : true = r := by rw [<- HR.out]; simp [ap20, Q1.out, Q2.out, Q3.out]
  go_wp2_with fail
  go_ret2
  exact ⟨rfl, b4⟩
def ap21 (p : Plc) : Bool := (decide (p.a = 15) && has [24, 23] p.b) || (decide (p.a = 22) && has [24, 23, 22] p.b) || (decide (p.a = 24) && has [14, 22] p.b) || (decide (p.a = 23) && has [14, 22] p.b) || (decide (p.a = 13) && has [22] p.b) || (decide (p.a = 18) && has [22] p.b)
theorem que (p : Plc) (w : World) :
 Calls Tryz.prog 176 #[.agg (plC p)] w fun e w' => e = .returned (.tuple #[.bool (ap21 p), .bool false]) /\ Below w.heap.size w w' := by
 obtain ⟨a, b, o, cl⟩ := p
 obtain ⟨r, hr⟩ : ∃ r, ap21 ⟨a, b, o, cl⟩ = r := ⟨_, rfl⟩
 have HR := xaa hr
 rw [hr]
 clear hr
 obtain ⟨q1, hq1⟩ : ∃ q, (decide (a = 15) && has [24, 23] b) = q := ⟨_, rfl⟩
 have Q1 := xaa hq1
 have C1 : Hid (∀ W v, R8 W v [24, 23] -> Calls Tryz.prog 157 #[.agg (plC ⟨a, b, o, cl⟩), .int .u8 15, v] W fun e W' => e = .returned (.bool q1) /\ Below W.heap.size W W') := xaa fun W v h => by rw [<- hq1]; exact qba v _ _ _ _ _ _ W h (by decide)
 clear hq1
 obtain ⟨q2, hq2⟩ : ∃ q, (decide (a = 22) && has [24, 23, 22] b) = q := ⟨_, rfl⟩
 have Q2 := xaa hq2
 have C2 : Hid (∀ W v, R8 W v [24, 23, 22] -> Calls Tryz.prog 157 #[.agg (plC ⟨a, b, o, cl⟩), .int .u8 22, v] W fun e W' => e = .returned (.bool q2) /\ Below W.heap.size W W') := xaa fun W v h => by rw [<- hq2]; exact qba v _ _ _ _ _ _ W h (by decide)
 clear hq2
 obtain ⟨q3, hq3⟩ : ∃ q, (decide (a = 24) && has [14, 22] b) = q := ⟨_, rfl⟩
 have Q3 := xaa hq3
 have C3 : Hid (∀ W v, R8 W v [14, 22] -> Calls Tryz.prog 157 #[.agg (plC ⟨a, b, o, cl⟩), .int .u8 24, v] W fun e W' => e = .returned (.bool q3) /\ Below W.heap.size W W') := xaa fun W v h => by rw [<- hq3]; exact qba v _ _ _ _ _ _ W h (by decide)
 clear hq3
 obtain ⟨q4, hq4⟩ : ∃ q, (decide (a = 23) && has [14, 22] b) = q := ⟨_, rfl⟩
 have Q4 := xaa hq4
 have C4 : Hid (∀ W v, R8 W v [14, 22] -> Calls Tryz.prog 157 #[.agg (plC ⟨a, b, o, cl⟩), .int .u8 23, v] W fun e W' => e = .returned (.bool q4) /\ Below W.heap.size W W') := xaa fun W v h => by rw [<- hq4]; exact qba v _ _ _ _ _ _ W h (by decide)
 clear hq4
 obtain ⟨q5, hq5⟩ : ∃ q, (decide (a = 13) && has [22] b) = q := ⟨_, rfl⟩
 have Q5 := xaa hq5
 have C5 : Hid (∀ W v, R8 W v [22] -> Calls Tryz.prog 157 #[.agg (plC ⟨a, b, o, cl⟩), .int .u8 13, v] W fun e W' => e = .returned (.bool q5) /\ Below W.heap.size W W') := xaa fun W v h => by rw [<- hq5]; exact qba v _ _ _ _ _ _ W h (by decide)
 clear hq5
 obtain ⟨q6, hq6⟩ : ∃ q, (decide (a = 18) && has [22] b) = q := ⟨_, rfl⟩
 have Q6 := xaa hq6
 have C6 : Hid (∀ W v, R8 W v [22] -> Calls Tryz.prog 157 #[.agg (plC ⟨a, b, o, cl⟩), .int .u8 18, v] W fun e W' => e = .returned (.bool q6) /\ Below W.heap.size W W') := xaa fun W v h => by rw [<- hq6]; exact qba v _ _ _ _ _ _ W h (by decide)
 clear hq6
 go_enter Tryz.func176, Tryz.ntmps176
 go_wp2_with (refine qe7 rfl (.tmp 0) rfl ⟨a, b, o, cl⟩ rfl ?_; intro w1 b1 B1; refine Mk.out ?_)
 constructor
 have c3 := cl4 B1
 go_wp2_with (refine ldP rfl (.tmp 1) rfl _ rfl ⟨a, b, o, cl⟩ B1.lies ?_)
 refine (C1.out _ _ (qa9 w1 [24, 23] 5 2 _ rfl rfl)).mono ?_
 rintro e w2 ⟨rfl, d1⟩
 have e1 := xaq (xar w1 _) d1
 have b2 := xaq b1 e1
 have B2 := B1.kb e1
 cases q1
 rotate_left
 ·obtain rfl : true = r := by rw [<- HR.out]; simp [ap21, Q1.out]
  go_wp2_with fail
  go_ret2
  exact ⟨rfl, b2⟩
 go_wp2_with (refine qgy (by kernel_rfl) (.tmp 1) rfl _ rfl ⟨a, b, o, cl⟩ B2.lies ?_)
 refine (C2.out _ _ (qa9 w2 [24, 23, 22] 5 3 _ rfl rfl)).mono ?_
 rintro e w3 ⟨rfl, d2⟩
 have e2 := xaq (xar w2 _) d2
 have b3 := xaq b2 e2
 have B3 := B2.kb e2
 cases q2
 rotate_left
 ·obtain rfl : true = r := by rw [<- HR.out]; simp [ap21, Q1.out, Q2.out]
  go_wp2_with fail
  go_ret2
  exact ⟨rfl, b3⟩
 go_wp2_with (refine qgy (by kernel_rfl) (.tmp 1) rfl _ rfl ⟨a, b, o, cl⟩ B3.lies ?_)
 refine (C3.out _ _ (qa9 w3 [14, 22] 5 2 _ rfl rfl)).mono ?_
 rintro e w4 ⟨rfl, d3⟩
 have e3 := xaq (xar w3 _) d3
 have b4 := xaq b3 e3
 have B4 := B3.kb e3
 cases q3
 rotate_left
 ·obtain rfl : true = r := by rw [<- HR.out]; simp [ap21, Q1.out, Q2.out, Q3.out]
  go_wp2_with fail
  go_ret2
  exact ⟨rfl, b4⟩
 go_wp2_with (refine qgy (by kernel_rfl) (.tmp 1) rfl _ rfl ⟨a, b, o, cl⟩ B4.lies ?_)
 refine (C4.out _ _ (qa9 w4 [14, 22] 5 2 _ rfl rfl)).mono ?_
 rintro e w5 ⟨rfl, d4⟩
 have e4 := xaq (xar w4 _) d4
 have b5 := xaq b4 e4
 have B5 := B4.kb e4
 cases q4
 rotate_left
 ·obtain rfl : true = r := by rw [<- HR.out]; simp [ap21, Q1.out, Q2.out, Q3.out, Q4.out]
  go_wp2_with fail
  go_ret2
  exact ⟨rfl, b5⟩
 go_wp2_with (refine qgy (by kernel_rfl) (.tmp 1) rfl _ rfl ⟨a, b, o, cl⟩ B5.lies ?_)
 refine (C5.out _ _ (qa9 w5 [22] 5 1 _ rfl rfl)).mono ?_
 rintro e w6 ⟨rfl, d5⟩
 have e5 := xaq (xar w5 _) d5
 have b6 := xaq b5 e5
 have B6 := B5.kb e5
 cases q5
 rotate_left
 ·obtain rfl : true = r := by rw [<- HR.out]; simp [ap21, Q1.out, Q2.out, Q3.out, Q4.out, Q5.out]
  go_wp2_with fail
  go_ret2
  exact ⟨rfl, b6⟩
 go_wp2_with (refine qgy (by kernel_rfl) (.tmp 1) rfl _ rfl ⟨a, b, o, cl⟩ B6.lies ?_)
 refine (C6.out _ _ (qa9 w6 [22] 5 1 _ rfl rfl)).mono ?_
 rintro e w7 ⟨rfl, d6⟩
 have e6 := xaq (xar w6 _) d6
 have b7 := xaq b6 e6
 have B7 := B6.kb e6
 cases q6
 ·obtain rfl : false = r := by rw [<- HR.out]; simp [ap21, Q1.out, Q2.out, Q3.out, Q4.out, Q5.out, Q6.out]
  go_wp2_with fail
  go_ret2
  exact ⟨rfl, b7⟩
 ·obtain rfl : true = r := by rw [<- HR.out]; simp [ap21, Q1.out, Q2.out, Q3.out, Q4.out, Q5.out, Q6.out]
  go_wp2_with fail
  go_ret2
  exact ⟨rfl, b7⟩
def ap22 (p : Plc) : Bool := decide (p.a = 0) && has [0] p.b
theorem qud (p : Plc) (w : World) :
 Calls Tryz.prog 177 #[.agg (plC p)] w fun e w' => e = .returned (.tuple #[.bool (ap22 p), .bool false]) /\ Below w.heap.size w w' := by
 obtain ⟨a, b, o, cl⟩ := p
 obtain ⟨r, hr⟩ : ∃ r, ap22 ⟨a, b, o, cl⟩ = r := ⟨_, rfl⟩
 have HR := xaa hr
 rw [hr]
 clear hr
 obtain ⟨q1, hq1⟩ : ∃ q, (decide (a = 0) && has [0] b) = q := ⟨_, rfl⟩
 have Q1 := xaa hq1
 have C1 : Hid (∀ W v, R8 W v [0] -> Calls Tryz.prog 157 #[.agg (plC ⟨a, b, o, cl⟩), .int .u8 0, v] W fun e W' => e = .returned (.bool q1) /\ Below W.heap.size W W') := xaa fun W v h => by rw [<- hq1]; exact qba v _ _ _ _ _ _ W h (by decide)
 clear hq1
 go_enter Tryz.func177, Tryz.ntmps177
 go_wp2_with (refine qe7 rfl (.tmp 0) rfl ⟨a, b, o, cl⟩ rfl ?_; intro w1 b1 B1; refine Mk.out ?_)
 constructor
 have c3 := cl4 B1
 go_wp2_with (refine ldP rfl (.tmp 1) rfl _ rfl ⟨a, b, o, cl⟩ B1.lies ?_)
 refine (C1.out _ _ (qa9 w1 [0] 5 1 _ rfl rfl)).mono ?_
 rintro e w2 ⟨rfl, d1⟩
 have b2 := xaq b1 (xaq (xar w1 _) d1)
 obtain rfl : q1 = r := by rw [<- HR.out, <- Q1.out]; rfl
 go_wp2_with fail
 go_ret2
 exact ⟨rfl, b2⟩
def ap23 (p : Plc) : Bool := decide (p.a = 18) && has [0] p.b
theorem quc (p : Plc) (w : World) :
 Calls Tryz.prog 178 #[.agg (plC p)] w fun e w' => e = .returned (.tuple #[.bool (ap23 p), .bool false]) /\ Below w.heap.size w w' := by
 obtain ⟨a, b, o, cl⟩ := p
 obtain ⟨r, hr⟩ : ∃ r, ap23 ⟨a, b, o, cl⟩ = r := ⟨_, rfl⟩
 have HR := xaa hr
 rw [hr]
 clear hr
 obtain ⟨q1, hq1⟩ : ∃ q, (decide (a = 18) && has [0] b) = q := ⟨_, rfl⟩
 have Q1 := xaa hq1
 have C1 : Hid (∀ W v, R8 W v [0] -> Calls Tryz.prog 157 #[.agg (plC ⟨a, b, o, cl⟩), .int .u8 18, v] W fun e W' => e = .returned (.bool q1) /\ Below W.heap.size W W') := xaa fun W v h => by rw [<- hq1]; exact qba v _ _ _ _ _ _ W h (by decide)
 clear hq1
 go_enter Tryz.func178, Tryz.ntmps178
 go_wp2_with (refine qe7 rfl (.tmp 0) rfl ⟨a, b, o, cl⟩ rfl ?_; intro w1 b1 B1; refine Mk.out ?_)
 constructor
 have c3 := cl4 B1
 go_wp2_with (refine ldP rfl (.tmp 1) rfl _ rfl ⟨a, b, o, cl⟩ B1.lies ?_)
 refine (C1.out _ _ (qa9 w1 [0] 5 1 _ rfl rfl)).mono ?_
 rintro e w2 ⟨rfl, d1⟩
 have b2 := xaq b1 (xaq (xar w1 _) d1)
 obtain rfl : q1 = r := by rw [<- HR.out, <- Q1.out]; rfl
 go_wp2_with fail
 go_ret2
 exact ⟨rfl, b2⟩
theorem qub (p : Plc) (w : World) :
 Calls Tryz.prog 179 #[.agg (plC p)] w fun e w' => e = .returned (.tuple #[.bool true, .bool true]) /\ Below w.heap.size w w' := by
 obtain ⟨a, b, o, cl⟩ := p
 go_enter Tryz.func179, Tryz.ntmps179
 go_wp2_with (refine qe7 rfl (.tmp 0) rfl ⟨a, b, o, cl⟩ rfl ?_; intro w1 b1 B1; refine Mk.out ?_)
 constructor
 go_wp2_with fail
 go_ret2
 exact ⟨rfl, b1⟩
end
section
def ap2 (p : Plc) : Bool := has [2, 3, 4] p.a
def en2 (p : Plc) : Bool := !(decide (p.a = 2) && has [3] p.b)
inductive Kl
 | val (v : Value)
 | lit (l : List Int)
def Kl.holds : Kl -> Value -> World -> Prop
 | .val v, u, _ => u = v
 | .lit l, u, W => R8 W u l
theorem Kl.below {k : Kl} {u : Value} {w w' : World} (h : k.holds u w) (b : Below w.heap.size w w') : k.holds u w' := by
 cases k with
 | val v => exact h
 | lit l =>
   have h1 : R8 w u l := h
   exact Row.below h1 b
def kl2 (g : Nat) (p : Plc) (q q2 : Bool) (i : Nat) : Kl :=
 ([.val (.pointer (some ⟨g, 0, none⟩)), .val (.int .u8 p.a), .lit [2, 3, 4], .val (.bool q), .val (.agg (plC p)), .lit [3], .val (.bool q2), .val (.bool (!q2)), .val (.bool q), .val (.bool (!q2))] : List Kl).getD i (.val undef)
theorem qzc (p : Plc) (w : World) :
 Calls Tryz.prog 155 #[.agg (plC p)] w fun e w' => e = .returned (.tuple #[.bool (ap2 p), .bool (en2 p)]) /\ Below w.heap.size w w' := by
 obtain ⟨q, hq⟩ : ∃ q, ap2 p = q := ⟨_, rfl⟩
 obtain ⟨q2, hq2⟩ : ∃ q, (decide (p.a = 2) && has [3] p.b) = q := ⟨_, rfl⟩
 have hen : en2 p = !q2 := by unfold en2; rw [hq2]
 rw [hq, hen]
 have C1 : Hid (∀ W v, R8 W v [2, 3, 4] -> Calls Tryz.prog 156 #[.int .u8 p.a, v] W fun e W' => e = .returned (.bool q) /\ W' = W) := xaa fun W v h => by rw [<- hq]; exact qdp v _ _ W h (by decide)
 have C2 : Hid (∀ W v, R8 W v [3] -> Calls Tryz.prog 157 #[.agg (plC p), .int .u8 2, v] W fun e W' => e = .returned (.bool q2) /\ Below W.heap.size W W') := xaa fun W v h => by rw [<- hq2]; exact qba v _ _ _ _ _ _ W h (by decide)
 clear hq hq2 hen
 go_enter Tryz.func155, Tryz.ntmps155
 go_wp2_with (refine qe7 rfl (.tmp 0) rfl p rfl ?_; intro w1 b1 B1; refine Mk.out ?_)
 constructor
 go_wp2_with fail
 have HB := xaa B1
 refine qqn (by kernel_rfl) (fun W => Below w1.heap.size w1 W) (fun _ _ h b => xaq h b) (fun i u W => (kl2 w.heap.size p q q2 i).holds u W) (fun _ _ _ _ h b => Kl.below h b) (below_drewN (xas) 1) (by kernel_rfl) (by kernel_rfl) (by kernel_rfl) (by kernel_rfl) ?step ?done
 case step =>
  intro us W hSW i o ho hD
  have B := HB.out.kb hSW
  have c0 : W.cell? ⟨w.heap.size, 0, none⟩ = some (.int .u8 p.a) := B.cell 0
  have L := B.lies
  simp only [qae, Act.put, xaf, xaj, xak]
  match i, ho with
  | 0, ho =>
    simp only [xab, xad, xai] at ho
    subst ho
    exact .inl ⟨qaa rfl _, .inl ⟨_, W, (by go_simp), xas, rfl⟩⟩
  | 1, ho =>
    simp only [xab, xad, xae, xai] at ho
    subst ho
    have h0 : us 0 = .pointer (some ⟨w.heap.size, 0, none⟩) := hD 0 (by kernel_rfl)
    rw [h0]
    exact .inl ⟨qaa rfl _, .inl ⟨.int .u8 p.a, W, (by go_simp), xas, rfl⟩⟩
  | 2, ho =>
    simp only [xab, xad, xae, xai] at ho
    subst ho
    exact .inl ⟨qaa rfl _, .inl ⟨.slice (some ⟨W.heap.size, 0, none⟩) 3 3, W.alloc (.cells (r8 [2, 3, 4]).toArray 5), by go_simp; rfl, xar _ _, qa9 W [2, 3, 4] _ 3 _ rfl rfl⟩⟩
  | 3, ho =>
    simp only [xab, xad, xae, xai] at ho
    subst ho
    have h1 : us 1 = .int .u8 p.a := hD 1 (by kernel_rfl)
    have h2 : R8 W (us 2) [2, 3, 4] := hD 2 (by kernel_rfl)
    rw [h1]
    generalize us 2 = v at h2 |-
    refine .inl ⟨qaa rfl _, .inr ⟨_, _, (by go_simp), (C1.out W v h2).mono ?_⟩⟩
    rintro e W' ⟨rfl, rfl⟩
    exact ⟨_, rfl, xas, rfl⟩
  | 4, ho =>
    simp only [xab, xad, xae, xai] at ho
    subst ho
    exact .inl ⟨qaa rfl _, .inl ⟨_, W, rdP (.tmp 1) rfl _ rfl p L, xas, rfl⟩⟩
  | 5, ho =>
    simp only [xab, xad, xae, xai] at ho
    subst ho
    exact .inl ⟨qaa rfl _, .inl ⟨.slice (some ⟨W.heap.size, 0, none⟩) 1 1, W.alloc (.cells (r8 [3]).toArray 5), by go_simp; rfl, xar _ _, qa9 W [3] _ 1 _ rfl rfl⟩⟩
  | 6, ho =>
    simp only [xab, xad, xae, xai] at ho
    subst ho
    have h1 : us 4 = .agg (plC p) := hD 4 (by kernel_rfl)
    have h2 : R8 W (us 5) [3] := hD 5 (by kernel_rfl)
    rw [h1]
    generalize us 5 = v at h2 |-
    refine .inl ⟨qaa rfl _, .inr ⟨_, _, (by go_simp), (C2.out W v h2).mono ?_⟩⟩
    rintro e W' ⟨rfl, b⟩
    exact ⟨_, rfl, b, rfl⟩
  | 7, ho =>
    simp only [xab, xad, xae, xai] at ho
    subst ho
    have h1 : us 6 = .bool q2 := hD 6 (by kernel_rfl)
    rw [h1]
    exact .inl ⟨qaa rfl _, .inl ⟨.bool (!q2), W, (by go_simp), xas, rfl⟩⟩
  | 8, ho =>
    simp only [xab, xad, xae, xai] at ho
    subst ho
    have h1 : us 3 = .bool q := hD 3 (by kernel_rfl)
    rw [h1]
    exact .inl ⟨qaa rfl _, .inl ⟨_, W, (by go_simp), xas, rfl⟩⟩
  | 9, ho =>
    simp only [xab, xad, xae, xai] at ho
    subst ho
    have h1 : us 7 = .bool (!q2) := hD 7 (by kernel_rfl)
    rw [h1]
    exact .inl ⟨qaa rfl _, .inl ⟨_, W, (by go_simp), xas, rfl⟩⟩
  | n + 10, ho => simp at ho
 case done =>
  intro us W hSW hD
  have h8 : us 8 = .bool q := hD 8 (by decide)
  have h9 : us 9 = .bool (!q2) := hD 9 (by decide)
  simp only [qae, Act.put, xaf, xaj, xak]
  rw [h8, h9]
  go_wp2_with fail
  go_ret2
  exact ⟨rfl, xaq b1 hSW⟩
end
section
theorem Blk.qb3 {w : World} {g : Nat} {t : TypeId} {cs : Array Value} (h : Blk w g t cs) {p : Addr} (hp : g ≠ p.block) (v : Value) : Blk (w.setCell p v) g t cs :=
 h.keep (S := fun k => k = p.block) (Mod.setCell (S := fun k => k = p.block) (Mod.refl _ _) (.inl rfl) v) hp
theorem qgs {w : World} {g : Nat} {t : TypeId} {cs cs' : Array Value} (h : Blk w g t cs) (e : cs = cs') : Blk w g t cs' := e ▸ h
def nxP (p : Plc) (c : Int) : Plc := ⟨p.b, (cntI c p.b).1, if p.b = 5 then p.o else p.b, (cntI c p.b).2⟩
theorem qqv (p : Plc) (c : Int) (w : World) :
 Calls Tryz.prog 181 #[.agg (plC p), .int .u8 c] w fun e w' => e = .returned (.agg (plC (nxP p c))) /\ Below w.heap.size w w' := by
 obtain ⟨a, b, o, cl⟩ := p
 have C : Hid (∀ w, Calls Tryz.prog 209 #[.int .u8 c, .int .u8 b] w fun e w' => e = .returned (.tuple #[.int .u8 (cntI c b).1, .bool (cntI c b).2]) /\ w' = w) := xaa fun w => qk3 c b w
 obtain ⟨d, hd⟩ : ∃ d, cntI c b = d := ⟨_, rfl⟩
 obtain ⟨d1, d2⟩ := d
 have e : nxP ⟨a, b, o, cl⟩ c = ⟨b, d1, if b = 5 then o else b, d2⟩ := by unfold nxP; rw [hd]
 rw [e]
 rw [hd] at C
 clear hd e
 go_enter Tryz.func181, Tryz.ntmps181
 go_wp2_with (first
  | (refine qe7 rfl (.tmp 0) rfl ⟨a, b, o, cl⟩ rfl ?_; intro w1 b1 B1)
  | (refine alPV rfl rfl ?_; intro w2 b2 B2; refine Mk.out ?_))
 constructor
 have B1' := B1.kb b2
 have c1 : w2.cell? ⟨w.heap.size, 1, none⟩ = some (.int .u8 b) := B1'.cell 1
 go_wp2_with (refine nwP (o1 := ⟨some 5, _, _, _, _, _⟩) rfl rfl 5 rfl rfl (.tmp 10) rfl rfl ⟨b, 0, b, false⟩ (fun _ => rfl) (fun _ => rfl) ?_; intro w3 b3 B3; refine Mk.out ?_)
 constructor
 have B1'' := B1'.kb b3
 have B2' := B2.kb b3
 have l1 := b1.size
 have l2 := B2.lt
 have l2' := b2.size
 have l3 := B3.lt
 have b03 := xaq b1 (xaq b2 b3)
 clear c1 B1 B2 B1'
 have c1 : w3.cell? ⟨w.heap.size, 1, none⟩ = some (.int .u8 b) := B1''.cell 1
 have c2 : w3.cell? ⟨w.heap.size, 2, none⟩ = some (.int .u8 o) := B1''.cell 2
 by_cases h5 : b = 5
 ·subst h5
  have n2 : w3.cell? ⟨w2.heap.size, 2, none⟩ = some (.int .u8 5) := B3.cell 2
  have f2 := B3.frozen 2
  go_wp2_with fail
  have B4 := qgs (B3.set_ 2 (.int .u8 o)) (show _ = plC ⟨5, 0, o, false⟩ from rfl)
  have B5 := B2'.qb3 (p := ⟨w2.heap.size, 2, none⟩) (by show w1.heap.size ≠ w2.heap.size; omega) (.int .u8 o)
  have b4 : Below w.heap.size w (w3.setCell ⟨w2.heap.size, 2, none⟩ (.int .u8 o)) := b03.setCell (by show w.heap.size <= w2.heap.size; omega) _
  have B6 := B1''.qb3 (p := ⟨w2.heap.size, 2, none⟩) (by show w.heap.size ≠ w2.heap.size; omega) (.int .u8 o)
  obtain ⟨w4, hw4⟩ : ∃ w4, w3.setCell ⟨w2.heap.size, 2, none⟩ (.int .u8 o) = w4 := ⟨_, rfl⟩
  rw [hw4] at B4 B5 B6 b4 |-
  clear hw4
  have c1' : w4.cell? ⟨w.heap.size, 1, none⟩ = some (.int .u8 5) := B6.cell 1
  clear c1 c2 n2 f2
  have n1 : w4.cell? ⟨w2.heap.size, 1, none⟩ = some (.int .u8 0) := B4.cell 1
  have f1 := B4.frozen 1
  go_wp2_with fail
  refine (C.out _).mono ?_
  rintro e w5 ⟨rfl, rfl⟩
  clear C
  have n3 : (w5.setCell ⟨w2.heap.size, 1, none⟩ (.int .u8 d1)).cell? ⟨w2.heap.size, 3, none⟩ = some (.bool false) := (B4.set_ 1 (.int .u8 d1)).cell 3
  have f3 := (B4.set_ 1 (.int .u8 d1)).frozen 3
  have B7 := qgs ((B4.set_ 1 (.int .u8 d1)).set_ 3 (.bool d2)) (show _ = plC ⟨5, d1, o, d2⟩ from rfl)
  have B8 := (B5.qb3 (p := ⟨w2.heap.size, 1, none⟩) (by show w1.heap.size ≠ w2.heap.size; omega) (.int .u8 d1)).qb3 (p := ⟨w2.heap.size, 3, none⟩) (by show w1.heap.size ≠ w2.heap.size; omega) (.bool d2)
  have b7 := (b4.setCell (p := ⟨w2.heap.size, 1, none⟩) (by show w.heap.size <= w2.heap.size; omega) (.int .u8 d1)).setCell (p := ⟨w2.heap.size, 3, none⟩) (by show w.heap.size <= w2.heap.size; omega) (.bool d2)
  go_wp2_with (refine ldP (o := ⟨some 26, _, _, _, _, _⟩) rfl (.tmp 5) rfl _ rfl ⟨5, d1, o, d2⟩ B7.lies ?_; refine stP rfl (.tmp 4) (.tmp 26) rfl rfl _ rfl ⟨5, d1, o, d2⟩ rfl zPl B8 ?_; intro w6 m6 B9)
  refine bodyPost_ret (v := .agg (plC ⟨5, d1, o, d2⟩)) (qbf rfl _ _ w1.heap.size 234 _ _ rfl B9 uP rfl (iPp _)) rfl ⟨?_, b7.trans (m6.below b7.size fun k hk => by omega)⟩
  rfl
 ·obtain ⟨w4, hw4⟩ : ∃ w4, w3 = w4 := ⟨_, rfl⟩
  have B4 := B3
  have b4 := b03
  have B5 := B2'
  have c1' := c1
  rw [hw4] at B4 B5 b4 c1' |-
  clear hw4 c1 c2
  have n1 : w4.cell? ⟨w2.heap.size, 1, none⟩ = some (.int .u8 0) := B4.cell 1
  have f1 := B4.frozen 1
  go_wp2_with fail
  refine (C.out _).mono ?_
  rintro e w5 ⟨rfl, rfl⟩
  clear C
  have n3 : (w5.setCell ⟨w2.heap.size, 1, none⟩ (.int .u8 d1)).cell? ⟨w2.heap.size, 3, none⟩ = some (.bool false) := (B4.set_ 1 (.int .u8 d1)).cell 3
  have f3 := (B4.set_ 1 (.int .u8 d1)).frozen 3
  have B7 := qgs ((B4.set_ 1 (.int .u8 d1)).set_ 3 (.bool d2)) (show _ = plC ⟨b, d1, b, d2⟩ from rfl)
  have B8 := (B5.qb3 (p := ⟨w2.heap.size, 1, none⟩) (by show w1.heap.size ≠ w2.heap.size; omega) (.int .u8 d1)).qb3 (p := ⟨w2.heap.size, 3, none⟩) (by show w1.heap.size ≠ w2.heap.size; omega) (.bool d2)
  have b7 := (b4.setCell (p := ⟨w2.heap.size, 1, none⟩) (by show w.heap.size <= w2.heap.size; omega) (.int .u8 d1)).setCell (p := ⟨w2.heap.size, 3, none⟩) (by show w.heap.size <= w2.heap.size; omega) (.bool d2)
  go_wp2_with (refine ldP (o := ⟨some 26, _, _, _, _, _⟩) rfl (.tmp 5) rfl _ rfl ⟨b, d1, b, d2⟩ B7.lies ?_; refine stP rfl (.tmp 4) (.tmp 26) rfl rfl _ rfl ⟨b, d1, b, d2⟩ rfl zPl B8 ?_; intro w6 m6 B9)
  refine bodyPost_ret (v := .agg (plC ⟨b, d1, b, d2⟩)) (qbf rfl _ _ w1.heap.size 234 _ _ rfl B9 uP rfl (iPp _)) rfl ⟨?_, b7.trans (m6.below b7.size fun k hk => by omega)⟩
  simp
end
end Go.Proofs.YtmceblkjbpbcoaaGreatDoor
