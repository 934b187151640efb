/- Contracts of layers below. -/
import Derived.Test.YtmceblkjbpbcoaaGreatDoorPChMath
import Derived.Shelf.Abstract
namespace Go.Proofs.YtmceblkjbpbcoaaGreatDoor
set_option maxRecDepth 100000
set_option maxHeartbeats 8000000
open Go.ChangeShapes Go.WideShapes Go.ChangeAt Go.RowKit
section
open Go.Shelf
open Wh (Cr)
open Ch
def cq1 (p : Pc) : Bool := p.first || p.b.kind == 5 || p.a.kind == 5 || p.s.a0 == 1 || p.s.a0 == 2
def cq2 (p : Pc) : Bool := endH p.b
def cq3 (p : Pc) : Bool := p.a.kind == 1 || p.a.kind == 2
def cq4 (p : Pc) : Bool := p.s.a3 == 3 && markH p.a
def cq5 (p : Pc) : Bool := p.s.a3 == 3
def cqh (p : Pc) : Bool := p.s.a1 == 2 && lettH p.b && lettH p.a
def cq6 (p : Pc) : Bool := p.e && !(p.s.a1 == 2 && lettH p.b && lettH p.a)
def cq7 (p : Pc) : Bool := p.s.a2 == 1 && !markH p.a
def cq8 (_ : Pc) : Bool := true
theorem qwb (p : Pc) (w : World) :
 Calls Tryz.prog 88 #[.agg (pcA p)] w fun e w' => e = .returned (.bool (cq1 p)) /\ Below w.heap.size w w' := by
 obtain ⟨vf, hvf⟩ : ∃ x, p.first = x := ⟨_, rfl⟩
 have Hvf := xaa hvf
 obtain ⟨vb, hvb⟩ : ∃ x, p.b.kind = x := ⟨_, rfl⟩
 have Hvb := xaa hvb
 obtain ⟨va, hva⟩ : ∃ x, p.a.kind = x := ⟨_, rfl⟩
 have Hva := xaa hva
 obtain ⟨v0, hv0⟩ : ∃ x, p.s.a0 = x := ⟨_, rfl⟩
 have Hv0 := xaa hv0
 go_enter Tryz.func88, Tryz.ntmps88
 go_wp2_with (refine qg1 rfl (.tmp 0) rfl p rfl ?_; intro w1 b1 B1; refine Mk.out ?_)
 constructor
 have cvf : w1.cell? ⟨w.heap.size, 0, none⟩ = some (.bool p.first) := B1.cell 0
 rw [hvf] at cvf
 have cvb : w1.cell? ⟨w.heap.size, 1, none⟩ = some (.int .u8 p.b.kind) := B1.cell 1
 rw [hvb] at cvb
 have cva : w1.cell? ⟨w.heap.size, 5, none⟩ = some (.int .u8 p.a.kind) := B1.cell 5
 rw [hva] at cva
 have cv0 : w1.cell? ⟨w.heap.size, 9, none⟩ = some (.int .u8 p.s.a0) := B1.cell 9
 rw [hv0] at cv0
 clear hvf
 clear hvb
 clear hva
 clear hv0
 cases vf
 rotate_left
 ·go_wp2_with fail
  go_ret
  exact ⟨qak (by simp [cq1, Hvf.out, Hvb.out, Hva.out, Hv0.out]), b1⟩
 by_cases h1 : vb = 5
 ·subst h1
  go_wp2_with fail
  go_ret
  exact ⟨qak (by simp [cq1, Hvf.out, Hvb.out, Hva.out, Hv0.out]), b1⟩
 by_cases h2 : va = 5
 ·subst h2
  go_wp2_with fail
  go_ret
  exact ⟨qak (by simp [cq1, Hvf.out, Hvb.out, Hva.out, Hv0.out]), b1⟩
 by_cases h3 : v0 = 1
 ·subst h3
  go_wp2_with fail
  go_ret
  exact ⟨qak (by simp [cq1, Hvf.out, Hvb.out, Hva.out, Hv0.out]), b1⟩
 go_wp2_with fail
 go_ret
 exact ⟨qak (by simp [cq1, Hvf.out, Hvb.out, Hva.out, Hv0.out]), b1⟩
theorem qwa (p : Pc) (w : World) :
 Calls Tryz.prog 89 #[.agg (pcA p)] w fun e w' => e = .returned (.bool (cq2 p)) /\ Below w.heap.size w w' := by
 obtain ⟨q1, hq1⟩ : ∃ q, endH p.b = q := ⟨_, rfl⟩
 have Q1 := xaa hq1
 have C1 : Hid (∀ W, Calls Tryz.prog 90 #[.agg (hcA p.b)] W fun e w' => e = .returned (.bool q1) /\ Below W.heap.size W w') := xaa fun W => by rw [<- hq1]; exact qsk _ W
 clear hq1
 go_enter Tryz.func89, Tryz.ntmps89
 go_wp2_with (refine qg1 rfl (.tmp 0) rfl p rfl ?_; intro w1 b1 B1; refine Mk.out ?_)
 constructor
 go_wp2_with (refine ldHc rfl (.tmp 3) rfl _ rfl p.b B1.pcB ?_)
 refine (C1.out _).mono ?_
 rintro e w2 ⟨rfl, b2⟩
 go_wp2_with fail
 go_ret
 exact ⟨qak (by simp [cq2, Q1.out]), xaq b1 b2⟩
theorem qv9 (p : Pc) (w : World) :
 Calls Tryz.prog 91 #[.agg (pcA p)] w fun e w' => e = .returned (.bool (cq3 p)) /\ Below w.heap.size w w' := by
 obtain ⟨va, hva⟩ : ∃ x, p.a.kind = x := ⟨_, rfl⟩
 have Hva := xaa hva
 go_enter Tryz.func91, Tryz.ntmps91
 go_wp2_with (refine qg1 rfl (.tmp 0) rfl p rfl ?_; intro w1 b1 B1; refine Mk.out ?_)
 constructor
 have cva : w1.cell? ⟨w.heap.size, 5, none⟩ = some (.int .u8 p.a.kind) := B1.cell 5
 rw [hva] at cva
 clear hva
 by_cases h1 : va = 1
 ·subst h1
  go_wp2_with fail
  go_ret
  exact ⟨qak (by simp [cq3, Hva.out]), b1⟩
 ·go_wp2_with fail
  go_ret
  exact ⟨qak (by simp [cq3, Hva.out]), b1⟩
theorem qv8 (p : Pc) (w : World) :
 Calls Tryz.prog 92 #[.agg (pcA p)] w fun e w' => e = .returned (.bool (cq4 p)) /\ Below w.heap.size w w' := by
 obtain ⟨v3, hv3⟩ : ∃ x, p.s.a3 = x := ⟨_, rfl⟩
 have Hv3 := xaa hv3
 obtain ⟨q1, hq1⟩ : ∃ q, markH p.a = q := ⟨_, rfl⟩
 have Q1 := xaa hq1
 have C1 : Hid (∀ W, Calls Tryz.prog 93 #[.agg (hcA p.a)] W fun e w' => e = .returned (.bool q1) /\ Below W.heap.size W w') := xaa fun W => by rw [<- hq1]; exact qhr _ W
 clear hq1
 go_enter Tryz.func92, Tryz.ntmps92
 go_wp2_with (refine qg1 rfl (.tmp 0) rfl p rfl ?_; intro w1 b1 B1; refine Mk.out ?_)
 constructor
 have cv3 : w1.cell? ⟨w.heap.size, 12, none⟩ = some (.int .u8 p.s.a3) := B1.cell 12
 rw [hv3] at cv3
 clear hv3
 by_cases h1 : v3 = 3
 ·subst h1
  go_wp2_with (refine qmm (by kernel_rfl) (.tmp 8) rfl _ rfl p.a B1.pcF ?_)
  refine (C1.out _).mono ?_
  rintro e w2 ⟨rfl, b2⟩
  go_wp2_with fail
  go_ret
  exact ⟨qak (by simp [cq4, Hv3.out, Q1.out]), xaq b1 b2⟩
 ·go_wp2_with fail
  go_ret
  exact ⟨qak (by simp [cq4, Hv3.out, h1]), b1⟩
theorem qv7 (p : Pc) (w : World) :
 Calls Tryz.prog 94 #[.agg (pcA p)] w fun e w' => e = .returned (.bool (cq5 p)) /\ Below w.heap.size w w' := by
 obtain ⟨v3, hv3⟩ : ∃ x, p.s.a3 = x := ⟨_, rfl⟩
 have Hv3 := xaa hv3
 go_enter Tryz.func94, Tryz.ntmps94
 go_wp2_with (refine qg1 rfl (.tmp 0) rfl p rfl ?_; intro w1 b1 B1; refine Mk.out ?_)
 constructor
 have cv3 : w1.cell? ⟨w.heap.size, 12, none⟩ = some (.int .u8 p.s.a3) := B1.cell 12
 rw [hv3] at cv3
 clear hv3
 by_cases h1 : v3 = 3
 ·subst h1
  go_wp2_with fail
  go_ret
  exact ⟨qak (by simp [cq5, Hv3.out]), b1⟩
 ·go_wp2_with fail
  go_ret
  exact ⟨qak (by simp [cq5, Hv3.out]), b1⟩
theorem qv3 (p : Pc) (w : World) :
 Calls Tryz.prog 96 #[.agg (pcA p)] w fun e w' => e = .returned (.bool (cqh p)) /\ Below w.heap.size w w' := by
 obtain ⟨v1, hv1⟩ : ∃ x, p.s.a1 = x := ⟨_, rfl⟩
 have Hv1 := xaa hv1
 obtain ⟨q1, hq1⟩ : ∃ q, lettH p.b = q := ⟨_, rfl⟩
 have Q1 := xaa hq1
 have C1 : Hid (∀ W, Calls Tryz.prog 126 #[.agg (hcA p.b)] W fun e w' => e = .returned (.bool q1) /\ Below W.heap.size W w') := xaa fun W => by rw [<- hq1]; exact qhs _ W
 clear hq1
 obtain ⟨q2, hq2⟩ : ∃ q, lettH p.a = q := ⟨_, rfl⟩
 have Q2 := xaa hq2
 have C2 : Hid (∀ W, Calls Tryz.prog 126 #[.agg (hcA p.a)] W fun e w' => e = .returned (.bool q2) /\ Below W.heap.size W w') := xaa fun W => by rw [<- hq2]; exact qhs _ W
 clear hq2
 go_enter Tryz.func96, Tryz.ntmps96
 go_wp2_with (refine qg1 rfl (.tmp 0) rfl p rfl ?_; intro w1 b1 B1; refine Mk.out ?_)
 constructor
 have cv1 : w1.cell? ⟨w.heap.size, 10, none⟩ = some (.int .u8 p.s.a1) := B1.cell 10
 rw [hv1] at cv1
 clear hv1
 by_cases h1 : v1 = 2
 ·subst h1
  go_wp2_with (refine qmm (by kernel_rfl) (.tmp 8) rfl _ rfl p.b B1.pcB ?_)
  refine (C1.out _).mono ?_
  rintro e w2 ⟨rfl, b2⟩
  have B2 := B1.kb b2
  cases q1
  ·go_wp2_with fail
   go_ret
   exact ⟨qak (by simp [cqh, Hv1.out, Q1.out]), xaq b1 b2⟩
  ·go_wp2_with (refine qmm (by kernel_rfl) (.tmp 13) rfl _ rfl p.a B2.pcF ?_)
   refine (C2.out _).mono ?_
   rintro e w3 ⟨rfl, b3⟩
   go_wp2_with fail
   go_ret
   exact ⟨qak (by simp [cqh, Hv1.out, Q1.out, Q2.out]), xaq b1 (xaq b2 b3)⟩
 ·go_wp2_with fail
  go_ret
  exact ⟨qak (by simp [cqh, Hv1.out, h1]), b1⟩
theorem qv6 (p : Pc) (w : World) :
 Calls Tryz.prog 95 #[.agg (pcA p)] w fun e w' => e = .returned (.bool (cq6 p)) /\ Below w.heap.size w w' := by
 obtain ⟨ve, hve⟩ : ∃ x, p.e = x := ⟨_, rfl⟩
 have Hve := xaa hve
 obtain ⟨q1, hq1⟩ : ∃ q, cqh p = q := ⟨_, rfl⟩
 have Q1 := xaa hq1
 have C1 : Hid (∀ W, Calls Tryz.prog 96 #[.agg (pcA p)] W fun e w' => e = .returned (.bool q1) /\ Below W.heap.size W w') := xaa fun W => by rw [<- hq1]; exact qv3 _ W
 have hd : cq6 p = (ve && !q1) := by rw [<- hve, <- hq1]; rfl
 rw [hd]
 clear hq1 hd
 go_enter Tryz.func95, Tryz.ntmps95
 go_wp2_with (refine qg1 rfl (.tmp 0) rfl p rfl ?_; intro w1 b1 B1; refine Mk.out ?_)
 constructor
 have cve : w1.cell? ⟨w.heap.size, 18, none⟩ = some (.bool p.e) := B1.cell 18
 rw [hve] at cve
 clear hve
 cases ve
 ·go_wp2_with fail
  go_ret
  exact ⟨rfl, b1⟩
 ·go_wp2_with (refine ldPcIf (by kernel_rfl) (.tmp 1) rfl _ rfl p B1.lies ?_)
  refine (C1.out _).mono ?_
  rintro e w2 ⟨rfl, b2⟩
  go_wp2_with fail
  go_ret
  exact ⟨qak (by simp), xaq b1 b2⟩
theorem qv5 (p : Pc) (w : World) :
 Calls Tryz.prog 97 #[.agg (pcA p)] w fun e w' => e = .returned (.bool (cq7 p)) /\ Below w.heap.size w w' := by
 obtain ⟨v2, hv2⟩ : ∃ x, p.s.a2 = x := ⟨_, rfl⟩
 have Hv2 := xaa hv2
 obtain ⟨q1, hq1⟩ : ∃ q, markH p.a = q := ⟨_, rfl⟩
 have Q1 := xaa hq1
 have C1 : Hid (∀ W, Calls Tryz.prog 93 #[.agg (hcA p.a)] W fun e w' => e = .returned (.bool q1) /\ Below W.heap.size W w') := xaa fun W => by rw [<- hq1]; exact qhr _ W
 clear hq1
 go_enter Tryz.func97, Tryz.ntmps97
 go_wp2_with (refine qg1 rfl (.tmp 0) rfl p rfl ?_; intro w1 b1 B1; refine Mk.out ?_)
 constructor
 have cv2 : w1.cell? ⟨w.heap.size, 11, none⟩ = some (.int .u8 p.s.a2) := B1.cell 11
 rw [hv2] at cv2
 clear hv2
 by_cases h1 : v2 = 1
 ·subst h1
  go_wp2_with (refine qmm (by kernel_rfl) (.tmp 8) rfl _ rfl p.a B1.pcF ?_)
  refine (C1.out _).mono ?_
  rintro e w2 ⟨rfl, b2⟩
  go_wp2_with fail
  go_ret
  exact ⟨qak (by simp [cq7, Hv2.out, Q1.out]), xaq b1 b2⟩
 ·go_wp2_with fail
  go_ret
  exact ⟨qak (by simp [cq7, Hv2.out, h1]), b1⟩
theorem qv4 (p : Pc) (w : World) :
 Calls Tryz.prog 98 #[.agg (pcA p)] w fun e w' => e = .returned (.bool (cq8 p)) /\ Below w.heap.size w w' := by
 go_enter Tryz.func98, Tryz.ntmps98
 go_wp2_with (refine qg1 rfl (.tmp 0) rfl p rfl ?_; intro w1 b1 B1; refine Mk.out ?_)
 constructor
 go_wp2_with fail
 go_ret
 exact ⟨rfl, b1⟩
def rwC (n : Int) (f : Nat) : Array Value := #[.int .u8 n, .func (.func f) #[] #[]]
structure Rw where
 num : Int
 f : Nat
 ap : Pc -> Bool
def rlC : List Rw := [⟨0, 88, cq1⟩, ⟨1, 89, cq2⟩, ⟨0, 91, cq3⟩, ⟨0, 92, cq4⟩, ⟨1, 94, cq5⟩, ⟨1, 95, cq6⟩, ⟨2, 97, cq7⟩, ⟨0, 98, cq8⟩]
def tbC : Array Value := #[.int .u8 0, .func (.func 88) #[] #[], .int .u8 1, .func (.func 89) #[] #[], .int .u8 0, .func (.func 91) #[] #[], .int .u8 0, .func (.func 92) #[] #[], .int .u8 1, .func (.func 94) #[] #[], .int .u8 1, .func (.func 95) #[] #[], .int .u8 2, .func (.func 97) #[] #[], .int .u8 0, .func (.func 98) #[] #[]]
def zTbC : Array Value := #[.int .u8 0, .nilFunc, .int .u8 0, .nilFunc, .int .u8 0, .nilFunc, .int .u8 0, .nilFunc, .int .u8 0, .nilFunc, .int .u8 0, .nilFunc, .int .u8 0, .nilFunc, .int .u8 0, .nilFunc]
theorem qti : ∀ (k : Nat) (x : Rw), rlC[k]? = some x -> ∀ (j : Nat) (v : Value), (rwC x.num x.f)[j]? = some v -> tbC[k * 2 + j]? = some v
 | 0, x, hx, j, v, hj => by
   have e : x = ⟨0, 88, cq1⟩ := (xaw hx).symm
   subst e
   match j, hj with
   | 0, hj => exact hj
   | 1, hj => exact hj
   | j + 2, hj => simp [rwC] at hj
 | 1, x, hx, j, v, hj => by
   have e : x = ⟨1, 89, cq2⟩ := (xaw hx).symm
   subst e
   match j, hj with
   | 0, hj => exact hj
   | 1, hj => exact hj
   | j + 2, hj => simp [rwC] at hj
 | 2, x, hx, j, v, hj => by
   have e : x = ⟨0, 91, cq3⟩ := (xaw hx).symm
   subst e
   match j, hj with
   | 0, hj => exact hj
   | 1, hj => exact hj
   | j + 2, hj => simp [rwC] at hj
 | 3, x, hx, j, v, hj => by
   have e : x = ⟨0, 92, cq4⟩ := (xaw hx).symm
   subst e
   match j, hj with
   | 0, hj => exact hj
   | 1, hj => exact hj
   | j + 2, hj => simp [rwC] at hj
 | 4, x, hx, j, v, hj => by
   have e : x = ⟨1, 94, cq5⟩ := (xaw hx).symm
   subst e
   match j, hj with
   | 0, hj => exact hj
   | 1, hj => exact hj
   | j + 2, hj => simp [rwC] at hj
 | 5, x, hx, j, v, hj => by
   have e : x = ⟨1, 95, cq6⟩ := (xaw hx).symm
   subst e
   match j, hj with
   | 0, hj => exact hj
   | 1, hj => exact hj
   | j + 2, hj => simp [rwC] at hj
 | 6, x, hx, j, v, hj => by
   have e : x = ⟨2, 97, cq7⟩ := (xaw hx).symm
   subst e
   match j, hj with
   | 0, hj => exact hj
   | 1, hj => exact hj
   | j + 2, hj => simp [rwC] at hj
 | 7, x, hx, j, v, hj => by
   have e : x = ⟨0, 98, cq8⟩ := (xaw hx).symm
   subst e
   match j, hj with
   | 0, hj => exact hj
   | 1, hj => exact hj
   | j + 2, hj => simp [rwC] at hj
 | k + 8, x, hx, _, _, _ => by simp [rlC] at hx
structure RwOk (x : Rw) : Prop where
 enters : ∀ args w, (callFunc x.f args).run Tryz.prog w = .ok (.enter x.f args) w
 calls : ∀ p w, Calls Tryz.prog x.f #[.agg (pcA p)] w fun e w' => e = .returned (.bool (x.ap p)) /\ Below w.heap.size w w'
theorem rlC_ok : ∀ x ∈ rlC, RwOk x := by
 intro x hx
 simp only [rlC, List.mem_cons, List.not_mem_nil, or_false] at hx
 rcases hx with rfl | rfl | rfl | rfl | rfl | rfl | rfl | rfl
 ·exact ⟨enters_of Tryz.func88 (by kernel_rfl) rfl, qwb⟩
 ·exact ⟨enters_of Tryz.func89 (by kernel_rfl) rfl, qwa⟩
 ·exact ⟨enters_of Tryz.func91 (by kernel_rfl) rfl, qv9⟩
 ·exact ⟨enters_of Tryz.func92 (by kernel_rfl) rfl, qv8⟩
 ·exact ⟨enters_of Tryz.func94 (by kernel_rfl) rfl, qv7⟩
 ·exact ⟨enters_of Tryz.func95 (by kernel_rfl) rfl, qv6⟩
 ·exact ⟨enters_of Tryz.func97 (by kernel_rfl) rfl, qv5⟩
 ·exact ⟨enters_of Tryz.func98 (by kernel_rfl) rfl, qv4⟩
theorem iTbC : (Tryz.prog.info? 126).map (·.size) = some 16 := by kernel_rfl
theorem alTbC (w : World) : (Instr.alloc 126 true (.tuple #[])).run Tryz.prog w = .ok (.pointer (some ⟨w.heap.size, 0, none⟩)) (w.alloc (.cells zTbC 126)) := by kernel_rfl
theorem qoo (w : World) :
 Calls Tryz.prog 43 #[] w fun e w' => e = .returned (.agg tbC) /\ Below w.heap.size w w' := by
 go_enter Tryz.func43, Tryz.ntmps43
 go_wp2_with (first
  | (refine qao rfl 126 rfl _ alTbC ?_; intro w1 b1 B1)
  | (refine qah rfl 126 (.tmp 0) (.tmp 9) rfl rfl _ rfl tbC rfl 126 zTbC B1 iTbC rfl (by kernel_rfl) ?_; intro w2 m2 B2))
 refine bodyPost_ret (v := .agg tbC) (qbf rfl _ _ w.heap.size 126 tbC _ rfl B2 Tryz.underlying126 rfl iTbC) rfl ⟨rfl, b1.trans (m2.below b1.size (fun k hk => by omega))⟩
def frsC (p : Pc) : List Rw -> Int
 | [] => 0
 | x :: t => if x.ap p then x.num else frsC p t
theorem qj3 (p : Pc) : ∀ (l : List Rw) (k : Nat), (∀ j x, j < k -> l[j]? = some x -> x.ap p = false) -> frsC p l = frsC p (l.drop k)
 | _, 0, _ => rfl
 | [], k + 1, _ => rfl
 | x :: t, k + 1, h => by
   have h0 := h 0 x (by omega) rfl
   show (if x.ap p then _ else frsC p t) = _
   rw [h0, if_neg (by decide)]
   exact qj3 p t k fun j y hj hy => h (j + 1) y (by omega) hy
theorem qr0 (p : Pc) {l : List Rw} {k : Nat} {x : Rw} (h : ∀ j x, j < k -> l[j]? = some x -> x.ap p = false) (hx : l[k]? = some x) (ha : x.ap p = true) : frsC p l = x.num := by
 rw [qj3 p l k h]
 obtain ⟨hl, he⟩ := xah hx
 rw [List.drop_eq_getElem_cons hl, he]
 show (if x.ap p then _ else _) = _
 rw [ha]
 rfl
theorem lookC {l : List Rw} {k : Nat} {x : Rw} {p : Pc} (h : ∀ j x, j < k -> l[j]? = some x -> x.ap p = false) (hx : l[k]? = some x) (ha : x.ap p = false) : ∀ j x, j < k + 1 -> l[j]? = some x -> x.ap p = false := fun j y hj hy => by
 by_cases e : j = k
 ·subst e
  rw [hx] at hy
  cases hy
  exact ha
 ·exact h j y (by omega) hy
theorem qog (b a : Hc) (s : Sty) (e : Bool) : frsC ⟨true, b, a, s, e⟩ rlC = 0 := rfl
theorem qz7 (ss : List Sty) (x y : Cr) (r : Sty) (q : Bool) : frsC ⟨false, hcOf ss x, hcOf ss y, r, q⟩ rlC = Ch.oneC x y r (stl ss x.node) q := by
 have e1 : cq1 ⟨false, hcOf ss x, hcOf ss y, r, q⟩ = decide (x.kind = 5 \/ y.kind = 5 \/ r.a0 = 1 \/ r.a0 = 2) := by rw [Bool.eq_iff_iff]; simp [cq1, hcOf, or_assoc]
 have e2 : cq2 ⟨false, hcOf ss x, hcOf ss y, r, q⟩ = decide ((x.kind = 3 \/ x.kind = 4) /\ (stl ss x.node).a0 = 5) := by rw [Bool.eq_iff_iff]; simp [cq2, endH, hcOf]
 have e3 : cq3 ⟨false, hcOf ss x, hcOf ss y, r, q⟩ = decide (y.kind = 1 \/ y.kind = 2) := by rw [Bool.eq_iff_iff]; simp [cq3, hcOf]
 have e4 : cq4 ⟨false, hcOf ss x, hcOf ss y, r, q⟩ = (decide (r.a3 = 3) && qre y) := rfl
 have e5 : cq5 ⟨false, hcOf ss x, hcOf ss y, r, q⟩ = decide (r.a3 = 3) := rfl
 have e6 : cq6 ⟨false, hcOf ss x, hcOf ss y, r, q⟩ = (q && !(decide (r.a1 = 2) && lett x && lett y)) := rfl
 have e7 : cq7 ⟨false, hcOf ss x, hcOf ss y, r, q⟩ = (decide (r.a2 = 1) && !qre y) := rfl
 obtain ⟨P, hP⟩ : ∃ P : Pc, (⟨false, hcOf ss x, hcOf ss y, r, q⟩ : Pc) = P := ⟨_, rfl⟩
 rw [hP] at e1 e2 e3 e4 e5 e6 e7 |-
 show (if cq1 P then (0 : Int) else if cq2 P then 1 else if cq3 P then 0 else if cq4 P then 0 else if cq5 P then 1 else if cq6 P then 1 else if cq7 P then 2 else if cq8 P then 0 else 0) = _
 rw [e1, e2, e3, e4, e5, e6, e7]
 unfold Ch.oneC
 simp only [decide_eq_true_eq, Bool.and_eq_true, Bool.not_eq_true', ite_self]
 by_cases c1 : x.kind = 5 \/ y.kind = 5 \/ r.a0 = 1 \/ r.a0 = 2
 ·rw [if_pos c1, if_pos c1]
 rw [if_neg c1, if_neg c1]
 by_cases c2 : (x.kind = 3 \/ x.kind = 4) /\ (stl ss x.node).a0 = 5
 ·rw [if_pos c2, if_pos c2]
 rw [if_neg c2, if_neg c2]
 by_cases c3 : y.kind = 1 \/ y.kind = 2
 ·rw [if_pos c3, if_pos c3]
 rw [if_neg c3, if_neg c3]
 by_cases c4 : r.a3 = 3
 ·cases qre y <;> simp [c4]
 ·simp [c4]
theorem uRwC : Tryz.prog.underlying 124 = some (.struct (Tryz.prog.fieldsOf 124)) := by kernel_rfl
theorem iRwC (n : Int) (f : Nat) : (Tryz.prog.info? 124).map (·.size) = some (rwC n f).size := by kernel_rfl
theorem oneRwC (n : Int) (f : Nat) : (rwC n f).all (·.oneCell') = true := by kernel_rfl
theorem alRwC (w : World) : (Instr.alloc 124 true (.tuple #[])).run Tryz.prog w = .ok (.pointer (some ⟨w.heap.size, 0, none⟩)) (w.alloc (.cells #[.int .u8 0, .nilFunc] 124)) := by kernel_rfl
section
variable {ops : Array Oper} {Q : Exit -> Act -> World -> Prop} {a : Act} {w : World} {rest : List Oper} {o o1 o2 : Oper}
theorem ldRwC (hg : o.guard = none) (x : Operand) (ho : o.op = .load 124 x) (p : Addr) (hx : a.eval x = .pointer (some p)) (n : Int) (f : Nat) (hL : qar w p (rwC n f))
 (h : wpList Tryz.prog ops Q rest (a.put o.dst (.agg (rwC n f))) w) : wpList Tryz.prog ops Q (o :: rest) a w := qan hg 124 x ho p hx (rwC n f) _ hL uRwC rfl (iRwC n f) h
theorem nwRwC (hg1 : o1.guard = none) (hg2 : o2.guard = none) (D : Tmp) (hd1 : o1.dst = some D) (ho1 : o1.op = .alloc 124) (y : Operand) (ho2 : o2.op = .store 124 (.tmp D) y) (hd2 : o2.dst = none)
 (n : Int) (f : Nat) (hx : ∀ v, (a.put (some D) v).eval (.tmp D) = v) (hy : ∀ v, (a.put (some D) v).eval y = .agg (rwC n f))
 (h : ∀ w', Below w.heap.size w w' -> Blk w' w.heap.size 124 (rwC n f) -> wpList Tryz.prog ops Q rest (a.put (some D) (.pointer (some ⟨w.heap.size, 0, none⟩))) w') : wpList Tryz.prog ops Q (o1 :: o2 :: rest) a w :=
 qab hg1 hg2 124 D hd1 ho1 y ho2 hd2 _ alRwC (rwC n f) hx hy (iRwC n f) rfl (oneRwC n f) h
end
theorem qm5 (p : Pc) (T : Nat) (w : World) (hT : Blk w T 126 tbC) :
 Calls Tryz.prog 44 #[.pointer (some ⟨T, 0, none⟩), .agg (pcA p)] w fun e w' => e = .returned (.int .u8 (frsC p rlC)) /\ Below w.heap.size w w' := by
 have HT := xaa hT
 obtain ⟨r, hr⟩ : ∃ r, frsC p rlC = r := ⟨_, rfl⟩
 have HR := xaa hr
 rw [hr]
 clear hr hT
 go_enter Tryz.func44, Tryz.ntmps44
 go_wp2_with (refine qg1 rfl (.tmp 1) rfl p rfl ?_; intro w1 b1 B1)
 have l1 := B1.lt
 have l0 := HT.out.lt
 have HK : Hid (∀ W, Below w1.heap.size w1 W -> Blk W T 126 tbC /\ Blk W w.heap.size 131 (pcA p)) := xaa fun W h => by
  have m1 := xap (S := fun _ => False) h
  have m0 := (xap (S := fun _ => False) b1).trans m1
  exact ⟨HT.out.keep m0 id, B1.keep m1 id⟩
 have hs1 := b1.size
 clear B1 HT
 go_loopg [9] 8 (fun kx i wr => ∃ (k : Nat), i = .int .i64 k /\ k <= 8 /\ kx = 8 - k /\ Below w1.heap.size w1 wr /\ Hid (∀ j x, j < k -> rlC[j]? = some x -> x.ap p = false))
 case atStart => exact ⟨0, rfl, by omega, by omega, xas, xaa fun j x h => absurd h (by omega)⟩
 case round =>
  obtain ⟨k, rfl, hk, rfl, bel, HN⟩ := hrel
  by_cases hlt : k < 8
  ·obtain ⟨x, hx⟩ : ∃ x, rlC[k]? = some x := ⟨_, xac (show k < rlC.length from hlt)⟩
   obtain ⟨kT, kP⟩ := HK.out wr bel
   have L : qar wr ⟨T, k * 2, none⟩ (rwC x.num x.f) := kT.part (k * 2) (qti k x hx)
   have hok := rlC_ok x (xav hx)
   obtain ⟨q, hq⟩ : ∃ q, x.ap p = q := ⟨_, rfl⟩
   have HC : Hid (∀ W, Calls Tryz.prog x.f #[.agg (pcA p)] W fun e w' => e = .returned (.bool q) /\ Below W.heap.size W w') := xaa fun W => by rw [<- hq]; exact hok.calls p W
   have hen := hok.enters
   have HQ : Hid (q = true -> r = x.num) := xaa fun h => by rw [<- HR.out]; exact qr0 p HN.out hx (hq.trans h)
   have HQ0 : Hid (q = false -> ∀ j x, j < k + 1 -> rlC[j]? = some x -> x.ap p = false) := xaa fun h => lookC HN.out hx (hq.trans h)
   generalize x.f = f at *
   generalize x.num = n at *
   have hkz : (k : Int) < 8 := by omega
   clear hok hx hq kT kP
   go_wp2_with (first
    | (refine ldRwC (o := ⟨some 13, _, _, _, _, _⟩) rfl (.tmp 12) rfl _ rfl n f L ?_)
    | (refine nwRwC (o1 := ⟨some 6, _, _, _, _, _⟩) rfl rfl 6 rfl rfl (.tmp 13) rfl rfl n f (fun _ => rfl) (fun _ => rfl) ?_; intro w4 b4 B4; refine Mk.out ?_))
   constructor
   have bel4 := bel.trans (b4.mono bel.size)
   obtain ⟨kT, kP⟩ := HK.out w4 bel4
   have n1 : w4.cell? ⟨wr.heap.size, 1, none⟩ = some (.func (.func f) #[] #[]) := B4.cell 1
   have LP := kP.lies
   clear L kT
   go_wp2_with (refine ldPc (o := ⟨some 16, _, _, _, _, _⟩) rfl (.tmp 3) rfl _ rfl p LP ?_)
   refine (HC.out _).mono ?_
   rintro e w5 ⟨rfl, b5⟩
   have bel5 := bel4.trans (b5.mono bel4.size)
   have B5 := B4.kb b5
   have n0 : w5.cell? ⟨wr.heap.size, 0, none⟩ = some (.int .u8 n) := B5.cell 0
   clear LP n1 kP hen
   cases q
   ·go_wp2_with fail
    go_roundg (8 - (k + 1))
    case measure => omega
    case rel => exact ⟨k + 1, by go_num, by omega, by first | rfl | trivial, bel5, xaa (HQ0.out (by first | rfl | trivial))⟩
   ·obtain rfl := HQ.out rfl
    go_wp2_with fail
    go_ret
    exact ⟨rfl, xaq b1 bel5⟩
  ·obtain rfl : k = 8 := by omega
   exact absurd (show true = false from HN.out 7 _ (by omega) rfl) (by decide)
end
section
open Wh (Cr)
open Ch
def r64 (l : List Int) : List Value := l.map (Value.int .i64)
theorem qig (l : List Int) : (r64 l).length = l.length := by simp [r64]
theorem qw9 {l : List Int} {k : Nat} {x : Int} (h : l[k]? = some x) : (r64 l)[k]? = some (.int .i64 x) := by simp [r64, h]
abbrev RI (w : World) (v : Value) (l : List Int) : Prop := Row (fun _ => False) w v (r64 l)
theorem at_ {α : Type} {l : List α} {k : Nat} (h : k < l.length) : ∃ x, l[k]? = some x := ⟨_, xac h⟩
theorem qgb {w : World} {g o : Nat} {cs : Array Value} (h : qar w ⟨g, o, none⟩ cs) (j : Nat) {v : Value} (hv : cs[j]? = some v) : w.cell? ⟨g, o + j, none⟩ = some v := by
 have h1 := h j v hv
 have e : (⟨g, o, none⟩ : Addr).add j = ⟨g, o + j, none⟩ := by unfold Addr.add; split <;> simp_all
 rwa [e] at h1
def okUp (n : Nat) (l : List Cr) (rs : List Int) (k : Nat) : Prop := ∀ i c r, i < k -> l[i]? = some c -> rs[i]? = some r -> okC n c = true /\ (0 < i -> okR n r = true)
theorem qjs {n : Nat} {l : List Cr} {rs : List Int} {k : Nat} {c : Cr} {r : Int} (h : okUp n l rs k) (hc : l[k]? = some c) (hr : rs[k]? = some r) (h1 : okC n c = true) (h2 : 0 < k -> okR n r = true) : okUp n l rs (k + 1) := fun i d q hi hd hq => by
 by_cases e : i = k
 ·subst e
  rw [hc] at hd
  rw [hr] at hq
  cases hd
  cases hq
  exact ⟨h1, h2⟩
 ·exact h i d q (by omega) hd hq
theorem qu3 {n : Nat} {l : List Cr} {rs : List Int} (hl : l.length = rs.length) (h : okUp n l rs l.length) : mayC l n rs = true := by
 unfold mayC
 simp only [Bool.and_eq_true, decide_eq_true_eq]
 refine ⟨⟨hl, List.all_eq_true.2 fun c hc => ?_⟩, List.all_eq_true.2 fun r hr => ?_⟩
 ·obtain ⟨i, hi⟩ := List.getElem?_of_mem hc
  have hil := (xah hi).1
  obtain ⟨r, hr⟩ := at_ (l := rs) (k := i) (by omega)
  exact (h i c r hil hi hr).1
 ·obtain ⟨i, hi⟩ := List.getElem?_of_mem hr
  rw [List.getElem?_drop] at hi
  have hil := (xah hi).1
  obtain ⟨c, hc⟩ := at_ (l := l) (k := 1 + i) (by omega)
  exact (h (1 + i) c r (by omega) hc hi).2 (by omega)
theorem qzq {n : Nat} {l : List Cr} {rs : List Int} (hl : ¬ l.length = rs.length) : mayC l n rs = false := by
 unfold mayC
 rw [decide_eq_false hl]
 rfl
theorem qmk {n : Nat} {l : List Cr} {rs : List Int} {k : Nat} {c : Cr} (hc : l[k]? = some c) (h : okC n c = false) : mayC l n rs = false := by
 unfold mayC
 have e : l.all (okC n) = false := by
  rw [Bool.eq_false_iff]
  intro h2
  rw [xam h2 c (xav hc)] at h
  cases h
 rw [e]
 simp
theorem qu5 {n : Nat} {l : List Cr} {rs : List Int} {k : Nat} {r : Int} (h0 : 0 < k) (hr : rs[k]? = some r) (h : okR n r = false) : mayC l n rs = false := by
 unfold mayC
 have e : (rs.drop 1).all (okR n) = false := by
  rw [Bool.eq_false_iff]
  intro h2
  obtain ⟨j, rfl⟩ : ∃ j, k = j + 1 := ⟨k - 1, by omega⟩
  rw [xam h2 r (xav (i := j) (by rw [List.getElem?_drop, Nat.add_comm]; exact hr))] at h
  cases h
 rw [e]
 simp
theorem okC_is {n : Nat} {c : Cr} (h0 : 0 <= c.node) (h1 : c.node < (n : Int)) (h2 : c.kind <= 6) : okC n c = true := by simp [okC, h0, h1, h2]
theorem quz {n : Nat} {c : Cr} (h : ¬ c.kind <= 6) : okC n c = false := by simp [okC, h]
theorem qxe {n : Nat} {c : Cr} (h : okR n c.node = true) (h2 : c.kind <= 6) : okC n c = true := by
 unfold okR at h
 simp only [Bool.and_eq_true, decide_eq_true_eq] at h
 exact okC_is h.1 h.2 h2
theorem qzk {n : Nat} {c : Cr} (h : okR n c.node = false) : okC n c = false := by
 unfold okR at h
 unfold okC
 rw [h]
 rfl
theorem qke (i : Int) (n : Nat) (w : World) :
 Calls Tryz.prog 83 #[.int .i64 i, .int .i64 (n : Int)] w fun e w' => e = .returned (.bool (okR n i)) /\ w' = w := by
 go_enter Tryz.func83, Tryz.ntmps83
 by_cases h0 : 0 <= i
 ·go_wp2_with fail
  go_ret
  exact ⟨qak (by simp [okR, h0]), rfl⟩
 ·go_wp2_with fail
  go_ret
  exact ⟨qak (by simp [okR]; omega), rfl⟩
theorem qgm (l : List Cr) (n : Nat) (rs : List Int) (v vr : Value) (w : World) (hR : RwC w v l) (hI : RI w vr rs) (hlen : l.length <= 1048576) :
 Calls Tryz.prog 40 #[v, .int .i64 (n : Int), vr] w fun e w' => e = .returned (.bool (mayC l n rs)) /\ Below w.heap.size w w' := by
 have HR := xaa hR
 have HI := xaa hI
 obtain ⟨A, cap, rfl⟩ := hR.form
 obtain ⟨A2, cap2, rfl⟩ := hI.form
 obtain ⟨m, hm⟩ : ∃ m, l.length = m := ⟨_, rfl⟩
 obtain ⟨m2, hm2⟩ : ∃ m, rs.length = m := ⟨_, rfl⟩
 have HM := xaa hm
 have HM2 := xaa hm2
 obtain ⟨q, hq⟩ : ∃ q, mayC l n rs = q := ⟨_, rfl⟩
 have HQ := xaa hq
 rw [hq]
 rw [qig, hm2] at HI |-
 rw [hm] at hlen HR |-
 clear hR hI hm hm2 hq
 go_enter Tryz.func40, Tryz.ntmps40
 by_cases hmm : m2 = m
 rotate_left
 ·have hz : ¬ (m2 : Int) = m := by omega
  go_wp2_with fail
  go_ret
  exact ⟨qak (by rw [<- HQ.out, qzq (by rw [HM.out, HM2.out]; omega)]), xas⟩
 subst hmm
 go_wp2_with fail
 go_loopg [16] m2 (fun kx i wr => ∃ (k : Nat), i = .int .i64 k /\ k <= m2 /\ kx = m2 - k /\ Below w.heap.size w wr /\ Hid (okUp n l rs k))
 case atStart => exact ⟨0, rfl, by omega, by omega, xas, xaa fun i _ _ h => absurd h (by omega)⟩
 case round =>
  obtain ⟨k, rfl, hk, rfl, bel, HK⟩ := hrel
  by_cases hlt : k < m2
  ·obtain ⟨c, hc⟩ := at_ (l := l) (k := k) (by rw [HM.out]; exact hlt)
   obtain ⟨r, hr⟩ := at_ (l := rs) (k := k) (by rw [HM2.out]; exact hlt)
   obtain ⟨ad, cp, o, hv, hab, ha, hLi⟩ := HR.out.get bel hc
   rw [HM.out] at hv
   injection hv with hv1 hv2 hv3
   subst hv1 hv3
   obtain ⟨a2, cp2, hv4, hab2, _, hcell⟩ := HI.out.at_ (by rw [qig, HM2.out]; omega)
   obtain rfl : A2 = some a2 := by injection hv4
   have hcz := (bel.cell (p := a2.add k) (by rw [qac]; exact hab2)).trans (hcell k _ (qw9 hr))
   have HCC := xaa hc
   have HRR := xaa hr
   have C1 : Hid (∀ W, Calls Tryz.prog 83 #[.int .i64 c.node, .int .i64 (n : Int)] W fun e w' => e = .returned (.bool (okR n c.node)) /\ w' = W) := xaa fun W => qke _ n W
   have C2 : Hid (∀ W, Calls Tryz.prog 83 #[.int .i64 r, .int .i64 (n : Int)] W fun e w' => e = .returned (.bool (okR n r)) /\ w' = W) := xaa fun W => qke _ n W
   obtain ⟨q1, hq1⟩ : ∃ q, okR n c.node = q := ⟨_, rfl⟩
   obtain ⟨q2, hq2⟩ : ∃ q, okR n r = q := ⟨_, rfl⟩
   have HQ1 := xaa hq1
   have HQ2 := xaa hq2
   rw [hq1] at C1
   rw [hq2] at C2
   obtain ⟨nd, hnd⟩ : ∃ x, c.node = x := ⟨_, rfl⟩
   obtain ⟨kd, hkd⟩ : ∃ x, c.kind = x := ⟨_, rfl⟩
   rw [hnd] at C1
   have HKD := xaa hkd
   have hkz : (k : Int) < m2 := by omega
   have hk4 : (5 : Nat) = 5 := rfl
   clear hv2 hv4 hcell hc hr hq1 hq2 hk4
   go_wp2_with (first
    | (refine ldC rfl (.tmp 19) rfl _ rfl c (by first | exact hLi | exact ha ▸ hLi) ?_)
    | (refine alCV rfl rfl ?_; intro w1 b1 B1)
    | (refine stC rfl (.tmp 8) (.tmp 20) rfl rfl _ rfl c rfl zCr B1 ?_; intro w2 m3 B2; refine Mk.out ?_))
   constructor
   have b2 : Below wr.heap.size wr w2 := b1.trans (m3.below b1.size fun k hk => by omega)
   have bel2 := bel.trans (b2.mono bel.size)
   have hcz2 := (b2.cell (p := a2.add k) (by rw [qac]; have := bel.size; omega)).trans hcz
   have c1 : w2.cell? ⟨wr.heap.size, 1, none⟩ = some (.int .i64 c.node) := B2.cell 1
   have c4 : w2.cell? ⟨wr.heap.size, 4, none⟩ = some (.int .u8 c.kind) := B2.cell 4
   rw [hnd] at c1
   rw [hkd] at c4
   clear hcz hLi b1 B1 m3 B2 b2 bel hnd hkd
   by_cases h6 : 6 < kd
   ·go_wp2_with fail
    go_ret
    exact ⟨qak (by rw [<- HQ.out, qmk HCC.out (quz (by rw [HKD.out]; omega))]), bel2⟩
   ·go_wp2_with fail
    refine (C1.out _).mono ?_
    rintro e w3 ⟨rfl, rfl⟩
    cases q1
    ·go_wp2_with fail
     go_ret
     exact ⟨qak (by rw [<- HQ.out, qmk HCC.out (qzk HQ1.out)]), bel2⟩
    ·by_cases h0 : 0 < k
     ·have h0z : (0 : Int) < k := by omega
      go_wp2_with fail
      refine (C2.out _).mono ?_
      rintro e w3 ⟨rfl, rfl⟩
      cases q2
      ·go_wp2_with fail
       go_ret
       exact ⟨qak (by rw [<- HQ.out, qu5 h0 HRR.out HQ2.out]), bel2⟩
      ·go_wp2_with fail
       go_roundg (m2 - (k + 1))
       case measure => omega
       case rel => exact ⟨k + 1, by go_num, by omega, by first | rfl | trivial, bel2, xaa (qjs HK.out HCC.out HRR.out (qxe HQ1.out (by rw [HKD.out]; omega)) fun _ => HQ2.out)⟩
     ·have h0z : ¬ (0 : Int) < k := by omega
      go_wp2_with fail
      go_roundg (m2 - (k + 1))
      case measure => omega
      case rel => exact ⟨k + 1, by go_num, by omega, by first | rfl | trivial, bel2, xaa (qjs HK.out HCC.out HRR.out (qxe HQ1.out (by rw [HKD.out]; omega)) fun h => absurd h h0)⟩
  ·obtain rfl : k = m2 := by omega
   go_wp2_with fail
   go_ret
   exact ⟨qak (by rw [<- HQ.out, qu3 (by rw [HM.out, HM2.out]) (by rw [HM.out]; exact HK.out)]), bel⟩
end
end Go.Proofs.YtmceblkjbpbcoaaGreatDoor
