/- Contracts of pair's second rule (a region that draws its order), of place.next, and of the table of rules. No conditions. -/
import Derived.Test.YtnoenccpbbkdeaaPr2
import Derived.Test.YtnoenccpbbkdeaaGK
import Derived.Shelf.Abstract
namespace Go.Proofs.Ytnoenccpbbkdeaa
open Go.ChangeShapes Go.WideShapes Go.ChangeAt Go.RowKit

def ap2 (p : Plc) : Bool := has [2, 3, 4] p.a
def en2 (p : Plc) : Bool := !(decide (p.a = 2) && has [3] p.b)
theorem bs234 (w : World) : (Instr.buildSlice 29 3 #[(0, .int .u8 2), (1, .int .u8 3), (2, .int .u8 4)]).run Try.prog w = .ok (.slice (some ⟨w.heap.size, 0, none⟩) 3 3) (w.alloc (.cells (r8 [2, 3, 4]).toArray 5)) := by kernel_rfl
theorem bs3 (w : World) : (Instr.buildSlice 29 1 #[(0, .int .u8 3)]).run Try.prog w = .ok (.slice (some ⟨w.heap.size, 0, none⟩) 1 1) (w.alloc (.cells (r8 [3]).toArray 5)) := by kernel_rfl

/-- what an operation hands back: a value, or a literal of numbers -/
inductive Kl
  | val (v : Value)
  | lit (l : List Int)
def Kl.holds : Kl → Value → World → Prop
  | .val v, u, _ => u = v
  | .lit l, u, W => R8 W u l
theorem Kl.below {k : Kl} {u : Value} {w w' : World} (h : k.holds u w) (b : Below w.heap.size w w') : k.holds u w' := by
  cases k with
  | val v => exact h
  | lit l =>
    have h1 : R8 w u l := h
    exact Row.below h1 b
def kl2 (g : Nat) (p : Plc) (q q2 : Bool) (i : Nat) : Kl :=
  ([.val (.pointer (some ⟨g, 0, none⟩)), .val (.int .u8 p.a), .lit [2, 3, 4], .val (.bool q), .val (.agg (plC p)), .lit [3], .val (.bool q2), .val (.bool (!q2)), .val (.bool q), .val (.bool (!q2))] : List Kl).getD i (.val undef)

set_option maxRecDepth 100000 in
set_option maxHeartbeats 4000000 in
theorem pr2_any (p : Plc) (w : World) :
    Calls Try.prog 62 #[.agg (plC p)] w fun e w' => e = .returned (.tuple #[.bool (ap2 p), .bool (en2 p)]) ∧ Below w.heap.size w w' := by
  obtain ⟨q, hq⟩ : ∃ q, ap2 p = q := ⟨_, rfl⟩
  obtain ⟨q2, hq2⟩ : ∃ q, (decide (p.a = 2) && has [3] p.b) = q := ⟨_, rfl⟩
  have hen : en2 p = !q2 := by unfold en2; rw [hq2]
  rw [hq, hen]
  have C1 : Hid (∀ W v, R8 W v [2, 3, 4] → Calls Try.prog 63 #[.int .u8 p.a, v] W fun e W' => e = .returned (.bool q) ∧ W' = W) := Lib.hid fun W v h => by rw [← hq]; exact pin_any v _ _ W h (by decide)
  have C2 : Hid (∀ W v, R8 W v [3] → Calls Try.prog 64 #[.agg (plC p), .int .u8 2, v] W fun e W' => e = .returned (.bool q2) ∧ Below W.heap.size W W') := Lib.hid fun W v h => by rw [← hq2]; exact pof_any v _ _ _ _ _ _ W h (by decide)
  clear hq hq2 hen
  go_enter Try.func62, Try.ntmps62
  go_wp2_with (refine bxPV rfl (.tmp 0) rfl p rfl ?_; intro w1 b1 B1; refine Mk.out ?_)
  constructor
  go_wp2_with fail
  have HB := Lib.hid B1
  refine region_P2 (by kernel_rfl) (fun W => Below w1.heap.size w1 W) (fun _ _ h b => below_seq h b) (fun i u W => (kl2 w.heap.size p q q2 i).holds u W) (fun _ _ _ _ h b => Kl.below h b) (below_drewN (Below.refl _ _) 1) (by kernel_rfl) (by kernel_rfl) (by kernel_rfl) (by kernel_rfl) ?step ?done
  case step =>
    intro us W hSW i o ho hD
    have B := HB.out.keep (S := fun _ => False) (Mod.of_below hSW) id
    have c0 : W.cell? ⟨w.heap.size, 0, none⟩ = some (.int .u8 p.a) := B.cell 0
    have L := B.lies
    simp only [putAll, Act.put, List.setIfInBounds_toArray, List.set_cons_zero, List.set_cons_succ]
    match i, ho with
    | 0, ho =>
      simp only [List.getElem?_toArray, List.getElem?_cons_zero, Option.some.injEq] at ho
      subst ho
      exact .inl ⟨wanted_none rfl _, .inl ⟨_, W, (by go_simp), Below.refl _ _, rfl⟩⟩
    | 1, ho =>
      simp only [List.getElem?_toArray, List.getElem?_cons_zero, List.getElem?_cons_succ, Option.some.injEq] at ho
      subst ho
      have h0 : us 0 = .pointer (some ⟨w.heap.size, 0, none⟩) := hD 0 (by kernel_rfl)
      rw [h0]
      exact .inl ⟨wanted_none rfl _, .inl ⟨.int .u8 p.a, W, (by go_simp), Below.refl _ _, rfl⟩⟩
    | 2, ho =>
      simp only [List.getElem?_toArray, List.getElem?_cons_zero, List.getElem?_cons_succ, Option.some.injEq] at ho
      subst ho
      exact .inl ⟨wanted_none rfl _, .inl ⟨.slice (some ⟨W.heap.size, 0, none⟩) 3 3, W.alloc (.cells (r8 [2, 3, 4]).toArray 5), by go_simp; rfl, below_alloc _ _, r8_lit W [2, 3, 4] _ 3 _ rfl rfl⟩⟩
    | 3, ho =>
      simp only [List.getElem?_toArray, List.getElem?_cons_zero, List.getElem?_cons_succ, Option.some.injEq] at ho
      subst ho
      have h1 : us 1 = .int .u8 p.a := hD 1 (by kernel_rfl)
      have h2 : R8 W (us 2) [2, 3, 4] := hD 2 (by kernel_rfl)
      rw [h1]
      generalize us 2 = v at h2 ⊢
      refine .inl ⟨wanted_none rfl _, .inr ⟨_, _, (by go_simp), (C1.out W v h2).mono ?_⟩⟩
      rintro e W' ⟨rfl, rfl⟩
      exact ⟨_, rfl, Below.refl _ _, rfl⟩
    | 4, ho =>
      simp only [List.getElem?_toArray, List.getElem?_cons_zero, List.getElem?_cons_succ, Option.some.injEq] at ho
      subst ho
      exact .inl ⟨wanted_none rfl _, .inl ⟨_, W, rdP (.tmp 1) rfl _ rfl p L, Below.refl _ _, rfl⟩⟩
    | 5, ho =>
      simp only [List.getElem?_toArray, List.getElem?_cons_zero, List.getElem?_cons_succ, Option.some.injEq] at ho
      subst ho
      exact .inl ⟨wanted_none rfl _, .inl ⟨.slice (some ⟨W.heap.size, 0, none⟩) 1 1, W.alloc (.cells (r8 [3]).toArray 5), by go_simp; rfl, below_alloc _ _, r8_lit W [3] _ 1 _ rfl rfl⟩⟩
    | 6, ho =>
      simp only [List.getElem?_toArray, List.getElem?_cons_zero, List.getElem?_cons_succ, Option.some.injEq] at ho
      subst ho
      have h1 : us 4 = .agg (plC p) := hD 4 (by kernel_rfl)
      have h2 : R8 W (us 5) [3] := hD 5 (by kernel_rfl)
      rw [h1]
      generalize us 5 = v at h2 ⊢
      refine .inl ⟨wanted_none rfl _, .inr ⟨_, _, (by go_simp), (C2.out W v h2).mono ?_⟩⟩
      rintro e W' ⟨rfl, b⟩
      exact ⟨_, rfl, b, rfl⟩
    | 7, ho =>
      simp only [List.getElem?_toArray, List.getElem?_cons_zero, List.getElem?_cons_succ, Option.some.injEq] at ho
      subst ho
      have h1 : us 6 = .bool q2 := hD 6 (by kernel_rfl)
      rw [h1]
      exact .inl ⟨wanted_none rfl _, .inl ⟨.bool (!q2), W, (by go_simp), Below.refl _ _, rfl⟩⟩
    | 8, ho =>
      simp only [List.getElem?_toArray, List.getElem?_cons_zero, List.getElem?_cons_succ, Option.some.injEq] at ho
      subst ho
      have h1 : us 3 = .bool q := hD 3 (by kernel_rfl)
      rw [h1]
      exact .inl ⟨wanted_none rfl _, .inl ⟨_, W, (by go_simp), Below.refl _ _, rfl⟩⟩
    | 9, ho =>
      simp only [List.getElem?_toArray, List.getElem?_cons_zero, List.getElem?_cons_succ, Option.some.injEq] at ho
      subst ho
      have h1 : us 7 = .bool (!q2) := hD 7 (by kernel_rfl)
      rw [h1]
      exact .inl ⟨wanted_none rfl _, .inl ⟨_, W, (by go_simp), Below.refl _ _, rfl⟩⟩
    | n + 10, ho => simp at ho
  case done =>
    intro us W hSW hD
    have h8 : us 8 = .bool q := hD 8 (by decide)
    have h9 : us 9 = .bool (!q2) := hD 9 (by decide)
    simp only [putAll, Act.put, List.setIfInBounds_toArray, List.set_cons_zero, List.set_cons_succ]
    rw [h8, h9]
    go_wp2_with fail
    go_ret2
    exact ⟨rfl, below_seq b1 hSW⟩
end Go.Proofs.Ytnoenccpbbkdeaa

/- Contract of pair's place.next. No conditions. -/
namespace Go.Proofs.Ytnoenccpbbkdeaa
open Go.ChangeShapes Go.WideShapes Go.ChangeAt Go.RowKit

theorem Blk.set_other {w : World} {g : Nat} {t : TypeId} {cs : Array Value} (h : Blk w g t cs) {p : Addr} (hp : g ≠ p.block) (v : Value) : Blk (w.setCell p v) g t cs :=
  h.keep (S := fun k => k = p.block) (Mod.setCell (S := fun k => k = p.block) (Mod.refl _ _) (.inl rfl) v) hp
theorem blk_castP {w : World} {g : Nat} {t : TypeId} {cs cs' : Array Value} (h : Blk w g t cs) (e : cs = cs') : Blk w g t cs' := e ▸ h
def nxP (p : Plc) (c : Int) : Plc := ⟨p.b, (cntI c p.b).1, if p.b = 5 then p.o else p.b, (cntI c p.b).2⟩

set_option maxRecDepth 100000 in
set_option maxHeartbeats 4000000 in
theorem pnext_any (p : Plc) (c : Int) (w : World) :
    Calls Try.prog 88 #[.agg (plC p), .int .u8 c] w fun e w' => e = .returned (.agg (plC (nxP p c))) ∧ Below w.heap.size w w' := by
  obtain ⟨a, b, o, cl⟩ := p
  have C : Hid (∀ w, Calls Try.prog 91 #[.int .u8 c, .int .u8 b] w fun e w' => e = .returned (.tuple #[.int .u8 (cntI c b).1, .bool (cntI c b).2]) ∧ w' = w) := Lib.hid fun w => pcounts_any c b w
  obtain ⟨d, hd⟩ : ∃ d, cntI c b = d := ⟨_, rfl⟩
  obtain ⟨d1, d2⟩ := d
  have e : nxP ⟨a, b, o, cl⟩ c = ⟨b, d1, if b = 5 then o else b, d2⟩ := by unfold nxP; rw [hd]
  rw [e]
  rw [hd] at C
  clear hd e
  go_enter Try.func88, Try.ntmps88
  go_wp2_with (first
    | (refine bxPV rfl (.tmp 0) rfl ⟨a, b, o, cl⟩ rfl ?_; intro w1 b1 B1)
    | (refine alPV rfl rfl ?_; intro w2 b2 B2; refine Mk.out ?_))
  constructor
  have B1' := B1.keep (S := fun _ => False) (Mod.of_below b2) id
  have c1 : w2.cell? ⟨w.heap.size, 1, none⟩ = some (.int .u8 b) := B1'.cell 1
  go_wp2_with (refine nwP (o1 := ⟨some 5, _, _, _, _, _⟩) rfl rfl 5 rfl rfl (.tmp 10) rfl rfl ⟨b, 0, b, false⟩ (fun _ => rfl) (fun _ => rfl) ?_; intro w3 b3 B3; refine Mk.out ?_)
  constructor
  have B1'' := B1'.keep (S := fun _ => False) (Mod.of_below b3) id
  have B2' := B2.keep (S := fun _ => False) (Mod.of_below b3) id
  have l1 := b1.size
  have l2 := B2.lt
  have l2' := b2.size
  have l3 := B3.lt
  have b03 := below_seq b1 (below_seq b2 b3)
  clear c1 B1 B2 B1'
  have c1 : w3.cell? ⟨w.heap.size, 1, none⟩ = some (.int .u8 b) := B1''.cell 1
  have c2 : w3.cell? ⟨w.heap.size, 2, none⟩ = some (.int .u8 o) := B1''.cell 2
  by_cases h5 : b = 5
  · subst h5
    have n2 : w3.cell? ⟨w2.heap.size, 2, none⟩ = some (.int .u8 5) := B3.cell 2
    have f2 := B3.frozen 2
    go_wp2_with fail
    have B4 := blk_castP (B3.set_ 2 (.int .u8 o)) (show _ = plC ⟨5, 0, o, false⟩ from rfl)
    have B5 := B2'.set_other (p := ⟨w2.heap.size, 2, none⟩) (by show w1.heap.size ≠ w2.heap.size; omega) (.int .u8 o)
    have b4 : Below w.heap.size w (w3.setCell ⟨w2.heap.size, 2, none⟩ (.int .u8 o)) := b03.setCell (by show w.heap.size ≤ w2.heap.size; omega) _
    have B6 := B1''.set_other (p := ⟨w2.heap.size, 2, none⟩) (by show w.heap.size ≠ w2.heap.size; omega) (.int .u8 o)
    obtain ⟨w4, hw4⟩ : ∃ w4, w3.setCell ⟨w2.heap.size, 2, none⟩ (.int .u8 o) = w4 := ⟨_, rfl⟩
    rw [hw4] at B4 B5 B6 b4 ⊢
    clear hw4
    have c1' : w4.cell? ⟨w.heap.size, 1, none⟩ = some (.int .u8 5) := B6.cell 1
    clear c1 c2 n2 f2
    have n1 : w4.cell? ⟨w2.heap.size, 1, none⟩ = some (.int .u8 0) := B4.cell 1
    have f1 := B4.frozen 1
    go_wp2_with fail
    refine (C.out _).mono ?_
    rintro e w5 ⟨rfl, rfl⟩
    clear C
    have n3 : (w5.setCell ⟨w2.heap.size, 1, none⟩ (.int .u8 d1)).cell? ⟨w2.heap.size, 3, none⟩ = some (.bool false) := (B4.set_ 1 (.int .u8 d1)).cell 3
    have f3 := (B4.set_ 1 (.int .u8 d1)).frozen 3
    have B7 := blk_castP ((B4.set_ 1 (.int .u8 d1)).set_ 3 (.bool d2)) (show _ = plC ⟨5, d1, o, d2⟩ from rfl)
    have B8 := (B5.set_other (p := ⟨w2.heap.size, 1, none⟩) (by show w1.heap.size ≠ w2.heap.size; omega) (.int .u8 d1)).set_other (p := ⟨w2.heap.size, 3, none⟩) (by show w1.heap.size ≠ w2.heap.size; omega) (.bool d2)
    have b7 := (b4.setCell (p := ⟨w2.heap.size, 1, none⟩) (by show w.heap.size ≤ w2.heap.size; omega) (.int .u8 d1)).setCell (p := ⟨w2.heap.size, 3, none⟩) (by show w.heap.size ≤ w2.heap.size; omega) (.bool d2)
    go_wp2_with (refine ldP (o := ⟨some 26, _, _, _, _, _⟩) rfl (.tmp 5) rfl _ rfl ⟨5, d1, o, d2⟩ B7.lies ?_; refine stP rfl (.tmp 4) (.tmp 26) rfl rfl _ rfl ⟨5, d1, o, d2⟩ rfl zPl B8 ?_; intro w6 m6 B9)
    refine bodyPost_ret (v := .agg (plC ⟨5, d1, o, d2⟩)) (res_row rfl _ _ w1.heap.size 100 _ _ rfl B9 uP rfl (iP _)) rfl ⟨?_, b7.trans (m6.below b7.size fun k hk => by omega)⟩
    rfl
  · obtain ⟨w4, hw4⟩ : ∃ w4, w3 = w4 := ⟨_, rfl⟩
    have B4 := B3
    have b4 := b03
    have B5 := B2'
    have c1' := c1
    rw [hw4] at B4 B5 b4 c1' ⊢
    clear hw4 c1 c2
    have n1 : w4.cell? ⟨w2.heap.size, 1, none⟩ = some (.int .u8 0) := B4.cell 1
    have f1 := B4.frozen 1
    go_wp2_with fail
    refine (C.out _).mono ?_
    rintro e w5 ⟨rfl, rfl⟩
    clear C
    have n3 : (w5.setCell ⟨w2.heap.size, 1, none⟩ (.int .u8 d1)).cell? ⟨w2.heap.size, 3, none⟩ = some (.bool false) := (B4.set_ 1 (.int .u8 d1)).cell 3
    have f3 := (B4.set_ 1 (.int .u8 d1)).frozen 3
    have B7 := blk_castP ((B4.set_ 1 (.int .u8 d1)).set_ 3 (.bool d2)) (show _ = plC ⟨b, d1, b, d2⟩ from rfl)
    have B8 := (B5.set_other (p := ⟨w2.heap.size, 1, none⟩) (by show w1.heap.size ≠ w2.heap.size; omega) (.int .u8 d1)).set_other (p := ⟨w2.heap.size, 3, none⟩) (by show w1.heap.size ≠ w2.heap.size; omega) (.bool d2)
    have b7 := (b4.setCell (p := ⟨w2.heap.size, 1, none⟩) (by show w.heap.size ≤ w2.heap.size; omega) (.int .u8 d1)).setCell (p := ⟨w2.heap.size, 3, none⟩) (by show w.heap.size ≤ w2.heap.size; omega) (.bool d2)
    go_wp2_with (refine ldP (o := ⟨some 26, _, _, _, _, _⟩) rfl (.tmp 5) rfl _ rfl ⟨b, d1, b, d2⟩ B7.lies ?_; refine stP rfl (.tmp 4) (.tmp 26) rfl rfl _ rfl ⟨b, d1, b, d2⟩ rfl zPl B8 ?_; intro w6 m6 B9)
    refine bodyPost_ret (v := .agg (plC ⟨b, d1, b, d2⟩)) (res_row rfl _ _ w1.heap.size 100 _ _ rfl B9 uP rfl (iP _)) rfl ⟨?_, b7.trans (m6.below b7.size fun k hk => by omega)⟩
    simp
end Go.Proofs.Ytnoenccpbbkdeaa

/- Contracts of pair's rules (the table, made anew) and of first (the first rule that applies, through a pointer to the table). Conditions: the table lies at the pointer. -/
namespace Go.Proofs.Ytnoenccpbbkdeaa
open Go.ChangeShapes Go.WideShapes Go.ChangeAt Go.RowKit Go.Shelf

def ap24 (_ : Plc) : Bool := true
def ruC (n : Int) (f : Nat) : Array Value := #[.int .u8 n, .func (.func f) #[] #[]]
structure Ru where
  num : Int
  f : Nat
  ap : Plc → Bool
  en : Plc → Bool

def rl : List Ru := [⟨4, 61, ap1, fun _ => true⟩, ⟨5, 62, ap2, en2⟩, ⟨6, 65, ap3, fun _ => false⟩, ⟨7, 66, ap4, fun _ => false⟩, ⟨8, 67, ap5, fun _ => true⟩, ⟨9, 68, ap6, fun _ => false⟩, ⟨11, 69, ap7, fun _ => false⟩, ⟨12, 70, ap8, fun _ => false⟩, ⟨13, 71, ap9, fun _ => false⟩, ⟨14, 72, ap10, fun _ => false⟩, ⟨15, 73, ap11, fun _ => false⟩, ⟨16, 74, ap12, fun _ => false⟩, ⟨17, 75, ap13, fun _ => false⟩, ⟨18, 76, ap14, fun _ => true⟩, ⟨19, 77, ap15, fun _ => false⟩, ⟨20, 78, ap16, fun _ => true⟩, ⟨21, 79, ap17, fun _ => false⟩, ⟨22, 80, ap18, fun _ => false⟩, ⟨23, 81, ap19, fun _ => false⟩, ⟨24, 82, ap20, fun _ => false⟩, ⟨25, 83, ap21, fun _ => false⟩, ⟨28, 84, ap22, fun _ => false⟩, ⟨29, 85, ap23, fun _ => false⟩, ⟨31, 86, ap24, fun _ => true⟩]

def tblV : Array Value := #[.int .u8 4, .func (.func 61) #[] #[], .int .u8 5, .func (.func 62) #[] #[], .int .u8 6, .func (.func 65) #[] #[], .int .u8 7, .func (.func 66) #[] #[], .int .u8 8, .func (.func 67) #[] #[], .int .u8 9, .func (.func 68) #[] #[], .int .u8 11, .func (.func 69) #[] #[], .int .u8 12, .func (.func 70) #[] #[], .int .u8 13, .func (.func 71) #[] #[], .int .u8 14, .func (.func 72) #[] #[], .int .u8 15, .func (.func 73) #[] #[], .int .u8 16, .func (.func 74) #[] #[], .int .u8 17, .func (.func 75) #[] #[], .int .u8 18, .func (.func 76) #[] #[], .int .u8 19, .func (.func 77) #[] #[], .int .u8 20, .func (.func 78) #[] #[], .int .u8 21, .func (.func 79) #[] #[], .int .u8 22, .func (.func 80) #[] #[], .int .u8 23, .func (.func 81) #[] #[], .int .u8 24, .func (.func 82) #[] #[], .int .u8 25, .func (.func 83) #[] #[], .int .u8 28, .func (.func 84) #[] #[], .int .u8 29, .func (.func 85) #[] #[], .int .u8 31, .func (.func 86) #[] #[]]

def zTb : Array Value := #[.int .u8 0, .nilFunc, .int .u8 0, .nilFunc, .int .u8 0, .nilFunc, .int .u8 0, .nilFunc, .int .u8 0, .nilFunc, .int .u8 0, .nilFunc, .int .u8 0, .nilFunc, .int .u8 0, .nilFunc, .int .u8 0, .nilFunc, .int .u8 0, .nilFunc, .int .u8 0, .nilFunc, .int .u8 0, .nilFunc, .int .u8 0, .nilFunc, .int .u8 0, .nilFunc, .int .u8 0, .nilFunc, .int .u8 0, .nilFunc, .int .u8 0, .nilFunc, .int .u8 0, .nilFunc, .int .u8 0, .nilFunc, .int .u8 0, .nilFunc, .int .u8 0, .nilFunc, .int .u8 0, .nilFunc, .int .u8 0, .nilFunc, .int .u8 0, .nilFunc]

theorem tbl_part : ∀ (k : Nat) (x : Ru), rl[k]? = some x → ∀ (j : Nat) (v : Value), (ruC x.num x.f)[j]? = some v → tblV[k * 2 + j]? = some v
  | 0, x, hx, j, v, hj => by
    have e : x = ⟨4, 61, ap1, fun _ => true⟩ := (Option.some.inj hx).symm
    subst e
    match j, hj with
    | 0, hj => exact hj
    | 1, hj => exact hj
    | j + 2, hj => simp [ruC] at hj
  | 1, x, hx, j, v, hj => by
    have e : x = ⟨5, 62, ap2, en2⟩ := (Option.some.inj hx).symm
    subst e
    match j, hj with
    | 0, hj => exact hj
    | 1, hj => exact hj
    | j + 2, hj => simp [ruC] at hj
  | 2, x, hx, j, v, hj => by
    have e : x = ⟨6, 65, ap3, fun _ => false⟩ := (Option.some.inj hx).symm
    subst e
    match j, hj with
    | 0, hj => exact hj
    | 1, hj => exact hj
    | j + 2, hj => simp [ruC] at hj
  | 3, x, hx, j, v, hj => by
    have e : x = ⟨7, 66, ap4, fun _ => false⟩ := (Option.some.inj hx).symm
    subst e
    match j, hj with
    | 0, hj => exact hj
    | 1, hj => exact hj
    | j + 2, hj => simp [ruC] at hj
  | 4, x, hx, j, v, hj => by
    have e : x = ⟨8, 67, ap5, fun _ => true⟩ := (Option.some.inj hx).symm
    subst e
    match j, hj with
    | 0, hj => exact hj
    | 1, hj => exact hj
    | j + 2, hj => simp [ruC] at hj
  | 5, x, hx, j, v, hj => by
    have e : x = ⟨9, 68, ap6, fun _ => false⟩ := (Option.some.inj hx).symm
    subst e
    match j, hj with
    | 0, hj => exact hj
    | 1, hj => exact hj
    | j + 2, hj => simp [ruC] at hj
  | 6, x, hx, j, v, hj => by
    have e : x = ⟨11, 69, ap7, fun _ => false⟩ := (Option.some.inj hx).symm
    subst e
    match j, hj with
    | 0, hj => exact hj
    | 1, hj => exact hj
    | j + 2, hj => simp [ruC] at hj
  | 7, x, hx, j, v, hj => by
    have e : x = ⟨12, 70, ap8, fun _ => false⟩ := (Option.some.inj hx).symm
    subst e
    match j, hj with
    | 0, hj => exact hj
    | 1, hj => exact hj
    | j + 2, hj => simp [ruC] at hj
  | 8, x, hx, j, v, hj => by
    have e : x = ⟨13, 71, ap9, fun _ => false⟩ := (Option.some.inj hx).symm
    subst e
    match j, hj with
    | 0, hj => exact hj
    | 1, hj => exact hj
    | j + 2, hj => simp [ruC] at hj
  | 9, x, hx, j, v, hj => by
    have e : x = ⟨14, 72, ap10, fun _ => false⟩ := (Option.some.inj hx).symm
    subst e
    match j, hj with
    | 0, hj => exact hj
    | 1, hj => exact hj
    | j + 2, hj => simp [ruC] at hj
  | 10, x, hx, j, v, hj => by
    have e : x = ⟨15, 73, ap11, fun _ => false⟩ := (Option.some.inj hx).symm
    subst e
    match j, hj with
    | 0, hj => exact hj
    | 1, hj => exact hj
    | j + 2, hj => simp [ruC] at hj
  | 11, x, hx, j, v, hj => by
    have e : x = ⟨16, 74, ap12, fun _ => false⟩ := (Option.some.inj hx).symm
    subst e
    match j, hj with
    | 0, hj => exact hj
    | 1, hj => exact hj
    | j + 2, hj => simp [ruC] at hj
  | 12, x, hx, j, v, hj => by
    have e : x = ⟨17, 75, ap13, fun _ => false⟩ := (Option.some.inj hx).symm
    subst e
    match j, hj with
    | 0, hj => exact hj
    | 1, hj => exact hj
    | j + 2, hj => simp [ruC] at hj
  | 13, x, hx, j, v, hj => by
    have e : x = ⟨18, 76, ap14, fun _ => true⟩ := (Option.some.inj hx).symm
    subst e
    match j, hj with
    | 0, hj => exact hj
    | 1, hj => exact hj
    | j + 2, hj => simp [ruC] at hj
  | 14, x, hx, j, v, hj => by
    have e : x = ⟨19, 77, ap15, fun _ => false⟩ := (Option.some.inj hx).symm
    subst e
    match j, hj with
    | 0, hj => exact hj
    | 1, hj => exact hj
    | j + 2, hj => simp [ruC] at hj
  | 15, x, hx, j, v, hj => by
    have e : x = ⟨20, 78, ap16, fun _ => true⟩ := (Option.some.inj hx).symm
    subst e
    match j, hj with
    | 0, hj => exact hj
    | 1, hj => exact hj
    | j + 2, hj => simp [ruC] at hj
  | 16, x, hx, j, v, hj => by
    have e : x = ⟨21, 79, ap17, fun _ => false⟩ := (Option.some.inj hx).symm
    subst e
    match j, hj with
    | 0, hj => exact hj
    | 1, hj => exact hj
    | j + 2, hj => simp [ruC] at hj
  | 17, x, hx, j, v, hj => by
    have e : x = ⟨22, 80, ap18, fun _ => false⟩ := (Option.some.inj hx).symm
    subst e
    match j, hj with
    | 0, hj => exact hj
    | 1, hj => exact hj
    | j + 2, hj => simp [ruC] at hj
  | 18, x, hx, j, v, hj => by
    have e : x = ⟨23, 81, ap19, fun _ => false⟩ := (Option.some.inj hx).symm
    subst e
    match j, hj with
    | 0, hj => exact hj
    | 1, hj => exact hj
    | j + 2, hj => simp [ruC] at hj
  | 19, x, hx, j, v, hj => by
    have e : x = ⟨24, 82, ap20, fun _ => false⟩ := (Option.some.inj hx).symm
    subst e
    match j, hj with
    | 0, hj => exact hj
    | 1, hj => exact hj
    | j + 2, hj => simp [ruC] at hj
  | 20, x, hx, j, v, hj => by
    have e : x = ⟨25, 83, ap21, fun _ => false⟩ := (Option.some.inj hx).symm
    subst e
    match j, hj with
    | 0, hj => exact hj
    | 1, hj => exact hj
    | j + 2, hj => simp [ruC] at hj
  | 21, x, hx, j, v, hj => by
    have e : x = ⟨28, 84, ap22, fun _ => false⟩ := (Option.some.inj hx).symm
    subst e
    match j, hj with
    | 0, hj => exact hj
    | 1, hj => exact hj
    | j + 2, hj => simp [ruC] at hj
  | 22, x, hx, j, v, hj => by
    have e : x = ⟨29, 85, ap23, fun _ => false⟩ := (Option.some.inj hx).symm
    subst e
    match j, hj with
    | 0, hj => exact hj
    | 1, hj => exact hj
    | j + 2, hj => simp [ruC] at hj
  | 23, x, hx, j, v, hj => by
    have e : x = ⟨31, 86, ap24, fun _ => true⟩ := (Option.some.inj hx).symm
    subst e
    match j, hj with
    | 0, hj => exact hj
    | 1, hj => exact hj
    | j + 2, hj => simp [ruC] at hj
  | k + 24, x, hx, _, _, _ => by simp [rl] at hx

/-- a rule's closure does what the rule says -/
structure RuOk (x : Ru) : Prop where
  enters : ∀ args w, (callFunc x.f args).run Try.prog w = .ok (.enter x.f args) w
  calls : ∀ p w, Calls Try.prog x.f #[.agg (plC p)] w fun e w' => e = .returned (.tuple #[.bool (x.ap p), .bool (x.en p)]) ∧ Below w.heap.size w w'
theorem rl_ok : ∀ x ∈ rl, RuOk x := by
  intro x hx
  simp only [rl, List.mem_cons, List.not_mem_nil, or_false] at hx
  rcases hx with rfl | rfl | rfl | rfl | rfl | rfl | rfl | rfl | rfl | rfl | rfl | rfl | rfl | rfl | rfl | rfl | rfl | rfl | rfl | rfl | rfl | rfl | rfl | rfl
  · exact ⟨enters_of Try.func61 (by kernel_rfl) rfl, pr1_any⟩
  · exact ⟨enters_of Try.func62 (by kernel_rfl) rfl, pr2_any⟩
  · exact ⟨enters_of Try.func65 (by kernel_rfl) rfl, pr3_any⟩
  · exact ⟨enters_of Try.func66 (by kernel_rfl) rfl, pr4_any⟩
  · exact ⟨enters_of Try.func67 (by kernel_rfl) rfl, pr5_any⟩
  · exact ⟨enters_of Try.func68 (by kernel_rfl) rfl, pr6_any⟩
  · exact ⟨enters_of Try.func69 (by kernel_rfl) rfl, pr7_any⟩
  · exact ⟨enters_of Try.func70 (by kernel_rfl) rfl, pr8_any⟩
  · exact ⟨enters_of Try.func71 (by kernel_rfl) rfl, pr9_any⟩
  · exact ⟨enters_of Try.func72 (by kernel_rfl) rfl, pr10_any⟩
  · exact ⟨enters_of Try.func73 (by kernel_rfl) rfl, pr11_any⟩
  · exact ⟨enters_of Try.func74 (by kernel_rfl) rfl, pr12_any⟩
  · exact ⟨enters_of Try.func75 (by kernel_rfl) rfl, pr13_any⟩
  · exact ⟨enters_of Try.func76 (by kernel_rfl) rfl, pr14_any⟩
  · exact ⟨enters_of Try.func77 (by kernel_rfl) rfl, pr15_any⟩
  · exact ⟨enters_of Try.func78 (by kernel_rfl) rfl, pr16_any⟩
  · exact ⟨enters_of Try.func79 (by kernel_rfl) rfl, pr17_any⟩
  · exact ⟨enters_of Try.func80 (by kernel_rfl) rfl, pr18_any⟩
  · exact ⟨enters_of Try.func81 (by kernel_rfl) rfl, pr19_any⟩
  · exact ⟨enters_of Try.func82 (by kernel_rfl) rfl, pr20_any⟩
  · exact ⟨enters_of Try.func83 (by kernel_rfl) rfl, pr21_any⟩
  · exact ⟨enters_of Try.func84 (by kernel_rfl) rfl, pr22_any⟩
  · exact ⟨enters_of Try.func85 (by kernel_rfl) rfl, pr23_any⟩
  · exact ⟨enters_of Try.func86 (by kernel_rfl) rfl, pr24_any⟩


theorem iTb : (Try.prog.info? 94).map (·.size) = some 48 := by kernel_rfl
theorem alTb (w : World) : (Instr.alloc 94 true (.tuple #[])).run Try.prog w = .ok (.pointer (some ⟨w.heap.size, 0, none⟩)) (w.alloc (.cells zTb 94)) := by kernel_rfl
set_option maxRecDepth 100000 in
set_option maxHeartbeats 4000000 in
theorem prules_any (w : World) :
    Calls Try.prog 57 #[] w fun e w' => e = .returned (.agg tblV) ∧ Below w.heap.size w w' := by
  go_enter Try.func57, Try.ntmps57
  go_wp2_with (first
    | (refine wpList_newV rfl 94 rfl _ alTb ?_; intro w1 b1 B1)
    | (refine wpList_storeL rfl 94 (.tmp 0) (.tmp 25) rfl rfl _ rfl tblV rfl 94 zTb B1 iTb rfl (by kernel_rfl) ?_; intro w2 m2 B2))
  refine bodyPost_ret (v := .agg tblV) (res_row rfl _ _ w.heap.size 94 tblV _ rfl B2 Try.underlying94 rfl iTb) rfl ⟨rfl, b1.trans (m2.below b1.size (fun k hk => by omega))⟩

/-! ### the first rule that applies -/
def frst (p : Plc) : List Ru → Int × Bool
  | [] => (0, false)
  | x :: t => if x.ap p then (x.num, x.en p) else frst p t
theorem frst_skip (p : Plc) : ∀ (l : List Ru) (k : Nat), (∀ j x, j < k → l[j]? = some x → x.ap p = false) → frst p l = frst p (l.drop k)
  | _, 0, _ => rfl
  | [], k + 1, _ => rfl
  | x :: t, k + 1, h => by
    have h0 := h 0 x (by omega) rfl
    show (if x.ap p then _ else frst p t) = _
    rw [h0, if_neg (by decide)]
    exact frst_skip p t k fun j y hj hy => h (j + 1) y (by omega) hy
theorem frst_here (p : Plc) {l : List Ru} {k : Nat} {x : Ru} (h : ∀ j x, j < k → l[j]? = some x → x.ap p = false) (hx : l[k]? = some x) (ha : x.ap p = true) : frst p l = (x.num, x.en p) := by
  rw [frst_skip p l k h]
  obtain ⟨hl, he⟩ := List.getElem?_eq_some_iff.1 hx
  rw [List.drop_eq_getElem_cons hl, he]
  show (if x.ap p then _ else _) = _
  rw [ha]
  rfl
theorem lookAt {l : List Ru} {k : Nat} {x : Ru} {p : Plc} (h : ∀ j x, j < k → l[j]? = some x → x.ap p = false) (hx : l[k]? = some x) (ha : x.ap p = false) : ∀ j x, j < k + 1 → l[j]? = some x → x.ap p = false := fun j y hj hy => by
  by_cases e : j = k
  · subst e
    rw [hx] at hy
    cases hy
    exact ha
  · exact h j y (by omega) hy
end Go.Proofs.Ytnoenccpbbkdeaa

/- Contract of pair's first: the first rule that applies, through a pointer to the table. Conditions: the table lies at the pointer. -/
namespace Go.Proofs.Ytnoenccpbbkdeaa
open Go.ChangeShapes Go.WideShapes Go.ChangeAt Go.RowKit Go.Shelf

def vdC (v : Int × Bool) : Array Value := #[.int .u8 v.1, .bool v.2]
theorem uV : Try.prog.underlying 85 = some (.struct (Try.prog.fieldsOf 85)) := by kernel_rfl
theorem iV (x : Int × Bool) : (Try.prog.info? 85).map (·.size) = some (vdC x).size := by kernel_rfl
theorem oneV (x : Int × Bool) : (vdC x).all (·.oneCell') = true := by kernel_rfl
theorem alV (w : World) : (Instr.alloc 85 true (.tuple #[])).run Try.prog w = .ok (.pointer (some ⟨w.heap.size, 0, none⟩)) (w.alloc (.cells (vdC (0, false)) 85)) := by kernel_rfl
theorem bxV (x : Int × Bool) (w : World) : (Instr.box 85 (.agg (vdC x))).run Try.prog w = .ok (.pointer (some ⟨w.heap.size, 0, none⟩)) (w.alloc (.cells (vdC x) 85)) := by kernel_rfl
theorem uR : Try.prog.underlying 92 = some (.struct (Try.prog.fieldsOf 92)) := by kernel_rfl
theorem iR (n : Int) (f : Nat) : (Try.prog.info? 92).map (·.size) = some (ruC n f).size := by kernel_rfl
theorem oneR (n : Int) (f : Nat) : (ruC n f).all (·.oneCell') = true := by kernel_rfl
theorem alR (w : World) : (Instr.alloc 92 true (.tuple #[])).run Try.prog w = .ok (.pointer (some ⟨w.heap.size, 0, none⟩)) (w.alloc (.cells #[.int .u8 0, .nilFunc] 92)) := by kernel_rfl
section
variable {ops : Array Oper} {Q : Exit → Act → World → Prop} {a : Act} {w : World} {rest : List Oper} {o o1 o2 : Oper}
theorem ldV (hg : o.guard = none) (x : Operand) (ho : o.op = .load 85 x) (p : Addr) (hx : a.eval x = .pointer (some p)) (s : Int × Bool) (hL : Lies w p (vdC s))
    (h : wpList Try.prog ops Q rest (a.put o.dst (.agg (vdC s))) w) : wpList Try.prog ops Q (o :: rest) a w := wpList_loadL hg 85 x ho p hx (vdC s) _ hL uV rfl (iV s) h
theorem alVV (hg : o.guard = none) (ho : o.op = .alloc 85) (h : ∀ w', Below w.heap.size w w' → Blk w' w.heap.size 85 (vdC (0, false)) → wpList Try.prog ops Q rest (a.put o.dst (.pointer (some ⟨w.heap.size, 0, none⟩))) w') : wpList Try.prog ops Q (o :: rest) a w :=
  wpList_newV hg 85 ho _ alV h
theorem stV (hg : o.guard = none) (x y : Operand) (ho : o.op = .store 85 x y) (hd : o.dst = none) (g : Nat) (hx : a.eval x = .pointer (some ⟨g, 0, none⟩)) (s : Int × Bool) (hy : a.eval y = .agg (vdC s)) {t : TypeId} (old : Int × Bool) (hB : Blk w g t (vdC old))
    (h : ∀ w', Mod (fun k => k = g) w w' → Blk w' g t (vdC s) → wpList Try.prog ops Q rest a w') : wpList Try.prog ops Q (o :: rest) a w :=
  wpList_storeL hg 85 x y ho hd g hx (vdC s) hy t (vdC old) hB (iV s) rfl (oneV s) h
theorem ldR (hg : o.guard = none) (x : Operand) (ho : o.op = .load 92 x) (p : Addr) (hx : a.eval x = .pointer (some p)) (n : Int) (f : Nat) (hL : Lies w p (ruC n f))
    (h : wpList Try.prog ops Q rest (a.put o.dst (.agg (ruC n f))) w) : wpList Try.prog ops Q (o :: rest) a w := wpList_loadL hg 92 x ho p hx (ruC n f) _ hL uR rfl (iR n f) h
theorem nwR (hg1 : o1.guard = none) (hg2 : o2.guard = none) (D : Tmp) (hd1 : o1.dst = some D) (ho1 : o1.op = .alloc 92) (y : Operand) (ho2 : o2.op = .store 92 (.tmp D) y) (hd2 : o2.dst = none)
    (n : Int) (f : Nat) (hx : ∀ v, (a.put (some D) v).eval (.tmp D) = v) (hy : ∀ v, (a.put (some D) v).eval y = .agg (ruC n f))
    (h : ∀ w', Below w.heap.size w w' → Blk w' w.heap.size 92 (ruC n f) → wpList Try.prog ops Q rest (a.put (some D) (.pointer (some ⟨w.heap.size, 0, none⟩))) w') : wpList Try.prog ops Q (o1 :: o2 :: rest) a w :=
  wpList_newS hg1 hg2 92 D hd1 ho1 y ho2 hd2 _ alR (ruC n f) hx hy (iR n f) rfl (oneR n f) h
end

set_option maxRecDepth 100000 in
set_option maxHeartbeats 8000000 in
theorem pfirst_any (p : Plc) (T : Nat) (w : World) (hT : Blk w T 94 tblV) :
    Calls Try.prog 59 #[.pointer (some ⟨T, 0, none⟩), .agg (plC p)] w fun e w' => e = .returned (.agg (vdC (frst p rl))) ∧ Below w.heap.size w w' := by
  have HT := Lib.hid hT
  obtain ⟨r, hr⟩ : ∃ r, frst p rl = r := ⟨_, rfl⟩
  have HR := Lib.hid hr
  rw [hr]
  clear hr hT
  go_enter Try.func59, Try.ntmps59
  go_wp2_with (first
    | (refine bxPV rfl (.tmp 1) rfl p rfl ?_; intro w1 b1 B1)
    | (refine alVV (o := ⟨some 4, _, _, _, _, _⟩) rfl rfl ?_; intro w2 b2 B2)
    | (refine alVV (o := ⟨some 5, _, _, _, _, _⟩) rfl rfl ?_; intro w3 b3 B3))
  have b03 := below_seq b1 (below_seq b2 b3)
  have l1 := B1.lt
  have l2 := B2.lt
  have l3 := B3.lt
  have l0 := HT.out.lt
  have HK : Hid (∀ W, Below w3.heap.size w3 W → Blk W T 94 tblV ∧ Blk W w.heap.size 100 (plC p) ∧ Blk W w1.heap.size 85 (vdC (0, false)) ∧ Blk W w2.heap.size 85 (vdC (0, false))) := Lib.hid fun W h => by
    have m3 := Mod.of_below (S := fun _ => False) h
    have m2 := (Mod.of_below (S := fun _ => False) b3).trans m3
    have m1 := (Mod.of_below (S := fun _ => False) b2).trans m2
    have m0 := (Mod.of_below (S := fun _ => False) b1).trans m1
    exact ⟨HT.out.keep m0 id, B1.keep m1 id, B2.keep m2 id, B3.keep m3 id⟩
  have hs1 := b1.size
  have hs2 := b2.size
  have hs3 := b3.size
  clear B1 B2 B3 b1 b2 b3 HT
  go_loopg [12] 24 (fun kx i wr => ∃ (k : Nat), i = .int .i64 k ∧ k ≤ 24 ∧ kx = 24 - k ∧ Below w3.heap.size w3 wr ∧ Hid (∀ j x, j < k → rl[j]? = some x → x.ap p = false))
  case atStart => exact ⟨0, rfl, by omega, by omega, Below.refl _ _, Lib.hid fun j x h => absurd h (by omega)⟩
  case round =>
    obtain ⟨k, rfl, hk, rfl, bel, HN⟩ := hrel
    by_cases hlt : k < 24
    · obtain ⟨x, hx⟩ : ∃ x, rl[k]? = some x := ⟨_, List.getElem?_eq_getElem (show k < rl.length from hlt)⟩
      obtain ⟨kT, kP, kR, kV⟩ := HK.out wr bel
      have L : Lies wr ⟨T, k * 2, none⟩ (ruC x.num x.f) := kT.part (k * 2) (tbl_part k x hx)
      have hok := rl_ok x (List.mem_of_getElem? hx)
      have HX := Lib.hid hx
      obtain ⟨q, hq⟩ : ∃ q, x.ap p = q := ⟨_, rfl⟩
      obtain ⟨q2, hq2⟩ : ∃ q, x.en p = q := ⟨_, rfl⟩
      have HC : Hid (∀ W, Calls Try.prog x.f #[.agg (plC p)] W fun e w' => e = .returned (.tuple #[.bool q, .bool q2]) ∧ Below W.heap.size W w') := Lib.hid fun W => by rw [← hq, ← hq2]; exact hok.calls p W
      have hen := hok.enters
      have HQ : Hid (q = true → r = (x.num, q2)) := Lib.hid fun h => by rw [← HR.out, ← hq2]; exact frst_here p HN.out hx (hq.trans h)
      have HQ0 : Hid (q = false → ∀ j x, j < k + 1 → rl[j]? = some x → x.ap p = false) := Lib.hid fun h => lookAt HN.out hx (hq.trans h)
      generalize x.f = f at *
      generalize x.num = n at *
      have hkz : (k : Int) < 24 := by omega
      clear hok hx hq hq2 HX kT kP kR kV
      go_wp2_with (first
        | (refine ldR (o := ⟨some 16, _, _, _, _, _⟩) rfl (.tmp 15) rfl _ rfl n f L ?_)
        | (refine nwR (o1 := ⟨some 7, _, _, _, _, _⟩) rfl rfl 7 rfl rfl (.tmp 16) rfl rfl n f (fun _ => rfl) (fun _ => rfl) ?_; intro w4 b4 B4; refine Mk.out ?_))
      constructor
      have bel4 := bel.trans (b4.mono bel.size)
      obtain ⟨kT, kP, kR, kV⟩ := HK.out w4 bel4
      have n1 : w4.cell? ⟨wr.heap.size, 1, none⟩ = some (.func (.func f) #[] #[]) := B4.cell 1
      have LP := kP.lies
      clear L kT kR kV
      go_wp2_with (refine ldP (o := ⟨some 20, _, _, _, _, _⟩) rfl (.tmp 3) rfl _ rfl p LP ?_)
      refine (HC.out _).mono ?_
      rintro e w5 ⟨rfl, b5⟩
      have bel5 := bel4.trans (b5.mono bel4.size)
      have B5 := B4.keep (S := fun _ => False) (Mod.of_below b5) id
      obtain ⟨kT, kP', kR, kV⟩ := HK.out w5 bel5
      have n0 : w5.cell? ⟨wr.heap.size, 0, none⟩ = some (.int .u8 n) := B5.cell 0
      clear LP n1 kT kP' hen
      cases q
      · go_wp2_with fail
        go_roundg (24 - (k + 1))
        case measure => omega
        case rel => exact ⟨k + 1, by go_num, by omega, by first | rfl | trivial, bel5, Lib.hid (HQ0.out (by first | rfl | trivial))⟩
      · obtain rfl := HQ.out rfl
        go_wp2_with (first
          | (refine stV rfl (.tmp 5) (.tmp 28) rfl rfl _ rfl (n, q2) rfl (0, false) kV ?_; intro w6 m6 B6)
          | (refine ldV rfl (.tmp 5) rfl _ rfl (n, q2) B6.lies ?_)
          | (refine stV rfl (.tmp 4) (.tmp 30) rfl rfl _ rfl (n, q2) rfl (0, false) (kR.keep m6 (by omega)) ?_; intro w7 m7 B7))
        have s5 := bel5.size
        have c5 : Below w.heap.size w w5 := b03.trans (bel5.mono (by omega))
        have c6 : Below w.heap.size w w6 := c5.trans (m6.below c5.size fun k hk => by omega)
        have c7 : Below w.heap.size w w7 := c6.trans (m7.below c6.size fun k hk => by omega)
        exact bodyPost_ret (v := .agg (vdC (n, q2))) (res_row rfl _ _ w1.heap.size 85 _ _ rfl B7 uV rfl (iV _)) rfl ⟨rfl, c7⟩
    · obtain rfl : k = 24 := by omega
      exact absurd (show true = false from HN.out 23 _ (by omega) rfl) (by decide)
end Go.Proofs.Ytnoenccpbbkdeaa
