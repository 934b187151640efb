/- Contracts of pair's second rule (a region that draws its order), of place.next, and of the table of rules. No conditions. -/
import Derived.Test.YtijdippkkaigjaaPr2
import Derived.Test.YtijdippkkaigjaaRegP2
namespace Go.Proofs.Ytijdippkkaigjaa
open Go.ChangeShapes Go.WideShapes Go.ChangeAt Go.RowKit

def ap2 (p : Plc) : Bool := has [2, 3, 4] p.a
def en2 (p : Plc) : Bool := !(decide (p.a = 2) && has [3] p.b)
theorem bs234 (w : World) : (Instr.buildSlice 22 3 #[(0, .int .u8 2), (1, .int .u8 3), (2, .int .u8 4)]).run Try.prog w = .ok (.slice (some ⟨w.heap.size, 0, none⟩) 3 3) (w.alloc (.cells (r8 [2, 3, 4]).toArray 5)) := by kernel_rfl
theorem bs3 (w : World) : (Instr.buildSlice 22 1 #[(0, .int .u8 3)]).run Try.prog w = .ok (.slice (some ⟨w.heap.size, 0, none⟩) 1 1) (w.alloc (.cells (r8 [3]).toArray 5)) := by kernel_rfl

/-- what an operation hands back: a value, or a literal of numbers -/
inductive Kl
  | val (v : Value)
  | lit (l : List Int)
def Kl.holds : Kl → Value → World → Prop
  | .val v, u, _ => u = v
  | .lit l, u, W => R8 W u l
theorem Kl.below {k : Kl} {u : Value} {w w' : World} (h : k.holds u w) (b : Below w.heap.size w w') : k.holds u w' := by
  cases k with
  | val v => exact h
  | lit l =>
    have h1 : R8 w u l := h
    exact Row.below h1 b
def kl2 (g : Nat) (p : Plc) (q q2 : Bool) (i : Nat) : Kl :=
  ([.val (.pointer (some ⟨g, 0, none⟩)), .val (.int .u8 p.a), .lit [2, 3, 4], .val (.bool q), .val (.agg (plC p)), .lit [3], .val (.bool q2), .val (.bool (!q2)), .val (.bool q), .val (.bool (!q2))] : List Kl).getD i (.val undef)

set_option maxRecDepth 100000 in
set_option maxHeartbeats 4000000 in
theorem pr2_any (p : Plc) (w : World) :
    Calls Try.prog 31 #[.agg (plC p)] w fun e w' => e = .returned (.tuple #[.bool (ap2 p), .bool (en2 p)]) ∧ Below w.heap.size w w' := by
  obtain ⟨q, hq⟩ : ∃ q, ap2 p = q := ⟨_, rfl⟩
  obtain ⟨q2, hq2⟩ : ∃ q, (decide (p.a = 2) && has [3] p.b) = q := ⟨_, rfl⟩
  have hen : en2 p = !q2 := by unfold en2; rw [hq2]
  rw [hq, hen]
  have C1 : Hid (∀ W v, R8 W v [2, 3, 4] → Calls Try.prog 32 #[.int .u8 p.a, v] W fun e W' => e = .returned (.bool q) ∧ W' = W) := Lib.hid fun W v h => by rw [← hq]; exact pin_any v _ _ W h (by decide)
  have C2 : Hid (∀ W v, R8 W v [3] → Calls Try.prog 33 #[.agg (plC p), .int .u8 2, v] W fun e W' => e = .returned (.bool q2) ∧ Below W.heap.size W W') := Lib.hid fun W v h => by rw [← hq2]; exact pof_any v _ _ _ _ _ _ W h (by decide)
  clear hq hq2 hen
  go_enter Try.func31, Try.ntmps31
  go_wp2_with (refine bxPV rfl (.tmp 0) rfl p rfl ?_; intro w1 b1 B1; refine Mk.out ?_)
  constructor
  go_wp2_with fail
  have HB := Lib.hid B1
  refine region_P2 (by kernel_rfl) (fun W => Below w1.heap.size w1 W) (fun _ _ h b => below_seq h b) (fun i u W => (kl2 w.heap.size p q q2 i).holds u W) (fun _ _ _ _ h b => Kl.below h b) (below_drewN (Below.refl _ _) 1) (by kernel_rfl) (by kernel_rfl) (by kernel_rfl) (by kernel_rfl) ?step ?done
  case step =>
    intro us W hSW i o ho hD
    have B := HB.out.keep (S := fun _ => False) (Mod.of_below hSW) id
    have c0 : W.cell? ⟨w.heap.size, 0, none⟩ = some (.int .u8 p.a) := B.cell 0
    have L := B.lies
    simp only [putAll, Act.put, List.setIfInBounds_toArray, List.set_cons_zero, List.set_cons_succ]
    match i, ho with
    | 0, ho =>
      simp only [List.getElem?_toArray, List.getElem?_cons_zero, Option.some.injEq] at ho
      subst ho
      exact .inl ⟨wanted_none rfl _, .inl ⟨_, W, (by go_simp), Below.refl _ _, rfl⟩⟩
    | 1, ho =>
      simp only [List.getElem?_toArray, List.getElem?_cons_zero, List.getElem?_cons_succ, Option.some.injEq] at ho
      subst ho
      have h0 : us 0 = .pointer (some ⟨w.heap.size, 0, none⟩) := hD 0 (by kernel_rfl)
      rw [h0]
      exact .inl ⟨wanted_none rfl _, .inl ⟨.int .u8 p.a, W, (by go_simp), Below.refl _ _, rfl⟩⟩
    | 2, ho =>
      simp only [List.getElem?_toArray, List.getElem?_cons_zero, List.getElem?_cons_succ, Option.some.injEq] at ho
      subst ho
      exact .inl ⟨wanted_none rfl _, .inl ⟨.slice (some ⟨W.heap.size, 0, none⟩) 3 3, W.alloc (.cells (r8 [2, 3, 4]).toArray 5), by go_simp; rfl, below_alloc _ _, r8_lit W [2, 3, 4] _ 3 _ rfl rfl⟩⟩
    | 3, ho =>
      simp only [List.getElem?_toArray, List.getElem?_cons_zero, List.getElem?_cons_succ, Option.some.injEq] at ho
      subst ho
      have h1 : us 1 = .int .u8 p.a := hD 1 (by kernel_rfl)
      have h2 : R8 W (us 2) [2, 3, 4] := hD 2 (by kernel_rfl)
      rw [h1]
      generalize us 2 = v at h2 ⊢
      refine .inl ⟨wanted_none rfl _, .inr ⟨_, _, (by go_simp), (C1.out W v h2).mono ?_⟩⟩
      rintro e W' ⟨rfl, rfl⟩
      exact ⟨_, rfl, Below.refl _ _, rfl⟩
    | 4, ho =>
      simp only [List.getElem?_toArray, List.getElem?_cons_zero, List.getElem?_cons_succ, Option.some.injEq] at ho
      subst ho
      exact .inl ⟨wanted_none rfl _, .inl ⟨_, W, rdP (.tmp 1) rfl _ rfl p L, Below.refl _ _, rfl⟩⟩
    | 5, ho =>
      simp only [List.getElem?_toArray, List.getElem?_cons_zero, List.getElem?_cons_succ, Option.some.injEq] at ho
      subst ho
      exact .inl ⟨wanted_none rfl _, .inl ⟨.slice (some ⟨W.heap.size, 0, none⟩) 1 1, W.alloc (.cells (r8 [3]).toArray 5), by go_simp; rfl, below_alloc _ _, r8_lit W [3] _ 1 _ rfl rfl⟩⟩
    | 6, ho =>
      simp only [List.getElem?_toArray, List.getElem?_cons_zero, List.getElem?_cons_succ, Option.some.injEq] at ho
      subst ho
      have h1 : us 4 = .agg (plC p) := hD 4 (by kernel_rfl)
      have h2 : R8 W (us 5) [3] := hD 5 (by kernel_rfl)
      rw [h1]
      generalize us 5 = v at h2 ⊢
      refine .inl ⟨wanted_none rfl _, .inr ⟨_, _, (by go_simp), (C2.out W v h2).mono ?_⟩⟩
      rintro e W' ⟨rfl, b⟩
      exact ⟨_, rfl, b, rfl⟩
    | 7, ho =>
      simp only [List.getElem?_toArray, List.getElem?_cons_zero, List.getElem?_cons_succ, Option.some.injEq] at ho
      subst ho
      have h1 : us 6 = .bool q2 := hD 6 (by kernel_rfl)
      rw [h1]
      exact .inl ⟨wanted_none rfl _, .inl ⟨.bool (!q2), W, (by go_simp), Below.refl _ _, rfl⟩⟩
    | 8, ho =>
      simp only [List.getElem?_toArray, List.getElem?_cons_zero, List.getElem?_cons_succ, Option.some.injEq] at ho
      subst ho
      have h1 : us 3 = .bool q := hD 3 (by kernel_rfl)
      rw [h1]
      exact .inl ⟨wanted_none rfl _, .inl ⟨_, W, (by go_simp), Below.refl _ _, rfl⟩⟩
    | 9, ho =>
      simp only [List.getElem?_toArray, List.getElem?_cons_zero, List.getElem?_cons_succ, Option.some.injEq] at ho
      subst ho
      have h1 : us 7 = .bool (!q2) := hD 7 (by kernel_rfl)
      rw [h1]
      exact .inl ⟨wanted_none rfl _, .inl ⟨_, W, (by go_simp), Below.refl _ _, rfl⟩⟩
    | n + 10, ho => simp at ho
  case done =>
    intro us W hSW hD
    have h8 : us 8 = .bool q := hD 8 (by decide)
    have h9 : us 9 = .bool (!q2) := hD 9 (by decide)
    simp only [putAll, Act.put, List.setIfInBounds_toArray, List.set_cons_zero, List.set_cons_succ]
    rw [h8, h9]
    go_wp2_with fail
    go_ret2
    exact ⟨rfl, below_seq b1 hSW⟩
end Go.Proofs.Ytijdippkkaigjaa
