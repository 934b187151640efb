/- Contracts of pair's rules (the table, made anew) and of first (the first rule that applies, through a pointer to the table). Conditions: the table lies at the pointer. -/
import Derived.Test.YtijdippkkaigjaaPr4
import Derived.Shelf.Abstract
namespace Go.Proofs.Ytijdippkkaigjaa
open Go.ChangeShapes Go.WideShapes Go.ChangeAt Go.RowKit Go.Shelf

def ap24 (_ : Plc) : Bool := true
def ruC (n : Int) (f : Nat) : Array Value := #[.int .u8 n, .func (.func f) #[] #[]]
structure Ru where
  num : Int
  f : Nat
  ap : Plc → Bool
  en : Plc → Bool

def rl : List Ru := [⟨4, 30, ap1, fun _ => true⟩, ⟨5, 31, ap2, en2⟩, ⟨6, 34, ap3, fun _ => false⟩, ⟨7, 35, ap4, fun _ => false⟩, ⟨8, 36, ap5, fun _ => true⟩, ⟨9, 37, ap6, fun _ => false⟩, ⟨11, 38, ap7, fun _ => false⟩, ⟨12, 39, ap8, fun _ => false⟩, ⟨13, 40, ap9, fun _ => false⟩, ⟨14, 41, ap10, fun _ => false⟩, ⟨15, 42, ap11, fun _ => false⟩, ⟨16, 43, ap12, fun _ => false⟩, ⟨17, 44, ap13, fun _ => false⟩, ⟨18, 45, ap14, fun _ => true⟩, ⟨19, 46, ap15, fun _ => false⟩, ⟨20, 47, ap16, fun _ => true⟩, ⟨21, 48, ap17, fun _ => false⟩, ⟨22, 49, ap18, fun _ => false⟩, ⟨23, 50, ap19, fun _ => false⟩, ⟨24, 51, ap20, fun _ => false⟩, ⟨25, 52, ap21, fun _ => false⟩, ⟨28, 53, ap22, fun _ => false⟩, ⟨29, 54, ap23, fun _ => false⟩, ⟨31, 55, ap24, fun _ => true⟩]

def tblV : Array Value := #[.int .u8 4, .func (.func 30) #[] #[], .int .u8 5, .func (.func 31) #[] #[], .int .u8 6, .func (.func 34) #[] #[], .int .u8 7, .func (.func 35) #[] #[], .int .u8 8, .func (.func 36) #[] #[], .int .u8 9, .func (.func 37) #[] #[], .int .u8 11, .func (.func 38) #[] #[], .int .u8 12, .func (.func 39) #[] #[], .int .u8 13, .func (.func 40) #[] #[], .int .u8 14, .func (.func 41) #[] #[], .int .u8 15, .func (.func 42) #[] #[], .int .u8 16, .func (.func 43) #[] #[], .int .u8 17, .func (.func 44) #[] #[], .int .u8 18, .func (.func 45) #[] #[], .int .u8 19, .func (.func 46) #[] #[], .int .u8 20, .func (.func 47) #[] #[], .int .u8 21, .func (.func 48) #[] #[], .int .u8 22, .func (.func 49) #[] #[], .int .u8 23, .func (.func 50) #[] #[], .int .u8 24, .func (.func 51) #[] #[], .int .u8 25, .func (.func 52) #[] #[], .int .u8 28, .func (.func 53) #[] #[], .int .u8 29, .func (.func 54) #[] #[], .int .u8 31, .func (.func 55) #[] #[]]

def zTb : Array Value := #[.int .u8 0, .nilFunc, .int .u8 0, .nilFunc, .int .u8 0, .nilFunc, .int .u8 0, .nilFunc, .int .u8 0, .nilFunc, .int .u8 0, .nilFunc, .int .u8 0, .nilFunc, .int .u8 0, .nilFunc, .int .u8 0, .nilFunc, .int .u8 0, .nilFunc, .int .u8 0, .nilFunc, .int .u8 0, .nilFunc, .int .u8 0, .nilFunc, .int .u8 0, .nilFunc, .int .u8 0, .nilFunc, .int .u8 0, .nilFunc, .int .u8 0, .nilFunc, .int .u8 0, .nilFunc, .int .u8 0, .nilFunc, .int .u8 0, .nilFunc, .int .u8 0, .nilFunc, .int .u8 0, .nilFunc, .int .u8 0, .nilFunc, .int .u8 0, .nilFunc]

theorem tbl_part : ∀ (k : Nat) (x : Ru), rl[k]? = some x → ∀ (j : Nat) (v : Value), (ruC x.num x.f)[j]? = some v → tblV[k * 2 + j]? = some v
  | 0, x, hx, j, v, hj => by
    have e : x = ⟨4, 30, ap1, fun _ => true⟩ := (Option.some.inj hx).symm
    subst e
    match j, hj with
    | 0, hj => exact hj
    | 1, hj => exact hj
    | j + 2, hj => simp [ruC] at hj
  | 1, x, hx, j, v, hj => by
    have e : x = ⟨5, 31, ap2, en2⟩ := (Option.some.inj hx).symm
    subst e
    match j, hj with
    | 0, hj => exact hj
    | 1, hj => exact hj
    | j + 2, hj => simp [ruC] at hj
  | 2, x, hx, j, v, hj => by
    have e : x = ⟨6, 34, ap3, fun _ => false⟩ := (Option.some.inj hx).symm
    subst e
    match j, hj with
    | 0, hj => exact hj
    | 1, hj => exact hj
    | j + 2, hj => simp [ruC] at hj
  | 3, x, hx, j, v, hj => by
    have e : x = ⟨7, 35, ap4, fun _ => false⟩ := (Option.some.inj hx).symm
    subst e
    match j, hj with
    | 0, hj => exact hj
    | 1, hj => exact hj
    | j + 2, hj => simp [ruC] at hj
  | 4, x, hx, j, v, hj => by
    have e : x = ⟨8, 36, ap5, fun _ => true⟩ := (Option.some.inj hx).symm
    subst e
    match j, hj with
    | 0, hj => exact hj
    | 1, hj => exact hj
    | j + 2, hj => simp [ruC] at hj
  | 5, x, hx, j, v, hj => by
    have e : x = ⟨9, 37, ap6, fun _ => false⟩ := (Option.some.inj hx).symm
    subst e
    match j, hj with
    | 0, hj => exact hj
    | 1, hj => exact hj
    | j + 2, hj => simp [ruC] at hj
  | 6, x, hx, j, v, hj => by
    have e : x = ⟨11, 38, ap7, fun _ => false⟩ := (Option.some.inj hx).symm
    subst e
    match j, hj with
    | 0, hj => exact hj
    | 1, hj => exact hj
    | j + 2, hj => simp [ruC] at hj
  | 7, x, hx, j, v, hj => by
    have e : x = ⟨12, 39, ap8, fun _ => false⟩ := (Option.some.inj hx).symm
    subst e
    match j, hj with
    | 0, hj => exact hj
    | 1, hj => exact hj
    | j + 2, hj => simp [ruC] at hj
  | 8, x, hx, j, v, hj => by
    have e : x = ⟨13, 40, ap9, fun _ => false⟩ := (Option.some.inj hx).symm
    subst e
    match j, hj with
    | 0, hj => exact hj
    | 1, hj => exact hj
    | j + 2, hj => simp [ruC] at hj
  | 9, x, hx, j, v, hj => by
    have e : x = ⟨14, 41, ap10, fun _ => false⟩ := (Option.some.inj hx).symm
    subst e
    match j, hj with
    | 0, hj => exact hj
    | 1, hj => exact hj
    | j + 2, hj => simp [ruC] at hj
  | 10, x, hx, j, v, hj => by
    have e : x = ⟨15, 42, ap11, fun _ => false⟩ := (Option.some.inj hx).symm
    subst e
    match j, hj with
    | 0, hj => exact hj
    | 1, hj => exact hj
    | j + 2, hj => simp [ruC] at hj
  | 11, x, hx, j, v, hj => by
    have e : x = ⟨16, 43, ap12, fun _ => false⟩ := (Option.some.inj hx).symm
    subst e
    match j, hj with
    | 0, hj => exact hj
    | 1, hj => exact hj
    | j + 2, hj => simp [ruC] at hj
  | 12, x, hx, j, v, hj => by
    have e : x = ⟨17, 44, ap13, fun _ => false⟩ := (Option.some.inj hx).symm
    subst e
    match j, hj with
    | 0, hj => exact hj
    | 1, hj => exact hj
    | j + 2, hj => simp [ruC] at hj
  | 13, x, hx, j, v, hj => by
    have e : x = ⟨18, 45, ap14, fun _ => true⟩ := (Option.some.inj hx).symm
    subst e
    match j, hj with
    | 0, hj => exact hj
    | 1, hj => exact hj
    | j + 2, hj => simp [ruC] at hj
  | 14, x, hx, j, v, hj => by
    have e : x = ⟨19, 46, ap15, fun _ => false⟩ := (Option.some.inj hx).symm
    subst e
    match j, hj with
    | 0, hj => exact hj
    | 1, hj => exact hj
    | j + 2, hj => simp [ruC] at hj
  | 15, x, hx, j, v, hj => by
    have e : x = ⟨20, 47, ap16, fun _ => true⟩ := (Option.some.inj hx).symm
    subst e
    match j, hj with
    | 0, hj => exact hj
    | 1, hj => exact hj
    | j + 2, hj => simp [ruC] at hj
  | 16, x, hx, j, v, hj => by
    have e : x = ⟨21, 48, ap17, fun _ => false⟩ := (Option.some.inj hx).symm
    subst e
    match j, hj with
    | 0, hj => exact hj
    | 1, hj => exact hj
    | j + 2, hj => simp [ruC] at hj
  | 17, x, hx, j, v, hj => by
    have e : x = ⟨22, 49, ap18, fun _ => false⟩ := (Option.some.inj hx).symm
    subst e
    match j, hj with
    | 0, hj => exact hj
    | 1, hj => exact hj
    | j + 2, hj => simp [ruC] at hj
  | 18, x, hx, j, v, hj => by
    have e : x = ⟨23, 50, ap19, fun _ => false⟩ := (Option.some.inj hx).symm
    subst e
    match j, hj with
    | 0, hj => exact hj
    | 1, hj => exact hj
    | j + 2, hj => simp [ruC] at hj
  | 19, x, hx, j, v, hj => by
    have e : x = ⟨24, 51, ap20, fun _ => false⟩ := (Option.some.inj hx).symm
    subst e
    match j, hj with
    | 0, hj => exact hj
    | 1, hj => exact hj
    | j + 2, hj => simp [ruC] at hj
  | 20, x, hx, j, v, hj => by
    have e : x = ⟨25, 52, ap21, fun _ => false⟩ := (Option.some.inj hx).symm
    subst e
    match j, hj with
    | 0, hj => exact hj
    | 1, hj => exact hj
    | j + 2, hj => simp [ruC] at hj
  | 21, x, hx, j, v, hj => by
    have e : x = ⟨28, 53, ap22, fun _ => false⟩ := (Option.some.inj hx).symm
    subst e
    match j, hj with
    | 0, hj => exact hj
    | 1, hj => exact hj
    | j + 2, hj => simp [ruC] at hj
  | 22, x, hx, j, v, hj => by
    have e : x = ⟨29, 54, ap23, fun _ => false⟩ := (Option.some.inj hx).symm
    subst e
    match j, hj with
    | 0, hj => exact hj
    | 1, hj => exact hj
    | j + 2, hj => simp [ruC] at hj
  | 23, x, hx, j, v, hj => by
    have e : x = ⟨31, 55, ap24, fun _ => true⟩ := (Option.some.inj hx).symm
    subst e
    match j, hj with
    | 0, hj => exact hj
    | 1, hj => exact hj
    | j + 2, hj => simp [ruC] at hj
  | k + 24, x, hx, _, _, _ => by simp [rl] at hx

/-- a rule's closure does what the rule says -/
structure RuOk (x : Ru) : Prop where
  enters : ∀ args w, (callFunc x.f args).run Try.prog w = .ok (.enter x.f args) w
  calls : ∀ p w, Calls Try.prog x.f #[.agg (plC p)] w fun e w' => e = .returned (.tuple #[.bool (x.ap p), .bool (x.en p)]) ∧ Below w.heap.size w w'
theorem rl_ok : ∀ x ∈ rl, RuOk x := by
  intro x hx
  simp only [rl, List.mem_cons, List.not_mem_nil, or_false] at hx
  rcases hx with rfl | rfl | rfl | rfl | rfl | rfl | rfl | rfl | rfl | rfl | rfl | rfl | rfl | rfl | rfl | rfl | rfl | rfl | rfl | rfl | rfl | rfl | rfl | rfl
  · exact ⟨enters_of Try.func30 (by kernel_rfl) rfl, pr1_any⟩
  · exact ⟨enters_of Try.func31 (by kernel_rfl) rfl, pr2_any⟩
  · exact ⟨enters_of Try.func34 (by kernel_rfl) rfl, pr3_any⟩
  · exact ⟨enters_of Try.func35 (by kernel_rfl) rfl, pr4_any⟩
  · exact ⟨enters_of Try.func36 (by kernel_rfl) rfl, pr5_any⟩
  · exact ⟨enters_of Try.func37 (by kernel_rfl) rfl, pr6_any⟩
  · exact ⟨enters_of Try.func38 (by kernel_rfl) rfl, pr7_any⟩
  · exact ⟨enters_of Try.func39 (by kernel_rfl) rfl, pr8_any⟩
  · exact ⟨enters_of Try.func40 (by kernel_rfl) rfl, pr9_any⟩
  · exact ⟨enters_of Try.func41 (by kernel_rfl) rfl, pr10_any⟩
  · exact ⟨enters_of Try.func42 (by kernel_rfl) rfl, pr11_any⟩
  · exact ⟨enters_of Try.func43 (by kernel_rfl) rfl, pr12_any⟩
  · exact ⟨enters_of Try.func44 (by kernel_rfl) rfl, pr13_any⟩
  · exact ⟨enters_of Try.func45 (by kernel_rfl) rfl, pr14_any⟩
  · exact ⟨enters_of Try.func46 (by kernel_rfl) rfl, pr15_any⟩
  · exact ⟨enters_of Try.func47 (by kernel_rfl) rfl, pr16_any⟩
  · exact ⟨enters_of Try.func48 (by kernel_rfl) rfl, pr17_any⟩
  · exact ⟨enters_of Try.func49 (by kernel_rfl) rfl, pr18_any⟩
  · exact ⟨enters_of Try.func50 (by kernel_rfl) rfl, pr19_any⟩
  · exact ⟨enters_of Try.func51 (by kernel_rfl) rfl, pr20_any⟩
  · exact ⟨enters_of Try.func52 (by kernel_rfl) rfl, pr21_any⟩
  · exact ⟨enters_of Try.func53 (by kernel_rfl) rfl, pr22_any⟩
  · exact ⟨enters_of Try.func54 (by kernel_rfl) rfl, pr23_any⟩
  · exact ⟨enters_of Try.func55 (by kernel_rfl) rfl, pr24_any⟩


theorem iTb : (Try.prog.info? 51).map (·.size) = some 48 := by kernel_rfl
theorem alTb (w : World) : (Instr.alloc 51 true (.tuple #[])).run Try.prog w = .ok (.pointer (some ⟨w.heap.size, 0, none⟩)) (w.alloc (.cells zTb 51)) := by kernel_rfl
set_option maxRecDepth 100000 in
set_option maxHeartbeats 4000000 in
theorem prules_any (w : World) :
    Calls Try.prog 26 #[] w fun e w' => e = .returned (.agg tblV) ∧ Below w.heap.size w w' := by
  go_enter Try.func26, Try.ntmps26
  go_wp2_with (first
    | (refine wpList_newV rfl 51 rfl _ alTb ?_; intro w1 b1 B1)
    | (refine wpList_storeL rfl 51 (.tmp 0) (.tmp 25) rfl rfl _ rfl tblV rfl 51 zTb B1 iTb rfl (by kernel_rfl) ?_; intro w2 m2 B2))
  refine bodyPost_ret (v := .agg tblV) (res_row rfl _ _ w.heap.size 51 tblV _ rfl B2 Try.underlying51 rfl iTb) rfl ⟨rfl, b1.trans (m2.below b1.size (fun k hk => by omega))⟩

/-! ### the first rule that applies -/
def frst (p : Plc) : List Ru → Int × Bool
  | [] => (0, false)
  | x :: t => if x.ap p then (x.num, x.en p) else frst p t
theorem frst_skip (p : Plc) : ∀ (l : List Ru) (k : Nat), (∀ j x, j < k → l[j]? = some x → x.ap p = false) → frst p l = frst p (l.drop k)
  | _, 0, _ => rfl
  | [], k + 1, _ => rfl
  | x :: t, k + 1, h => by
    have h0 := h 0 x (by omega) rfl
    show (if x.ap p then _ else frst p t) = _
    rw [h0, if_neg (by decide)]
    exact frst_skip p t k fun j y hj hy => h (j + 1) y (by omega) hy
theorem frst_here (p : Plc) {l : List Ru} {k : Nat} {x : Ru} (h : ∀ j x, j < k → l[j]? = some x → x.ap p = false) (hx : l[k]? = some x) (ha : x.ap p = true) : frst p l = (x.num, x.en p) := by
  rw [frst_skip p l k h]
  obtain ⟨hl, he⟩ := List.getElem?_eq_some_iff.1 hx
  rw [List.drop_eq_getElem_cons hl, he]
  show (if x.ap p then _ else _) = _
  rw [ha]
  rfl
theorem lookAt {l : List Ru} {k : Nat} {x : Ru} {p : Plc} (h : ∀ j x, j < k → l[j]? = some x → x.ap p = false) (hx : l[k]? = some x) (ha : x.ap p = false) : ∀ j x, j < k + 1 → l[j]? = some x → x.ap p = false := fun j y hj hy => by
  by_cases e : j = k
  · subst e
    rw [hx] at hy
    cases hy
    exact ha
  · exact h j y (by omega) hy
end Go.Proofs.Ytijdippkkaigjaa
