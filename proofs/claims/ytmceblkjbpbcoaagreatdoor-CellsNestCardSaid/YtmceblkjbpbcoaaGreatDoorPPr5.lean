/- Contracts of layers below. -/
import Derived.Test.YtmceblkjbpbcoaaGreatDoorPPr2
import Derived.Shelf.Abstract
import Derived.Test.YtmceblkjbpbcoaaGreatDoorPApG
import Derived.Test.YtmceblkjbpbcoaaGreatDoorPBase
import Derived.Laws.MakeOwn
namespace Go.Proofs.YtmceblkjbpbcoaaGreatDoor
set_option maxRecDepth 100000
set_option maxHeartbeats 8000000
open Go.ChangeShapes Go.WideShapes Go.ChangeAt Go.RowKit
section
open Go.Shelf
def ap24 (_ : Plc) : Bool := true
def ruC (n : Int) (f : Nat) : Array Value := #[.int .u8 n, .func (.func f) #[] #[]]
structure Ru where
 num : Int
 f : Nat
 ap : Plc -> Bool
 en : Plc -> Bool
def rl : List Ru := [⟨4, 154, ap1, fun _ => true⟩, ⟨5, 155, ap2, en2⟩, ⟨6, 158, ap3, fun _ => false⟩, ⟨7, 159, ap4, fun _ => false⟩, ⟨8, 160, ap5, fun _ => true⟩, ⟨9, 161, ap6, fun _ => false⟩, ⟨11, 162, ap7, fun _ => false⟩, ⟨12, 163, ap8, fun _ => false⟩, ⟨13, 164, ap9, fun _ => false⟩, ⟨14, 165, ap10, fun _ => false⟩, ⟨15, 166, ap11, fun _ => false⟩, ⟨16, 167, ap12, fun _ => false⟩, ⟨17, 168, ap13, fun _ => false⟩, ⟨18, 169, ap14, fun _ => true⟩, ⟨19, 170, ap15, fun _ => false⟩, ⟨20, 171, ap16, fun _ => true⟩, ⟨21, 172, ap17, fun _ => false⟩, ⟨22, 173, ap18, fun _ => false⟩, ⟨23, 174, ap19, fun _ => false⟩, ⟨24, 175, ap20, fun _ => false⟩, ⟨25, 176, ap21, fun _ => false⟩, ⟨28, 177, ap22, fun _ => false⟩, ⟨29, 178, ap23, fun _ => false⟩, ⟨31, 179, ap24, fun _ => true⟩]
def qly : Array Value := #[.int .u8 4, .func (.func 154) #[] #[], .int .u8 5, .func (.func 155) #[] #[], .int .u8 6, .func (.func 158) #[] #[], .int .u8 7, .func (.func 159) #[] #[], .int .u8 8, .func (.func 160) #[] #[], .int .u8 9, .func (.func 161) #[] #[], .int .u8 11, .func (.func 162) #[] #[], .int .u8 12, .func (.func 163) #[] #[], .int .u8 13, .func (.func 164) #[] #[], .int .u8 14, .func (.func 165) #[] #[], .int .u8 15, .func (.func 166) #[] #[], .int .u8 16, .func (.func 167) #[] #[], .int .u8 17, .func (.func 168) #[] #[], .int .u8 18, .func (.func 169) #[] #[], .int .u8 19, .func (.func 170) #[] #[], .int .u8 20, .func (.func 171) #[] #[], .int .u8 21, .func (.func 172) #[] #[], .int .u8 22, .func (.func 173) #[] #[], .int .u8 23, .func (.func 174) #[] #[], .int .u8 24, .func (.func 175) #[] #[], .int .u8 25, .func (.func 176) #[] #[], .int .u8 28, .func (.func 177) #[] #[], .int .u8 29, .func (.func 178) #[] #[], .int .u8 31, .func (.func 179) #[] #[]]
def zTb : Array Value := #[.int .u8 0, .nilFunc, .int .u8 0, .nilFunc, .int .u8 0, .nilFunc, .int .u8 0, .nilFunc, .int .u8 0, .nilFunc, .int .u8 0, .nilFunc, .int .u8 0, .nilFunc, .int .u8 0, .nilFunc, .int .u8 0, .nilFunc, .int .u8 0, .nilFunc, .int .u8 0, .nilFunc, .int .u8 0, .nilFunc, .int .u8 0, .nilFunc, .int .u8 0, .nilFunc, .int .u8 0, .nilFunc, .int .u8 0, .nilFunc, .int .u8 0, .nilFunc, .int .u8 0, .nilFunc, .int .u8 0, .nilFunc, .int .u8 0, .nilFunc, .int .u8 0, .nilFunc, .int .u8 0, .nilFunc, .int .u8 0, .nilFunc, .int .u8 0, .nilFunc]
theorem qth : ∀ (k : Nat) (x : Ru), rl[k]? = some x -> ∀ (j : Nat) (v : Value), (ruC x.num x.f)[j]? = some v -> qly[k * 2 + j]? = some v
 | 0, x, hx, j, v, hj => by
   have e : x = ⟨4, 154, ap1, fun _ => true⟩ := (xaw hx).symm
   subst e
   match j, hj with
   | 0, hj => exact hj
   | 1, hj => exact hj
   | j + 2, hj => simp [ruC] at hj
 | 1, x, hx, j, v, hj => by
   have e : x = ⟨5, 155, ap2, en2⟩ := (xaw hx).symm
   subst e
   match j, hj with
   | 0, hj => exact hj
   | 1, hj => exact hj
   | j + 2, hj => simp [ruC] at hj
 | 2, x, hx, j, v, hj => by
   have e : x = ⟨6, 158, ap3, fun _ => false⟩ := (xaw hx).symm
   subst e
   match j, hj with
   | 0, hj => exact hj
   | 1, hj => exact hj
   | j + 2, hj => simp [ruC] at hj
 | 3, x, hx, j, v, hj => by
   have e : x = ⟨7, 159, ap4, fun _ => false⟩ := (xaw hx).symm
   subst e
   match j, hj with
   | 0, hj => exact hj
   | 1, hj => exact hj
   | j + 2, hj => simp [ruC] at hj
 | 4, x, hx, j, v, hj => by
   have e : x = ⟨8, 160, ap5, fun _ => true⟩ := (xaw hx).symm
   subst e
   match j, hj with
   | 0, hj => exact hj
   | 1, hj => exact hj
   | j + 2, hj => simp [ruC] at hj
 | 5, x, hx, j, v, hj => by
   have e : x = ⟨9, 161, ap6, fun _ => false⟩ := (xaw hx).symm
   subst e
   match j, hj with
   | 0, hj => exact hj
   | 1, hj => exact hj
   | j + 2, hj => simp [ruC] at hj
 | 6, x, hx, j, v, hj => by
   have e : x = ⟨11, 162, ap7, fun _ => false⟩ := (xaw hx).symm
   subst e
   match j, hj with
   | 0, hj => exact hj
   | 1, hj => exact hj
   | j + 2, hj => simp [ruC] at hj
 | 7, x, hx, j, v, hj => by
   have e : x = ⟨12, 163, ap8, fun _ => false⟩ := (xaw hx).symm
   subst e
   match j, hj with
   | 0, hj => exact hj
   | 1, hj => exact hj
   | j + 2, hj => simp [ruC] at hj
 | 8, x, hx, j, v, hj => by
   have e : x = ⟨13, 164, ap9, fun _ => false⟩ := (xaw hx).symm
   subst e
   match j, hj with
   | 0, hj => exact hj
   | 1, hj => exact hj
   | j + 2, hj => simp [ruC] at hj
 | 9, x, hx, j, v, hj => by
   have e : x = ⟨14, 165, ap10, fun _ => false⟩ := (xaw hx).symm
   subst e
   match j, hj with
   | 0, hj => exact hj
   | 1, hj => exact hj
   | j + 2, hj => simp [ruC] at hj
 | 10, x, hx, j, v, hj => by
   have e : x = ⟨15, 166, ap11, fun _ => false⟩ := (xaw hx).symm
   subst e
   match j, hj with
   | 0, hj => exact hj
   | 1, hj => exact hj
   | j + 2, hj => simp [ruC] at hj
 | 11, x, hx, j, v, hj => by
   have e : x = ⟨16, 167, ap12, fun _ => false⟩ := (xaw hx).symm
   subst e
   match j, hj with
   | 0, hj => exact hj
   | 1, hj => exact hj
   | j + 2, hj => simp [ruC] at hj
 | 12, x, hx, j, v, hj => by
   have e : x = ⟨17, 168, ap13, fun _ => false⟩ := (xaw hx).symm
   subst e
   match j, hj with
   | 0, hj => exact hj
   | 1, hj => exact hj
   | j + 2, hj => simp [ruC] at hj
 | 13, x, hx, j, v, hj => by
   have e : x = ⟨18, 169, ap14, fun _ => true⟩ := (xaw hx).symm
   subst e
   match j, hj with
   | 0, hj => exact hj
   | 1, hj => exact hj
   | j + 2, hj => simp [ruC] at hj
 | 14, x, hx, j, v, hj => by
   have e : x = ⟨19, 170, ap15, fun _ => false⟩ := (xaw hx).symm
   subst e
   match j, hj with
   | 0, hj => exact hj
   | 1, hj => exact hj
   | j + 2, hj => simp [ruC] at hj
 | 15, x, hx, j, v, hj => by
   have e : x = ⟨20, 171, ap16, fun _ => true⟩ := (xaw hx).symm
   subst e
   match j, hj with
   | 0, hj => exact hj
   | 1, hj => exact hj
   | j + 2, hj => simp [ruC] at hj
 | 16, x, hx, j, v, hj => by
   have e : x = ⟨21, 172, ap17, fun _ => false⟩ := (xaw hx).symm
   subst e
   match j, hj with
   | 0, hj => exact hj
   | 1, hj => exact hj
   | j + 2, hj => simp [ruC] at hj
 | 17, x, hx, j, v, hj => by
   have e : x = ⟨22, 173, ap18, fun _ => false⟩ := (xaw hx).symm
   subst e
   match j, hj with
   | 0, hj => exact hj
   | 1, hj => exact hj
   | j + 2, hj => simp [ruC] at hj
 | 18, x, hx, j, v, hj => by
   have e : x = ⟨23, 174, ap19, fun _ => false⟩ := (xaw hx).symm
   subst e
   match j, hj with
   | 0, hj => exact hj
   | 1, hj => exact hj
   | j + 2, hj => simp [ruC] at hj
 | 19, x, hx, j, v, hj => by
   have e : x = ⟨24, 175, ap20, fun _ => false⟩ := (xaw hx).symm
   subst e
   match j, hj with
   | 0, hj => exact hj
   | 1, hj => exact hj
   | j + 2, hj => simp [ruC] at hj
 | 20, x, hx, j, v, hj => by
   have e : x = ⟨25, 176, ap21, fun _ => false⟩ := (xaw hx).symm
   subst e
   match j, hj with
   | 0, hj => exact hj
   | 1, hj => exact hj
   | j + 2, hj => simp [ruC] at hj
 | 21, x, hx, j, v, hj => by
   have e : x = ⟨28, 177, ap22, fun _ => false⟩ := (xaw hx).symm
   subst e
   match j, hj with
   | 0, hj => exact hj
   | 1, hj => exact hj
   | j + 2, hj => simp [ruC] at hj
 | 22, x, hx, j, v, hj => by
   have e : x = ⟨29, 178, ap23, fun _ => false⟩ := (xaw hx).symm
   subst e
   match j, hj with
   | 0, hj => exact hj
   | 1, hj => exact hj
   | j + 2, hj => simp [ruC] at hj
 | 23, x, hx, j, v, hj => by
   have e : x = ⟨31, 179, ap24, fun _ => true⟩ := (xaw hx).symm
   subst e
   match j, hj with
   | 0, hj => exact hj
   | 1, hj => exact hj
   | j + 2, hj => simp [ruC] at hj
 | k + 24, x, hx, _, _, _ => by simp [rl] at hx
structure RuOk (x : Ru) : Prop where
 enters : ∀ args w, (callFunc x.f args).run Tryz.prog w = .ok (.enter x.f args) w
 calls : ∀ p w, Calls Tryz.prog x.f #[.agg (plC p)] w fun e w' => e = .returned (.tuple #[.bool (x.ap p), .bool (x.en p)]) /\ Below w.heap.size w w'
theorem rl_ok : ∀ x ∈ rl, RuOk x := by
 intro x hx
 simp only [rl, List.mem_cons, List.not_mem_nil, or_false] at hx
 rcases hx with rfl | rfl | rfl | rfl | rfl | rfl | rfl | rfl | rfl | rfl | rfl | rfl | rfl | rfl | rfl | rfl | rfl | rfl | rfl | rfl | rfl | rfl | rfl | rfl
 ·exact ⟨enters_of Tryz.func154 (by kernel_rfl) rfl, qzd⟩
 ·exact ⟨enters_of Tryz.func155 (by kernel_rfl) rfl, qzc⟩
 ·exact ⟨enters_of Tryz.func158 (by kernel_rfl) rfl, qzb⟩
 ·exact ⟨enters_of Tryz.func159 (by kernel_rfl) rfl, qza⟩
 ·exact ⟨enters_of Tryz.func160 (by kernel_rfl) rfl, qy9⟩
 ·exact ⟨enters_of Tryz.func161 (by kernel_rfl) rfl, qy8⟩
 ·exact ⟨enters_of Tryz.func162 (by kernel_rfl) rfl, qy7⟩
 ·exact ⟨enters_of Tryz.func163 (by kernel_rfl) rfl, qy6⟩
 ·exact ⟨enters_of Tryz.func164 (by kernel_rfl) rfl, qy5⟩
 ·exact ⟨enters_of Tryz.func165 (by kernel_rfl) rfl, quq⟩
 ·exact ⟨enters_of Tryz.func166 (by kernel_rfl) rfl, qup⟩
 ·exact ⟨enters_of Tryz.func167 (by kernel_rfl) rfl, qun⟩
 ·exact ⟨enters_of Tryz.func168 (by kernel_rfl) rfl, qum⟩
 ·exact ⟨enters_of Tryz.func169 (by kernel_rfl) rfl, qul⟩
 ·exact ⟨enters_of Tryz.func170 (by kernel_rfl) rfl, quk⟩
 ·exact ⟨enters_of Tryz.func171 (by kernel_rfl) rfl, quj⟩
 ·exact ⟨enters_of Tryz.func172 (by kernel_rfl) rfl, qui⟩
 ·exact ⟨enters_of Tryz.func173 (by kernel_rfl) rfl, quh⟩
 ·exact ⟨enters_of Tryz.func174 (by kernel_rfl) rfl, qug⟩
 ·exact ⟨enters_of Tryz.func175 (by kernel_rfl) rfl, quf⟩
 ·exact ⟨enters_of Tryz.func176 (by kernel_rfl) rfl, que⟩
 ·exact ⟨enters_of Tryz.func177 (by kernel_rfl) rfl, qud⟩
 ·exact ⟨enters_of Tryz.func178 (by kernel_rfl) rfl, quc⟩
 ·exact ⟨enters_of Tryz.func179 (by kernel_rfl) rfl, qub⟩
theorem iTb : (Tryz.prog.info? 228).map (·.size) = some 48 := by kernel_rfl
theorem alTb (w : World) : (Instr.alloc 228 true (.tuple #[])).run Tryz.prog w = .ok (.pointer (some ⟨w.heap.size, 0, none⟩)) (w.alloc (.cells zTb 228)) := by kernel_rfl
theorem qn2 (w : World) :
 Calls Tryz.prog 145 #[] w fun e w' => e = .returned (.agg qly) /\ Below w.heap.size w w' := by
 go_enter Tryz.func145, Tryz.ntmps145
 go_wp2_with (first
  | (refine qao rfl 228 rfl _ alTb ?_; intro w1 b1 B1)
  | (refine qah rfl 228 (.tmp 0) (.tmp 25) rfl rfl _ rfl qly rfl 228 zTb B1 iTb rfl (by kernel_rfl) ?_; intro w2 m2 B2))
 refine bodyPost_ret (v := .agg qly) (qbf rfl _ _ w.heap.size 228 qly _ rfl B2 Tryz.underlying228 rfl iTb) rfl ⟨rfl, b1.trans (m2.below b1.size (fun k hk => by omega))⟩
def frst (p : Plc) : List Ru -> Int × Bool
 | [] => (0, false)
 | x :: t => if x.ap p then (x.num, x.en p) else frst p t
theorem qj2 (p : Plc) : ∀ (l : List Ru) (k : Nat), (∀ j x, j < k -> l[j]? = some x -> x.ap p = false) -> frst p l = frst p (l.drop k)
 | _, 0, _ => rfl
 | [], k + 1, _ => rfl
 | x :: t, k + 1, h => by
   have h0 := h 0 x (by omega) rfl
   show (if x.ap p then _ else frst p t) = _
   rw [h0, if_neg (by decide)]
   exact qj2 p t k fun j y hj hy => h (j + 1) y (by omega) hy
theorem qrz (p : Plc) {l : List Ru} {k : Nat} {x : Ru} (h : ∀ j x, j < k -> l[j]? = some x -> x.ap p = false) (hx : l[k]? = some x) (ha : x.ap p = true) : frst p l = (x.num, x.en p) := by
 rw [qj2 p l k h]
 obtain ⟨hl, he⟩ := xah hx
 rw [List.drop_eq_getElem_cons hl, he]
 show (if x.ap p then _ else _) = _
 rw [ha]
 rfl
theorem lookAt {l : List Ru} {k : Nat} {x : Ru} {p : Plc} (h : ∀ j x, j < k -> l[j]? = some x -> x.ap p = false) (hx : l[k]? = some x) (ha : x.ap p = false) : ∀ j x, j < k + 1 -> l[j]? = some x -> x.ap p = false := fun j y hj hy => by
 by_cases e : j = k
 ·subst e
  rw [hx] at hy
  cases hy
  exact ha
 ·exact h j y (by omega) hy
end
section
open Go.Shelf
def vdC (v : Int × Bool) : Array Value := #[.int .u8 v.1, .bool v.2]
theorem uV : Tryz.prog.underlying 200 = some (.struct (Tryz.prog.fieldsOf 200)) := by kernel_rfl
theorem iV (x : Int × Bool) : (Tryz.prog.info? 200).map (·.size) = some (vdC x).size := by kernel_rfl
theorem oneV (x : Int × Bool) : (vdC x).all (·.oneCell') = true := by kernel_rfl
theorem alV (w : World) : (Instr.alloc 200 true (.tuple #[])).run Tryz.prog w = .ok (.pointer (some ⟨w.heap.size, 0, none⟩)) (w.alloc (.cells (vdC (0, false)) 200)) := by kernel_rfl
theorem uR : Tryz.prog.underlying 226 = some (.struct (Tryz.prog.fieldsOf 226)) := by kernel_rfl
theorem iR (n : Int) (f : Nat) : (Tryz.prog.info? 226).map (·.size) = some (ruC n f).size := by kernel_rfl
theorem oneR (n : Int) (f : Nat) : (ruC n f).all (·.oneCell') = true := by kernel_rfl
theorem alR (w : World) : (Instr.alloc 226 true (.tuple #[])).run Tryz.prog w = .ok (.pointer (some ⟨w.heap.size, 0, none⟩)) (w.alloc (.cells #[.int .u8 0, .nilFunc] 226)) := by kernel_rfl
section
variable {ops : Array Oper} {Q : Exit -> Act -> World -> Prop} {a : Act} {w : World} {rest : List Oper} {o o1 o2 : Oper}
theorem ldV (hg : o.guard = none) (x : Operand) (ho : o.op = .load 200 x) (p : Addr) (hx : a.eval x = .pointer (some p)) (s : Int × Bool) (hL : qar w p (vdC s))
 (h : wpList Tryz.prog ops Q rest (a.put o.dst (.agg (vdC s))) w) : wpList Tryz.prog ops Q (o :: rest) a w := qan hg 200 x ho p hx (vdC s) _ hL uV rfl (iV s) h
theorem alVV (hg : o.guard = none) (ho : o.op = .alloc 200) (h : ∀ w', Below w.heap.size w w' -> Blk w' w.heap.size 200 (vdC (0, false)) -> wpList Tryz.prog ops Q rest (a.put o.dst (.pointer (some ⟨w.heap.size, 0, none⟩))) w') : wpList Tryz.prog ops Q (o :: rest) a w :=
 qao hg 200 ho _ alV h
theorem stV (hg : o.guard = none) (x y : Operand) (ho : o.op = .store 200 x y) (hd : o.dst = none) (g : Nat) (hx : a.eval x = .pointer (some ⟨g, 0, none⟩)) (s : Int × Bool) (hy : a.eval y = .agg (vdC s)) {t : TypeId} (old : Int × Bool) (hB : Blk w g t (vdC old))
 (h : ∀ w', Mod (fun k => k = g) w w' -> Blk w' g t (vdC s) -> wpList Tryz.prog ops Q rest a w') : wpList Tryz.prog ops Q (o :: rest) a w :=
 qah hg 200 x y ho hd g hx (vdC s) hy t (vdC old) hB (iV s) rfl (oneV s) h
theorem ldR (hg : o.guard = none) (x : Operand) (ho : o.op = .load 226 x) (p : Addr) (hx : a.eval x = .pointer (some p)) (n : Int) (f : Nat) (hL : qar w p (ruC n f))
 (h : wpList Tryz.prog ops Q rest (a.put o.dst (.agg (ruC n f))) w) : wpList Tryz.prog ops Q (o :: rest) a w := qan hg 226 x ho p hx (ruC n f) _ hL uR rfl (iR n f) h
theorem nwR (hg1 : o1.guard = none) (hg2 : o2.guard = none) (D : Tmp) (hd1 : o1.dst = some D) (ho1 : o1.op = .alloc 226) (y : Operand) (ho2 : o2.op = .store 226 (.tmp D) y) (hd2 : o2.dst = none)
 (n : Int) (f : Nat) (hx : ∀ v, (a.put (some D) v).eval (.tmp D) = v) (hy : ∀ v, (a.put (some D) v).eval y = .agg (ruC n f))
 (h : ∀ w', Below w.heap.size w w' -> Blk w' w.heap.size 226 (ruC n f) -> wpList Tryz.prog ops Q rest (a.put (some D) (.pointer (some ⟨w.heap.size, 0, none⟩))) w') : wpList Tryz.prog ops Q (o1 :: o2 :: rest) a w :=
 qab hg1 hg2 226 D hd1 ho1 y ho2 hd2 _ alR (ruC n f) hx hy (iR n f) rfl (oneR n f) h
end
theorem qn6 (p : Plc) (T : Nat) (w : World) (hT : Blk w T 228 qly) :
 Calls Tryz.prog 147 #[.pointer (some ⟨T, 0, none⟩), .agg (plC p)] w fun e w' => e = .returned (.agg (vdC (frst p rl))) /\ Below w.heap.size w w' := by
 have HT := xaa hT
 obtain ⟨r, hr⟩ : ∃ r, frst p rl = r := ⟨_, rfl⟩
 have HR := xaa hr
 rw [hr]
 clear hr hT
 go_enter Tryz.func147, Tryz.ntmps147
 go_wp2_with (first
  | (refine qe7 rfl (.tmp 1) rfl p rfl ?_; intro w1 b1 B1)
  | (refine alVV (o := ⟨some 4, _, _, _, _, _⟩) rfl rfl ?_; intro w2 b2 B2)
  | (refine alVV (o := ⟨some 5, _, _, _, _, _⟩) rfl rfl ?_; intro w3 b3 B3))
 have b03 := xaq b1 (xaq b2 b3)
 have l1 := B1.lt
 have l2 := B2.lt
 have l3 := B3.lt
 have l0 := HT.out.lt
 have HK : Hid (∀ W, Below w3.heap.size w3 W -> Blk W T 228 qly /\ Blk W w.heap.size 234 (plC p) /\ Blk W w1.heap.size 200 (vdC (0, false)) /\ Blk W w2.heap.size 200 (vdC (0, false))) := xaa fun W h => by
  have m3 := xap (S := fun _ => False) h
  have m2 := (xap (S := fun _ => False) b3).trans m3
  have m1 := (xap (S := fun _ => False) b2).trans m2
  have m0 := (xap (S := fun _ => False) b1).trans m1
  exact ⟨HT.out.keep m0 id, B1.keep m1 id, B2.keep m2 id, B3.keep m3 id⟩
 have hs1 := b1.size
 have hs2 := b2.size
 have hs3 := b3.size
 clear B1 B2 B3 b1 b2 b3 HT
 go_loopg [12] 24 (fun kx i wr => ∃ (k : Nat), i = .int .i64 k /\ k <= 24 /\ kx = 24 - k /\ Below w3.heap.size w3 wr /\ Hid (∀ j x, j < k -> rl[j]? = some x -> x.ap p = false))
 case atStart => exact ⟨0, rfl, by omega, by omega, xas, xaa fun j x h => absurd h (by omega)⟩
 case round =>
  obtain ⟨k, rfl, hk, rfl, bel, HN⟩ := hrel
  by_cases hlt : k < 24
  ·obtain ⟨x, hx⟩ : ∃ x, rl[k]? = some x := ⟨_, xac (show k < rl.length from hlt)⟩
   obtain ⟨kT, kP, kR, kV⟩ := HK.out wr bel
   have L : qar wr ⟨T, k * 2, none⟩ (ruC x.num x.f) := kT.part (k * 2) (qth k x hx)
   have hok := rl_ok x (xav hx)
   have HX := xaa hx
   obtain ⟨q, hq⟩ : ∃ q, x.ap p = q := ⟨_, rfl⟩
   obtain ⟨q2, hq2⟩ : ∃ q, x.en p = q := ⟨_, rfl⟩
   have HC : Hid (∀ W, Calls Tryz.prog x.f #[.agg (plC p)] W fun e w' => e = .returned (.tuple #[.bool q, .bool q2]) /\ Below W.heap.size W w') := xaa fun W => by rw [<- hq, <- hq2]; exact hok.calls p W
   have hen := hok.enters
   have HQ : Hid (q = true -> r = (x.num, q2)) := xaa fun h => by rw [<- HR.out, <- hq2]; exact qrz p HN.out hx (hq.trans h)
   have HQ0 : Hid (q = false -> ∀ j x, j < k + 1 -> rl[j]? = some x -> x.ap p = false) := xaa fun h => lookAt HN.out hx (hq.trans h)
   generalize x.f = f at *
   generalize x.num = n at *
   have hkz : (k : Int) < 24 := by omega
   clear hok hx hq hq2 HX kT kP kR kV
   go_wp2_with (first
    | (refine ldR (o := ⟨some 16, _, _, _, _, _⟩) rfl (.tmp 15) rfl _ rfl n f L ?_)
    | (refine nwR (o1 := ⟨some 7, _, _, _, _, _⟩) rfl rfl 7 rfl rfl (.tmp 16) rfl rfl n f (fun _ => rfl) (fun _ => rfl) ?_; intro w4 b4 B4; refine Mk.out ?_))
   constructor
   have bel4 := bel.trans (b4.mono bel.size)
   obtain ⟨kT, kP, kR, kV⟩ := HK.out w4 bel4
   have n1 : w4.cell? ⟨wr.heap.size, 1, none⟩ = some (.func (.func f) #[] #[]) := B4.cell 1
   have LP := kP.lies
   clear L kT kR kV
   go_wp2_with (refine ldP (o := ⟨some 20, _, _, _, _, _⟩) rfl (.tmp 3) rfl _ rfl p LP ?_)
   refine (HC.out _).mono ?_
   rintro e w5 ⟨rfl, b5⟩
   have bel5 := bel4.trans (b5.mono bel4.size)
   have B5 := B4.kb b5
   obtain ⟨kT, kP', kR, kV⟩ := HK.out w5 bel5
   have n0 : w5.cell? ⟨wr.heap.size, 0, none⟩ = some (.int .u8 n) := B5.cell 0
   clear LP n1 kT kP' hen
   cases q
   ·go_wp2_with fail
    go_roundg (24 - (k + 1))
    case measure => omega
    case rel => exact ⟨k + 1, by go_num, by omega, by first | rfl | trivial, bel5, xaa (HQ0.out (by first | rfl | trivial))⟩
   ·obtain rfl := HQ.out rfl
    go_wp2_with (first
     | (refine stV rfl (.tmp 5) (.tmp 28) rfl rfl _ rfl (n, q2) rfl (0, false) kV ?_; intro w6 m6 B6)
     | (refine ldV rfl (.tmp 5) rfl _ rfl (n, q2) B6.lies ?_)
     | (refine stV rfl (.tmp 4) (.tmp 30) rfl rfl _ rfl (n, q2) rfl (0, false) (kR.keep m6 (by omega)) ?_; intro w7 m7 B7))
    have s5 := bel5.size
    have c5 : Below w.heap.size w w5 := b03.trans (bel5.mono (by omega))
    have c6 : Below w.heap.size w w6 := c5.trans (m6.below c5.size fun k hk => by omega)
    have c7 : Below w.heap.size w w7 := c6.trans (m7.below c6.size fun k hk => by omega)
    exact bodyPost_ret (v := .agg (vdC (n, q2))) (qbf rfl _ _ w1.heap.size 200 _ _ rfl B7 uV rfl (iV _)) rfl ⟨rfl, c7⟩
  ·obtain rfl : k = 24 := by omega
   exact absurd (show true = false from HN.out 23 _ (by omega) rfl) (by decide)
end
section
open Go.Shelf
attribute [local go_sem] Oper.semAt_some
section
variable {F : Fence} {n : Nat} {ops : Array Oper} {Q : Exit -> Act -> World -> Prop} {a : Act} {w : World} {rest : List Oper} {o o1 o2 : Oper}
theorem wpListIn_valIf {P : Program} {w' : World} (hF : ∀ f, F.fn f) (hd : ∀ c, o.op ≠ .defer c) (hw : Region.wanted o (yielded ops a.tmps) = true) (dst : Option Tmp) (hdst : o.dst = dst) (v : Value) (hrun : (execOp a.eval o).run P w = .ok (.value v) w')
 (h : wpListIn F n P ops Q rest (a.put dst v) w') : wpListIn F n P ops Q (o :: rest) a w := by
 subst hdst
 refine wpListIn_step fun K hK => ?_
 rw [if_pos hw]
 exact wpIn_val hF hd hrun (hK _ _ h)
theorem ldPIn (hF : ∀ f, F.fn f) (hg : o.guard = none) (x : Operand) (ho : o.op = .load 234 x) (p : Addr) (hx : a.eval x = .pointer (some p)) (s : Plc) (hL : qar w p (plC s))
 (h : wpListIn F n Tryz.prog ops Q rest (a.put o.dst (.agg (plC s))) w) : wpListIn F n Tryz.prog ops Q (o :: rest) a w :=
 wpListIn_val hF (fun c hc => by rw [ho] at hc; cases hc) hg _ rfl _ _ (rdP x ho p hx s hL) h
theorem qzx (hF : ∀ f, F.fn f) (hw : Region.wanted o (yielded ops a.tmps) = true) (x : Operand) (ho : o.op = .load 234 x) (p : Addr) (hx : a.eval x = .pointer (some p)) (s : Plc) (hL : qar w p (plC s))
 (h : wpListIn F n Tryz.prog ops Q rest (a.put o.dst (.agg (plC s))) w) : wpListIn F n Tryz.prog ops Q (o :: rest) a w :=
 wpListIn_valIf hF (fun c hc => by rw [ho] at hc; cases hc) hw _ rfl _ (rdP x ho p hx s hL) h
theorem nwPIn (hF : ∀ f, F.fn f) (hg1 : o1.guard = none) (hg2 : o2.guard = none) (D : Tmp) (hd1 : o1.dst = some D) (ho1 : o1.op = .alloc 234) (y : Operand) (ho2 : o2.op = .store 234 (.tmp D) y) (hd2 : o2.dst = none)
 (s : Plc) (hx : ∀ v, (a.put (some D) v).eval (.tmp D) = v) (hy : ∀ v, (a.put (some D) v).eval y = .agg (plC s))
 (h : ∀ w', Below w.heap.size w w' -> KeepsOthers w w' -> Blk w' w.heap.size 234 (plC s) -> wpListIn F n Tryz.prog ops Q rest (a.put (some D) (.pointer (some ⟨w.heap.size, 0, none⟩))) w') : wpListIn F n Tryz.prog ops Q (o1 :: o2 :: rest) a w :=
 wpListIn_newS hF hg1 hg2 234 D hd1 ho1 y ho2 hd2 _ alPp (plC s) hx hy (iPp s) rfl (oneP s) h
theorem stPIn (hF : ∀ f, F.fn f) (hg : o.guard = none) (x y : Operand) (ho : o.op = .store 234 x y) (hd : o.dst = none) (g : Nat) (hx : a.eval x = .pointer (some ⟨g, 0, none⟩)) (s : Plc) (hy : a.eval y = .agg (plC s)) {t : TypeId} (old : Plc) (hB : Blk w g t (plC old))
 (h : ∀ w', Mod (fun k => k = g) w w' -> Blk w' g t (plC s) -> wpListIn F n Tryz.prog ops Q rest a w') : wpListIn F n Tryz.prog ops Q (o :: rest) a w := by
 refine wpListIn_skp hF (fun c hc => by rw [ho] at hc; cases hc) hg hd (w.setRow g (spl (plC old) 0 (plC s).toList)) ?_ ?_
 ·exact run_op_store 234 x y ho g 0 hx (plC s) hy t (plC old) hB (iPp s) (by simp [plC]) (oneP s)
 ·refine h _ (qai _ _ _) ?_
  have e : spl (plC old) 0 (plC s).toList = plC s := by simp [spl, plC]
  rw [e]
  exact setRow_heap _ _ _ _ _ _ hB
end
def p0 : Plc := ⟨255, 255, 255, false⟩
def pst (l : List Int) (k : Nat) : Plc := (l.take k).foldl nxP p0
theorem qii {l : List Int} {k : Nat} {x : Int} (h : l[k]? = some x) : pst l (k + 1) = nxP (pst l k) x := by
 unfold pst
 rw [List.take_add_one, h, List.foldl_append]
 rfl
abbrev NI (l : List Int) := { i : Nat // 0 < i /\ i < l.length }
def encP {l : List Int} (x : NI l) : Array Value := #[.int .i64 (x.1 : Int), .agg (plC (pst l (x.1 + 1)))]
def Kq (B : Nat) (W W' : World) : Prop := W.heap.size <= W'.heap.size /\ ∀ k, B <= k -> k < W.heap.size -> W'.heap[k]? = W.heap[k]?
theorem Blk.kq {B g : Nat} {W W' : World} {t : TypeId} {cs : Array Value} (h : Blk W g t cs) (k : Kq B W W') (hg : B <= g) : Blk W' g t cs := (k.2 g hg h.lt).trans h
theorem qrt {k : Nat} {pre : List Nat} (h : pre = List.range' 1 (k - 1)) (hk : 0 < k) : pre ++ [k] = List.range' 1 k := by
 obtain ⟨j, rfl⟩ : ∃ j, k = j + 1 := ⟨k - 1, by omega⟩
 rw [h, List.range'_concat]
 simp [Nat.add_comm]
theorem qn3 (A : Option Addr) (k c : Nat) (w : World) :
 Calls Tryz.prog 146 #[.slice A k c] w fun e w' => e = .returned (.func (.func 180) #[] #[.pointer (some ⟨w.heap.size, 0, none⟩)]) /\ Boxed w' w.heap.size 73 (.slice A k c) /\ Below w.heap.size w w' := by
 go_enter Tryz.func146, Tryz.ntmps146
 go_wp2
 go_ret
 exact ⟨rfl, Boxed.new _ _ _, xar _ _⟩
theorem qn4 (n Bs lp : Nat) (l : List Int) (v : Value) (w0 : World) (I : List (NI l) -> World -> Prop) (hlen : l.length <= 1048576)
 (hI : ∀ pre X Y, I pre X -> Mod (fun k => w0.heap.size <= k) X Y -> I pre Y)
 (hS : ∀ pre X, I pre X -> X.cell? ⟨Bs, 0, none⟩ = some v /\ R8 X v l)
 (hY : ∀ (m : Nat) pre x W, I pre W -> pre.length < l.length -> YieldAt Fence.wide m Tryz.prog lp (encP x) W fun e W' => e = .returned (.bool true) /\ I (pre ++ [x]) W' /\ Kq w0.heap.size W W')
 (h0 : I [] w0) :
 CallsIn Fence.wide n Tryz.prog 180 (#[.func (.yield lp) #[] #[]] ++ #[.pointer (some ⟨Bs, 0, none⟩)]) w0 fun e W' => (∃ v, e = .returned v) /\ ∃ xs : List (NI l), xs.map (fun x => x.1) = List.range' 1 (l.length - 1) /\ I xs W' := by
 have HI := xaa hI
 have HS := xaa hS
 have HY := xaa hY
 obtain ⟨A, cap, hv⟩ := (hS [] w0 h0).2.form
 obtain ⟨m, hm⟩ : ∃ m, l.length = m := ⟨_, rfl⟩
 have HM := xaa hm
 rw [qd6, hm] at hv
 subst hv
 rw [hm] at hlen
 clear hI hS hY hm
 refine callsIn_of_wp Tryz.func180 rfl trivial ?_ rfl
 simp only [Tryz.ntmps180, List.size_toArray, List.length_cons, List.length_nil, Nat.reduceAdd, Nat.reduceSub, Array.replicate_succ, Array.replicate_zero, List.push_toArray, List.append_toArray, List.nil_append, List.cons_append]
 gi_wp2_with (refine nwPIn (fun _ => trivial) rfl rfl 3 rfl rfl (.tmp 6) rfl rfl p0 (fun _ => rfl) (fun _ => rfl) ?_; intro w1 b1 k1 B1; refine Mk.out ?_)
 constructor
 have hI1 := HI.out [] w0 w1 h0 (xap b1)
 have hBs := (HS.out [] w1 hI1).1
 have s1 := b1.size
 have hB1 := B1.lt
 clear h0 k1
 gi_wp2
 gi_loopw [9] (fun s9 wr => ∃ (k : Nat) (pre : List (NI l)), s9 = .int .i64 (k : Int) /\ k <= m /\ Hid (pre.map (fun x => x.1) = List.range' 1 (k - 1)) /\ I pre wr /\ Blk wr w0.heap.size 234 (plC (pst l k)))
  (fun s9 _ => m - (intOf s9).toNat)
 case atStart => exact ⟨0, [], by go_num, Nat.zero_le _, xaa rfl, hI1, B1⟩
 case round =>
  obtain ⟨k, pre, rfl, hk, HP, hJ, hB⟩ := hrel
  clear hI1 B1 hBs b1 hB1 s1
  by_cases h1 : k < m
  ·obtain ⟨x, hx⟩ : ∃ x, l[k]? = some x := ⟨_, xac (by rw [HM.out]; exact h1)⟩
   obtain ⟨a, cap2, hv, _, _, hcell⟩ := (HS.out pre wr hJ).2.at_ (by rw [qd6, HM.out]; omega)
   obtain rfl : A = some a := by injection hv
   have hcz := hcell k _ (r8_at hx)
   have hkz : (k : Int) < m := by omega
   have hst := qii hx
   have HJ := xaa hJ
   have HB := xaa hB
   have L := hB.lies
   obtain ⟨ps, hps⟩ : ∃ p, pst l k = p := ⟨_, rfl⟩
   have HPS := xaa hps
   rw [hps] at L
   have C : Hid (∀ w, Calls Tryz.prog 181 #[.agg (plC ps), .int .u8 x] w fun e w' => e = .returned (.agg (plC (pst l (k + 1)))) /\ Below w.heap.size w w') := xaa fun w => by rw [hst, hps]; exact qqv ps x w
   obtain ⟨pn, hpn⟩ : ∃ p, pst l (k + 1) = p := ⟨_, rfl⟩
   have HPN := xaa hpn
   rw [hpn] at C
   clear hv hcell hx hst hJ hB hps hpn
   gi_wp2_with (refine ldPIn (o := ⟨some 14, _, _, _, _, _⟩) (fun _ => trivial) rfl (.tmp 3) rfl _ rfl ps L ?_)
   refine ⟨trivial, fun h => (by cases h), (callsIn_wide.2 (C.out _)).mono ?_⟩
   rintro e w2 ⟨rfl, b2⟩
   have B2 := HB.out.kb b2
   gi_wp2_with (refine stPIn (fun _ => trivial) rfl (.tmp 3) (.tmp 16) rfl rfl _ rfl pn rfl _ B2 ?_; intro w3 m3 B3; refine Mk.out ?_)
   constructor
   have hJ3 : I pre w3 := HI.out pre w2 w3 (HI.out pre wr w2 HJ.out (xap b2)) (m3.mono fun i hi => .inl (by omega))
   have L3 := B3.lies
   clear B2 b2 C
   by_cases h0 : 0 < k
   ·obtain ⟨pre2, hpre2⟩ : ∃ p, pre ++ [(⟨k, h0, by rw [HM.out]; exact h1⟩ : NI l)] = p := ⟨_, rfl⟩
    have hpl : pre.length < l.length := by
     have := congrArg List.length HP.out
     simp at this
     rw [HM.out]
     omega
    have HP2 : Hid (pre2.map (fun x => x.1) = List.range' 1 k) := xaa (by rw [<- hpre2, List.map_append]; exact qrt HP.out h0)
    obtain ⟨fn, tmps, assign, body, hy, hRd⟩ := HY.out (n - 1) pre ⟨k, h0, by rw [HM.out]; exact h1⟩ w3 hJ3 hpl
    have hen : encP (⟨k, h0, by rw [HM.out]; exact h1⟩ : NI l) = #[.int .i64 (k : Int), .agg (plC pn)] := by unfold encP; rw [HPN.out]
    rw [hen] at hy
    rw [hpre2] at hRd
    clear hen hpre2 hJ3 hpl
    have h0z : (0 : Int) < (k : Int) := by omega
    have HB3 := xaa B3
    clear B3
    gi_wp2_with (refine qzx (o := ⟨some 22, _, _, _, _, _⟩) (fun _ => trivial) (by kernel_rfl) (.tmp 3) rfl _ rfl pn L3 ?_)
    refine ⟨fun h => (by cases h), hRd.mono ?_⟩
    rintro e w4 ⟨rfl, hJ4, hk4⟩
    have B4 := HB3.out.kq hk4 (xat)
    rw [<- HPN.out] at B4
    gi_wp2
    go_roundw
    case rel => exact ⟨k + 1, pre2, by go_num, by omega, HP2, hJ4, B4⟩
    case measure => simp [intOf]; omega
   ·obtain rfl : k = 0 := by omega
    rw [<- HPN.out] at B3
    gi_wp2
    refine ⟨fun f hf => (by cases hf), ?_⟩
    gi_wp2
    go_roundw
    case rel => exact ⟨1, pre, by go_num, by omega, HP, hJ3, B3⟩
    case measure => simp [intOf]; omega
  ·obtain rfl : k = m := by omega
   clear HY
   gi_wp2
   go_end0
   exact ⟨⟨_, rfl⟩, pre, by have := HP.out; rwa [<- HM.out] at this, hJ⟩
end
section
open Go.Shelf
theorem qn0 (v : Int × Bool) (w : World) : Calls Tryz.prog 125 #[.agg (vdC v)] w fun e w' => e = .returned (.bool v.2) /\ Below w.heap.size w w' := by
 obtain ⟨r, b⟩ := v
 have hb := xar w (.cells (vdC (r, b)) 200)
 go_enter Tryz.func125, Tryz.ntmps125
 unfold vdC at hb |-
 go_wp2_with fail
 go_ret
 exact ⟨rfl, hb⟩
section
variable {F : Fence} {n : Nat} {ops : Array Oper} {Q : Exit -> Act -> World -> Prop} {a : Act} {w : World} {rest : List Oper} {o1 o2 : Oper}
theorem nwTbIn (hF : ∀ f, F.fn f) (hg1 : o1.guard = none) (hg2 : o2.guard = none) (D : Tmp) (hd1 : o1.dst = some D) (ho1 : o1.op = .alloc 228) (y : Operand) (ho2 : o2.op = .store 228 (.tmp D) y) (hd2 : o2.dst = none)
 (hx : ∀ v, (a.put (some D) v).eval (.tmp D) = v) (hy : ∀ v, (a.put (some D) v).eval y = .agg qly)
 (h : ∀ w', Below w.heap.size w w' -> KeepsOthers w w' -> Blk w' w.heap.size 228 qly -> wpListIn F n Tryz.prog ops Q rest (a.put (some D) (.pointer (some ⟨w.heap.size, 0, none⟩))) w') : wpListIn F n Tryz.prog ops Q (o1 :: o2 :: rest) a w :=
 wpListIn_newS hF hg1 hg2 228 D hd1 ho1 y ho2 hd2 _ alTb qly hx hy iTb rfl (by kernel_rfl) h
end
def got (z : Value) (g : Nat -> Value) (pre : List Nat) (j : Nat) : Value := if j ∈ pre then g j else z
theorem qvg (z : Value) (g : Nat -> Value) (pre : List Nat) (i : Nat) : qyi (got z g pre) i (g i) = got z g (pre ++ [i]) := by
 funext j
 unfold qyi got
 by_cases e : j = i
 ·subst e
  simp
 ·rw [if_neg e]
  simp [e]
def qyh (l : List Int) (j : Nat) : Int × Bool := frst (pst l (j + 1)) rl
structure Pt (w0 : World) (L : Nat) (tF tS tE tL : TypeId) (vf vl vs : Value) (G Ba T Bs : Nat) (n : Nat) (z : Value) (g : Nat -> Value) (rdy : Obj) (pre : List Nat) (X : World) : Prop where
 fn : Boxed X w0.heap.size tF vf
 row : Blk X G tE (qa0 n (got z g pre))
 all : Boxed X Ba tS vs
 tb : Blk X T 228 qly
 ls : Boxed X Bs tL vl
 loop : X.heap[L]? = some rdy
 defd : X.heap[L - 1]? = some (.deferred (some []))
 below : Below w0.heap.size w0 X
 size : L < X.heap.size
theorem Pt.mod {w0 : World} {L : Nat} {tF tS tE tL : TypeId} {vf vl vs : Value} {G Ba T Bs n : Nat} {z : Value} {g : Nat -> Value} {rdy : Obj} {pre : List Nat} {X Y : World} {B : Nat} (h : Pt w0 L tF tS tE tL vf vl vs G Ba T Bs n z g rdy pre X)
 (hB : L < B) (h1 : w0.heap.size < B) (h2 : G < B) (h3 : Ba < B) (h4 : T < B) (h5 : Bs < B) (m : Mod (fun k => B <= k) X Y) : Pt w0 L tF tS tE tL vf vl vs G Ba T Bs n z g rdy pre Y :=
 ⟨(m.block _ h.fn.lt (by omega)).trans h.fn, h.row.keep m (by omega), (m.block _ h.all.lt (by omega)).trans h.all, h.tb.keep m (by omega), (m.block _ h.ls.lt (by omega)).trans h.ls,
  (m.block _ h.size (by omega)).trans h.loop, (m.block _ (by have := h.size; omega) (by omega)).trans h.defd, h.below.trans (m.below h.below.size (fun k hk => by omega)), Nat.lt_of_lt_of_le h.size m.size⟩
theorem Pt.put {w0 : World} {L : Nat} {tF tS tE tL : TypeId} {vf vl vs : Value} {G Ba T Bs n : Nat} {z : Value} {g : Nat -> Value} {rdy : Obj} {pre : List Nat} {X : World} (o : Obj) (h : Pt w0 L tF tS tE tL vf vl vs G Ba T Bs n z g rdy pre X)
 (h0 : w0.heap.size < L - 1) (h2 : G < L - 1) (h3 : Ba < L - 1) (h4 : T < L - 1) (h5 : Bs < L - 1) : Pt w0 L tF tS tE tL vf vl vs G Ba T Bs n z g o pre (X.putObj L o) := by
 have k : ∀ j, j ≠ L -> (X.putObj L o).heap[j]? = X.heap[j]? := fun j hj => World.putObj_heap_other hj
 exact ⟨(k _ (by omega)).trans h.fn, (k _ (by omega)).trans h.row, (k _ (by omega)).trans h.all, (k _ (by omega)).trans h.tb, (k _ (by omega)).trans h.ls, World.putObj_heap_same h.size, (k _ (by omega)).trans h.defd,
  h.below.grown (grownBy_putObj' X L o) h.below.size (fun j e => by injection e with e; omega), by simp [World.putObj]; exact h.size⟩
theorem Pt.set_ {w0 : World} {L : Nat} {tF tS tE tL : TypeId} {vf vl vs : Value} {G Ba T Bs n : Nat} {z : Value} {g : Nat -> Value} {rdy : Obj} {pre : List Nat} {X : World} (i : Nat) (h : Pt w0 L tF tS tE tL vf vl vs G Ba T Bs n z g rdy pre X)
 (h0 : w0.heap.size < G) (h1 : G ≠ Ba) (h2 : G ≠ T) (h3 : G ≠ Bs) (h4 : G ≠ L) (h5 : G ≠ L - 1) (_ : 0 < n) : Pt w0 L tF tS tE tL vf vl vs G Ba T Bs n z g rdy (pre ++ [i]) (X.setCell ⟨G, i, none⟩ (g i)) := by
 have m : Mod (fun k => k = G) X (X.setCell ⟨G, i, none⟩ (g i)) := Mod.setCell (S := fun k => k = G) (Mod.refl _ _) (.inl rfl) _
 have hr := h.row.set_ i (g i)
 rw [qdb, qvg] at hr
 exact ⟨(m.block _ h.fn.lt (by omega)).trans h.fn, hr, (m.block _ h.all.lt (by omega)).trans h.all, h.tb.keep m (by omega), (m.block _ h.ls.lt (by omega)).trans h.ls,
  (m.block _ h.size (by omega)).trans h.loop, (m.block _ (by have := h.size; omega) (by omega)).trans h.defd, h.below.trans (m.below h.below.size (fun k hk => by omega)), Nat.lt_of_lt_of_le h.size m.size⟩
end
end Go.Proofs.YtmceblkjbpbcoaaGreatDoor
