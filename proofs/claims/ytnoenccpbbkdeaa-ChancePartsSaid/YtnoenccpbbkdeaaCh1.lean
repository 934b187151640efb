/- Characters and places of package chance as structs that are not looked into: loads, boxes, new variables, stores; contracts of its functions of one character: textInStyle, inStyle, isLetter, isMark, endsLines, Class, Letter. No conditions. -/
import Derived.Test.YtnoenccpbbkdeaaWhRow
import Derived.Test.YtnoenccpbbkdeaaGD
import Derived.Test.YtnoenccpbbkdeaaGJ
import Derived.Test.YtnoenccpbbkdeaaPrRow
import Derived.Test.YtnoenccpbbkdeaaGB
import Derived.Test.YtnoenccpbbkdeaaGH
namespace Go.Proofs.Ytnoenccpbbkdeaa
open Go.ChangeShapes Go.WideShapes Go.ChangeAt Go.RowKit
open Wh (Cr)
open Ch

/-- a character as the program keeps it: kind, class, class in its own style, White -/
structure Hc where
  kind : Int
  cls : Int
  as_ : Int
  white : Int
def hcA (x : Hc) : Array Value := #[.int .u8 x.kind, .int .u8 x.cls, .int .u8 x.as_, .int .u8 x.white]
def zHc : Hc := ⟨0, 0, 0, 0⟩
/-- a place: the first?, the character ahead, the one behind, the style, layer 9's break -/
structure Pc where
  first : Bool
  b : Hc
  a : Hc
  s : Sty
  e : Bool
def pcA (x : Pc) : Array Value := #[.bool x.first, .int .u8 x.b.kind, .int .u8 x.b.cls, .int .u8 x.b.as_, .int .u8 x.b.white, .int .u8 x.a.kind, .int .u8 x.a.cls, .int .u8 x.a.as_, .int .u8 x.a.white,
  .int .u8 x.s.a0, .int .u8 x.s.a1, .int .u8 x.s.a2, .int .u8 x.s.a3, .int .i64 x.s.a4, .int .i64 x.s.a5, .int .i64 x.s.a6, .int .u8 x.s.a7, .int .i64 x.s.a8, .bool x.e]
def zPc : Pc := ⟨false, zHc, zHc, .zero, false⟩


theorem uHc : Try.prog.underlying 58 = some (.struct (Try.prog.fieldsOf 58)) := by kernel_rfl
theorem iHc (x : Hc) : (Try.prog.info? 58).map (·.size) = some (hcA x).size := by kernel_rfl
theorem oneHc (x : Hc) : (hcA x).all (·.oneCell') = true := by kernel_rfl
theorem alHc (w : World) : (Instr.alloc 58 true (.tuple #[])).run Try.prog w = .ok (.pointer (some ⟨w.heap.size, 0, none⟩)) (w.alloc (.cells (hcA zHc) 58)) := by kernel_rfl
theorem bxHc (x : Hc) (w : World) : (Instr.box 58 (.agg (hcA x))).run Try.prog w = .ok (.pointer (some ⟨w.heap.size, 0, none⟩)) (w.alloc (.cells (hcA x) 58)) := by kernel_rfl
section
variable {ops : Array Oper} {Q : Exit → Act → World → Prop} {a : Act} {w : World} {rest : List Oper} {o o1 o2 : Oper}
theorem rdHc (x : Operand) (ho : o.op = .load 58 x) (p : Addr) (hx : a.eval x = .pointer (some p)) (s : Hc) (hL : Lies w p (hcA s)) : (execOp a.eval o).run Try.prog w = .ok (.value (.agg (hcA s))) w := run_op_load 58 x ho p hx (hcA s) _ hL uHc rfl (iHc s)
theorem ldHc (hg : o.guard = none) (x : Operand) (ho : o.op = .load 58 x) (p : Addr) (hx : a.eval x = .pointer (some p)) (s : Hc) (hL : Lies w p (hcA s))
    (h : wpList Try.prog ops Q rest (a.put o.dst (.agg (hcA s))) w) : wpList Try.prog ops Q (o :: rest) a w := wpList_loadL hg 58 x ho p hx (hcA s) _ hL uHc rfl (iHc s) h
theorem ldHcIf (hw : Region.wanted o (yielded ops a.tmps) = true) (x : Operand) (ho : o.op = .load 58 x) (p : Addr) (hx : a.eval x = .pointer (some p)) (s : Hc) (hL : Lies w p (hcA s))
    (h : wpList Try.prog ops Q rest (a.put o.dst (.agg (hcA s))) w) : wpList Try.prog ops Q (o :: rest) a w := wpList_valIf hw _ rfl _ _ (rdHc x ho p hx s hL) h
theorem alHcV (hg : o.guard = none) (ho : o.op = .alloc 58) (h : ∀ w', Below w.heap.size w w' → Blk w' w.heap.size 58 (hcA zHc) → wpList Try.prog ops Q rest (a.put o.dst (.pointer (some ⟨w.heap.size, 0, none⟩))) w') : wpList Try.prog ops Q (o :: rest) a w :=
  wpList_newV hg 58 ho _ alHc h
theorem bxHcV (hg : o.guard = none) (x : Operand) (ho : o.op = .box 58 x) (s : Hc) (hx : a.eval x = .agg (hcA s)) (h : ∀ w', Below w.heap.size w w' → Blk w' w.heap.size 58 (hcA s) → wpList Try.prog ops Q rest (a.put o.dst (.pointer (some ⟨w.heap.size, 0, none⟩))) w') : wpList Try.prog ops Q (o :: rest) a w :=
  wpList_boxL hg 58 x ho (hcA s) hx (bxHc s) h
theorem stHc (hg : o.guard = none) (x y : Operand) (ho : o.op = .store 58 x y) (hd : o.dst = none) (g : Nat) (hx : a.eval x = .pointer (some ⟨g, 0, none⟩)) (s : Hc) (hy : a.eval y = .agg (hcA s)) {t : TypeId} (old : Hc) (hB : Blk w g t (hcA old))
    (h : ∀ w', Mod (fun k => k = g) w w' → Blk w' g t (hcA s) → wpList Try.prog ops Q rest a w') : wpList Try.prog ops Q (o :: rest) a w :=
  wpList_storeL hg 58 x y ho hd g hx (hcA s) hy t (hcA old) hB (iHc s) rfl (oneHc s) h
theorem nwHc (hg1 : o1.guard = none) (hg2 : o2.guard = none) (D : Tmp) (hd1 : o1.dst = some D) (ho1 : o1.op = .alloc 58) (y : Operand) (ho2 : o2.op = .store 58 (.tmp D) y) (hd2 : o2.dst = none)
    (s : Hc) (hx : ∀ v, (a.put (some D) v).eval (.tmp D) = v) (hy : ∀ v, (a.put (some D) v).eval y = .agg (hcA s))
    (h : ∀ w', Below w.heap.size w w' → Blk w' w.heap.size 58 (hcA s) → wpList Try.prog ops Q rest (a.put (some D) (.pointer (some ⟨w.heap.size, 0, none⟩))) w') : wpList Try.prog ops Q (o1 :: o2 :: rest) a w :=
  wpList_newS hg1 hg2 58 D hd1 ho1 y ho2 hd2 _ alHc (hcA s) hx hy (iHc s) rfl (oneHc s) h
end


theorem uPc : Try.prog.underlying 60 = some (.struct (Try.prog.fieldsOf 60)) := by kernel_rfl
theorem iPc (x : Pc) : (Try.prog.info? 60).map (·.size) = some (pcA x).size := by kernel_rfl
theorem onePc (x : Pc) : (pcA x).all (·.oneCell') = true := by kernel_rfl
theorem alPc (w : World) : (Instr.alloc 60 true (.tuple #[])).run Try.prog w = .ok (.pointer (some ⟨w.heap.size, 0, none⟩)) (w.alloc (.cells (pcA zPc) 60)) := by kernel_rfl
theorem bxPc (x : Pc) (w : World) : (Instr.box 60 (.agg (pcA x))).run Try.prog w = .ok (.pointer (some ⟨w.heap.size, 0, none⟩)) (w.alloc (.cells (pcA x) 60)) := by kernel_rfl
section
variable {ops : Array Oper} {Q : Exit → Act → World → Prop} {a : Act} {w : World} {rest : List Oper} {o o1 o2 : Oper}
theorem rdPc (x : Operand) (ho : o.op = .load 60 x) (p : Addr) (hx : a.eval x = .pointer (some p)) (s : Pc) (hL : Lies w p (pcA s)) : (execOp a.eval o).run Try.prog w = .ok (.value (.agg (pcA s))) w := run_op_load 60 x ho p hx (pcA s) _ hL uPc rfl (iPc s)
theorem ldPc (hg : o.guard = none) (x : Operand) (ho : o.op = .load 60 x) (p : Addr) (hx : a.eval x = .pointer (some p)) (s : Pc) (hL : Lies w p (pcA s))
    (h : wpList Try.prog ops Q rest (a.put o.dst (.agg (pcA s))) w) : wpList Try.prog ops Q (o :: rest) a w := wpList_loadL hg 60 x ho p hx (pcA s) _ hL uPc rfl (iPc s) h
theorem ldPcIf (hw : Region.wanted o (yielded ops a.tmps) = true) (x : Operand) (ho : o.op = .load 60 x) (p : Addr) (hx : a.eval x = .pointer (some p)) (s : Pc) (hL : Lies w p (pcA s))
    (h : wpList Try.prog ops Q rest (a.put o.dst (.agg (pcA s))) w) : wpList Try.prog ops Q (o :: rest) a w := wpList_valIf hw _ rfl _ _ (rdPc x ho p hx s hL) h
theorem alPcV (hg : o.guard = none) (ho : o.op = .alloc 60) (h : ∀ w', Below w.heap.size w w' → Blk w' w.heap.size 60 (pcA zPc) → wpList Try.prog ops Q rest (a.put o.dst (.pointer (some ⟨w.heap.size, 0, none⟩))) w') : wpList Try.prog ops Q (o :: rest) a w :=
  wpList_newV hg 60 ho _ alPc h
theorem bxPcV (hg : o.guard = none) (x : Operand) (ho : o.op = .box 60 x) (s : Pc) (hx : a.eval x = .agg (pcA s)) (h : ∀ w', Below w.heap.size w w' → Blk w' w.heap.size 60 (pcA s) → wpList Try.prog ops Q rest (a.put o.dst (.pointer (some ⟨w.heap.size, 0, none⟩))) w') : wpList Try.prog ops Q (o :: rest) a w :=
  wpList_boxL hg 60 x ho (pcA s) hx (bxPc s) h
theorem stPc (hg : o.guard = none) (x y : Operand) (ho : o.op = .store 60 x y) (hd : o.dst = none) (g : Nat) (hx : a.eval x = .pointer (some ⟨g, 0, none⟩)) (s : Pc) (hy : a.eval y = .agg (pcA s)) {t : TypeId} (old : Pc) (hB : Blk w g t (pcA old))
    (h : ∀ w', Mod (fun k => k = g) w w' → Blk w' g t (pcA s) → wpList Try.prog ops Q rest a w') : wpList Try.prog ops Q (o :: rest) a w :=
  wpList_storeL hg 60 x y ho hd g hx (pcA s) hy t (pcA old) hB (iPc s) rfl (onePc s) h
theorem nwPc (hg1 : o1.guard = none) (hg2 : o2.guard = none) (D : Tmp) (hd1 : o1.dst = some D) (ho1 : o1.op = .alloc 60) (y : Operand) (ho2 : o2.op = .store 60 (.tmp D) y) (hd2 : o2.dst = none)
    (s : Pc) (hx : ∀ v, (a.put (some D) v).eval (.tmp D) = v) (hy : ∀ v, (a.put (some D) v).eval y = .agg (pcA s))
    (h : ∀ w', Below w.heap.size w w' → Blk w' w.heap.size 60 (pcA s) → wpList Try.prog ops Q rest (a.put (some D) (.pointer (some ⟨w.heap.size, 0, none⟩))) w') : wpList Try.prog ops Q (o1 :: o2 :: rest) a w :=
  wpList_newS hg1 hg2 60 D hd1 ho1 y ho2 hd2 _ alPc (pcA s) hx hy (iPc s) rfl (onePc s) h
end


/-! ### a place's parts -/
theorem Blk.pcB {w : World} {g : Nat} {t : TypeId} {p : Pc} (h : Blk w g t (pcA p)) : Lies w ⟨g, 1, none⟩ (hcA p.b) := h.part 1 fun j v hv => by
  match j, hv with
  | 0, hv => exact hv
  | 1, hv => exact hv
  | 2, hv => exact hv
  | 3, hv => exact hv
  | j + 4, hv => simp [hcA] at hv
theorem Blk.pcF {w : World} {g : Nat} {t : TypeId} {p : Pc} (h : Blk w g t (pcA p)) : Lies w ⟨g, 5, none⟩ (hcA p.a) := h.part 5 fun j v hv => by
  match j, hv with
  | 0, hv => exact hv
  | 1, hv => exact hv
  | 2, hv => exact hv
  | 3, hv => exact hv
  | j + 4, hv => simp [hcA] at hv

/-! ### classes in a style -/
theorem clsT_is (k : Int) (s : Sty) : clsT k s = if k = 20 then (if s.a3 = 2 then 19 else 25) else if k = 19 then (if s.a3 = 1 then 25 else 19) else if (k = 0 ∨ k = 22) ∧ s.a1 = 1 then 25 else k := by
  unfold clsT
  by_cases h20 : k = 20
  · subst h20
    by_cases h2 : s.a3 = 2 <;> simp [h2]
  · by_cases h19 : k = 19
    · subst h19
      by_cases h1 : s.a3 = 1 <;> simp [h1]
    · simp only [h20, h19, false_and, or_self, if_false]
      by_cases h1 : s.a1 = 1 <;> simp [h1]
def inS (kind k : Int) (s : Sty) : Int := if kind = 0 then clsT k s else if 1 ≤ kind ∧ kind ≤ 4 then 5 else if kind = 6 then 26 else 1
theorem inS_is (c : Cr) (s : Sty) : inS c.kind (clsOf c.r) s = clsC c s := by
  unfold inS clsC
  by_cases h0 : c.kind = 0
  · rw [if_pos h0, if_neg (by omega), if_neg (by omega), if_neg (by simp [h0])]
  · rw [if_neg h0]
    by_cases h1 : 1 ≤ c.kind ∧ c.kind ≤ 4
    · rw [if_pos h1, if_pos h1]
    · rw [if_neg h1, if_neg h1]
      by_cases h6 : c.kind = 6
      · rw [if_pos h6, if_pos h6]
      · rw [if_neg h6, if_neg h6, if_pos h0]
def lettH (h : Hc) : Bool := h.kind == 0 && (h.cls == 0 || h.cls == 22 || h.cls == 25 || h.cls == 20 || h.cls == 19)
def markH (h : Hc) : Bool := h.kind == 0 && h.cls == 9
def endH (h : Hc) : Bool := (h.kind == 3 || h.kind == 4) && h.white == 5
/-- a character as the program keeps it -/
def hcOf (ss : List Sty) (c : Cr) : Hc := ⟨c.kind, clsOf c.r, clsC c (stl ss c.node), (stl ss c.node).a0⟩
theorem lettH_is (ss : List Sty) (c : Cr) : lettH (hcOf ss c) = lett c := rfl
theorem markH_is (ss : List Sty) (c : Cr) : markH (hcOf ss c) = markC c := rfl


set_option maxRecDepth 100000 in
set_option maxHeartbeats 4000000 in
theorem chtext_any (k : Int) (s : Sty) (w : World) :
    Calls Try.prog 47 #[.int .u8 k, .agg s.cells] w fun e w' => e = .returned (.int .u8 (clsT k s)) ∧ Below w.heap.size w w' := by
  obtain ⟨x1, hx1⟩ : ∃ x, s.a1 = x := ⟨_, rfl⟩
  obtain ⟨x3, hx3⟩ : ∃ x, s.a3 = x := ⟨_, rfl⟩
  have HX := Lib.hid hx3
  have HX1 := Lib.hid hx1
  go_enter Try.func47, Try.ntmps47
  go_wp2_with (refine bxSV rfl (.tmp 1) rfl s rfl ?_; intro w1 b1 B1; refine Mk.out ?_)
  constructor
  have c1 : w1.cell? ⟨w.heap.size, 1, none⟩ = some (.int .u8 s.a1) := B1.cell 1
  have c3 : w1.cell? ⟨w.heap.size, 3, none⟩ = some (.int .u8 s.a3) := B1.cell 3
  rw [hx1] at c1
  rw [hx3] at c3
  clear hx1 hx3
  by_cases h20 : k = 20
  · subst h20
    by_cases h2 : x3 = 2
    · go_wp2_with fail
      go_ret
      exact ⟨ret1 (by rw [clsT_is]; simp [HX.out, h2]), b1⟩
    · go_wp2_with fail
      go_ret
      exact ⟨ret1 (by rw [clsT_is]; simp [HX.out, h2]), b1⟩
  · by_cases h19 : k = 19
    · subst h19
      by_cases h1 : x3 = 1
      · go_wp2_with fail
        go_ret
        exact ⟨ret1 (by rw [clsT_is]; simp [HX.out, h1]), b1⟩
      · go_wp2_with fail
        go_ret
        exact ⟨ret1 (by rw [clsT_is]; simp [HX.out, h1]), b1⟩
    · by_cases h0 : k = 0
      · subst h0
        by_cases h1 : x1 = 1
        · go_wp2_with fail
          go_ret
          exact ⟨ret1 (by rw [clsT_is]; simp [HX1.out, h1]), b1⟩
        · go_wp2_with fail
          go_ret
          exact ⟨ret1 (by rw [clsT_is]; simp [HX1.out, h1]), b1⟩
      · by_cases h22 : k = 22
        · subst h22
          by_cases h1 : x1 = 1
          · go_wp2_with fail
            go_ret
            exact ⟨ret1 (by rw [clsT_is]; simp [HX1.out, h1]), b1⟩
          · go_wp2_with fail
            go_ret
            exact ⟨ret1 (by rw [clsT_is]; simp [HX1.out, h1]), b1⟩
        · go_wp2_with fail
          go_ret
          exact ⟨ret1 (by rw [clsT_is]; simp [h20, h19, h0, h22]), b1⟩


set_option maxRecDepth 100000 in
set_option maxHeartbeats 4000000 in
theorem chin_any (kind k : Int) (s : Sty) (w : World) :
    Calls Try.prog 26 #[.int .u8 kind, .int .u8 k, .agg s.cells] w fun e w' => e = .returned (.int .u8 (inS kind k s)) ∧ Below w.heap.size w w' := by
  have C : Hid (∀ W, Calls Try.prog 47 #[.int .u8 k, .agg s.cells] W fun e w' => e = .returned (.int .u8 (clsT k s)) ∧ Below W.heap.size W w') := Lib.hid fun W => chtext_any k s W
  obtain ⟨t, ht⟩ : ∃ t, clsT k s = t := ⟨_, rfl⟩
  have HT := Lib.hid ht
  rw [ht] at C
  clear ht
  go_enter Try.func26, Try.ntmps26
  go_wp2_with (refine bxSV rfl (.tmp 2) rfl s rfl ?_; intro w1 b1 B1; refine Mk.out ?_)
  constructor
  by_cases h0 : kind = 0
  · subst h0
    go_wp2_with (refine ldS rfl (.tmp 5) rfl _ rfl s B1.lies ?_)
    refine (C.out _).mono ?_
    rintro e w2 ⟨rfl, b2⟩
    go_wp2_with fail
    go_ret
    exact ⟨ret1 (by unfold inS; rw [if_pos rfl]; exact HT.out.symm), below_seq b1 b2⟩
  by_cases h1 : kind = 1
  · subst h1
    go_wp2_with fail
    go_ret
    exact ⟨ret1 (by simp [inS]), b1⟩
  by_cases h2 : kind = 2
  · subst h2
    go_wp2_with fail
    go_ret
    exact ⟨ret1 (by simp [inS]), b1⟩
  by_cases h3 : kind = 3
  · subst h3
    go_wp2_with fail
    go_ret
    exact ⟨ret1 (by simp [inS]), b1⟩
  by_cases h4 : kind = 4
  · subst h4
    go_wp2_with fail
    go_ret
    exact ⟨ret1 (by simp [inS]), b1⟩
  by_cases h6 : kind = 6
  · subst h6
    go_wp2_with fail
    go_ret
    exact ⟨ret1 (by simp [inS]), b1⟩
  · go_wp2_with fail
    go_ret
    exact ⟨ret1 (by unfold inS; rw [if_neg h0, if_neg (by omega), if_neg h6]), b1⟩


set_option maxRecDepth 100000 in
set_option maxHeartbeats 4000000 in
theorem chlett_any (h : Hc) (w : World) :
    Calls Try.prog 29 #[.agg (hcA h)] w fun e w' => e = .returned (.bool (lettH h)) ∧ Below w.heap.size w w' := by
  obtain ⟨hk, hcl, has, hw⟩ := h
  go_enter Try.func29, Try.ntmps29
  go_wp2_with (refine bxHcV rfl (.tmp 0) rfl ⟨hk, hcl, has, hw⟩ rfl ?_; intro w1 b1 B1; refine Mk.out ?_)
  constructor
  have c0 : w1.cell? ⟨w.heap.size, 0, none⟩ = some (.int .u8 hk) := B1.cell 0
  have c1 : w1.cell? ⟨w.heap.size, 1, none⟩ = some (.int .u8 hcl) := B1.cell 1
  by_cases k0 : hk = 0
  · subst k0
    by_cases q0 : hcl = 0
    · subst q0
      go_wp2_with fail
      go_ret
      exact ⟨retb (by simp [lettH]), b1⟩
    by_cases q22 : hcl = 22
    · subst q22
      go_wp2_with fail
      go_ret
      exact ⟨retb (by simp [lettH]), b1⟩
    by_cases q25 : hcl = 25
    · subst q25
      go_wp2_with fail
      go_ret
      exact ⟨retb (by simp [lettH]), b1⟩
    by_cases q20 : hcl = 20
    · subst q20
      go_wp2_with fail
      go_ret
      exact ⟨retb (by simp [lettH]), b1⟩
    by_cases q19 : hcl = 19
    · subst q19
      go_wp2_with fail
      go_ret
      exact ⟨retb (by simp [lettH]), b1⟩
    · go_wp2_with fail
      go_ret
      exact ⟨retb (by simp [lettH, q0, q22, q25, q20, q19]), b1⟩
  · go_wp2_with fail
    go_ret
    exact ⟨retb (by simp [lettH, k0]), b1⟩


set_option maxRecDepth 100000 in
set_option maxHeartbeats 4000000 in
theorem chmark_any (h : Hc) (w : World) :
    Calls Try.prog 39 #[.agg (hcA h)] w fun e w' => e = .returned (.bool (markH h)) ∧ Below w.heap.size w w' := by
  obtain ⟨hk, hcl, has, hw⟩ := h
  go_enter Try.func39, Try.ntmps39
  go_wp2_with (refine bxHcV rfl (.tmp 0) rfl ⟨hk, hcl, has, hw⟩ rfl ?_; intro w1 b1 B1; refine Mk.out ?_)
  constructor
  have c0 : w1.cell? ⟨w.heap.size, 0, none⟩ = some (.int .u8 hk) := B1.cell 0
  have c1 : w1.cell? ⟨w.heap.size, 1, none⟩ = some (.int .u8 hcl) := B1.cell 1
  by_cases k0 : hk = 0
  · subst k0
    go_wp2_with fail
    go_ret
    exact ⟨retb (by simp [markH]), b1⟩
  · go_wp2_with fail
    go_ret
    exact ⟨retb (by simp [markH, k0]), b1⟩


set_option maxRecDepth 100000 in
set_option maxHeartbeats 4000000 in
theorem chend_any (h : Hc) (w : World) :
    Calls Try.prog 36 #[.agg (hcA h)] w fun e w' => e = .returned (.bool (endH h)) ∧ Below w.heap.size w w' := by
  obtain ⟨hk, hcl, has, hw⟩ := h
  go_enter Try.func36, Try.ntmps36
  go_wp2_with (refine bxHcV rfl (.tmp 0) rfl ⟨hk, hcl, has, hw⟩ rfl ?_; intro w1 b1 B1; refine Mk.out ?_)
  constructor
  have c0 : w1.cell? ⟨w.heap.size, 0, none⟩ = some (.int .u8 hk) := B1.cell 0
  have c3 : w1.cell? ⟨w.heap.size, 3, none⟩ = some (.int .u8 hw) := B1.cell 3
  by_cases k3 : hk = 3
  · subst k3
    go_wp2_with fail
    go_ret
    exact ⟨retb (by simp [endH]), b1⟩
  by_cases k4 : hk = 4
  · subst k4
    go_wp2_with fail
    go_ret
    exact ⟨retb (by simp [endH]), b1⟩
  · go_wp2_with fail
    go_ret
    exact ⟨retb (by simp [endH, k3, k4]), b1⟩


set_option maxRecDepth 100000 in
set_option maxHeartbeats 4000000 in
theorem chclass_any (c : Cr) (s : Sty) (w : World) :
    Calls Try.prog 12 #[.agg (chA c), .agg s.cells] w fun e w' => e = .returned (.int .u8 (clsC c s)) ∧ Below w.heap.size w w' := by
  have C1 : Hid (∀ W, Calls Try.prog 27 #[.int .i32 c.r] W fun e w' => e = .returned (.int .u8 (clsOf c.r)) ∧ Below W.heap.size W w') := Lib.hid fun W => cof_any c.r W
  have C2 : Hid (∀ W, Calls Try.prog 26 #[.int .u8 c.kind, .int .u8 (clsOf c.r), .agg s.cells] W fun e w' => e = .returned (.int .u8 (clsC c s)) ∧ Below W.heap.size W w') := Lib.hid fun W => by rw [← inS_is]; exact chin_any _ _ _ W
  obtain ⟨r, hr⟩ : ∃ r, c.r = r := ⟨_, rfl⟩
  obtain ⟨kd, hkd⟩ : ∃ r, c.kind = r := ⟨_, rfl⟩
  obtain ⟨q, hq⟩ : ∃ q, clsC c s = q := ⟨_, rfl⟩
  rw [hq] at C2 ⊢
  rw [hr, hkd] at C2
  rw [hr] at C1
  obtain ⟨t, ht⟩ : ∃ t, clsOf r = t := ⟨_, rfl⟩
  rw [ht] at C1 C2
  clear ht hq
  go_enter Try.func12, Try.ntmps12
  go_wp2_with (first
    | (refine bxCV rfl (.tmp 0) rfl c rfl ?_; intro w1 b1 B1)
    | (refine bxSV rfl (.tmp 1) rfl s rfl ?_; intro w2 b2 B2; refine Mk.out ?_))
  constructor
  have B3 := B1.keep (S := fun _ => False) (Mod.of_below b2) id
  have HC : Hid (∀ W, Below w2.heap.size w2 W → W.cell? ⟨w.heap.size, 0, none⟩ = some (.int .i32 r) ∧ W.cell? ⟨w.heap.size, 4, none⟩ = some (.int .u8 kd) ∧ Lies W ⟨w1.heap.size, 0, none⟩ s.cells) := Lib.hid fun W h => by
    have B4 := B3.keep (S := fun _ => False) (Mod.of_below h) id
    have B5 := B2.keep (S := fun _ => False) (Mod.of_below h) id
    refine ⟨?_, ?_, B5.lies⟩
    · rw [B4.cell 0, ← hr]; rfl
    · rw [B4.cell 4, ← hkd]; rfl
  have b02 := below_seq b1 b2
  clear hr hkd B1 B2 B3 b1 b2
  go_wp2_with fail
  refine region_any (by kernel_rfl) (fun W => Below w2.heap.size w2 W) (below_drewN (Below.refl _ _) 1) (fun R hR => ?_)
  refine AllS.take (i := 0) (v := ?_) (by rw [List.getElem?_toArray]; rfl) (by kernel_rfl) (by kernel_rfl) (by kernel_rfl) (KeepsIf.read (by rfl) ?_) ?_
  rotate_left
  · intro W hSw
    (try dsimp only at hSw)
    go_simp
    (try with_reducible rfl)
  rotate_left
  (try simp only [Act.put, List.setIfInBounds_toArray, List.set_cons_zero, List.set_cons_succ])
  refine AllS.take (i := 1) (v := ?_) (by rw [List.getElem?_toArray]; rfl) (by kernel_rfl) (by kernel_rfl) (by kernel_rfl) (KeepsIf.read (by rfl) ?_) ?_
  rotate_left
  · intro W hSw
    (try dsimp only at hSw)
    obtain ⟨q1, q2, _⟩ := HC.out W hSw
    go_simp
    (try with_reducible rfl)
  rotate_left
  (try simp only [Act.put, List.setIfInBounds_toArray, List.set_cons_zero, List.set_cons_succ])
  refine AllS.take (i := 2) (v := ?_) (by rw [List.getElem?_toArray]; rfl) (by kernel_rfl) (by kernel_rfl) (by kernel_rfl) (KeepsIf.read (by rfl) ?_) ?_
  rotate_left
  · intro W hSw
    (try dsimp only at hSw)
    go_simp
    (try with_reducible rfl)
  rotate_left
  (try simp only [Act.put, List.setIfInBounds_toArray, List.set_cons_zero, List.set_cons_succ])
  refine AllS.take (i := 3) (v := ?_) (by rw [List.getElem?_toArray]; rfl) (by kernel_rfl) (by kernel_rfl) (by kernel_rfl) (KeepsIf.read (by rfl) ?_) ?_
  rotate_left
  · intro W hSw
    (try dsimp only at hSw)
    obtain ⟨q1, q2, _⟩ := HC.out W hSw
    go_simp
    (try with_reducible rfl)
  rotate_left
  (try simp only [Act.put, List.setIfInBounds_toArray, List.set_cons_zero, List.set_cons_succ])
  refine AllS.take (i := 4) (v := .int .u8 t) (by rw [List.getElem?_toArray]; rfl) (by kernel_rfl) (by kernel_rfl) (by kernel_rfl) (KeepsIf.call 27 #[.int .i32 r] (by kernel_rfl) (fun W => ?_) (fun W hSw => ?_)) ?_
  · go_simp
  · exact (C1.out W).mono fun e w' h => ⟨h.1, below_seq hSw h.2⟩
  (try simp only [Act.put, List.setIfInBounds_toArray, List.set_cons_zero, List.set_cons_succ])
  refine AllS.take (i := 5) (v := .agg s.cells) (by rw [List.getElem?_toArray]; rfl) (by kernel_rfl) (by kernel_rfl) (by kernel_rfl) (KeepsIf.read (by rfl) (fun W hSw => ?_)) ?_
  · (try dsimp only at hSw)
    exact rdS (.tmp 3) rfl _ rfl s (HC.out W hSw).2.2
  (try simp only [Act.put, List.setIfInBounds_toArray, List.set_cons_zero, List.set_cons_succ])
  refine AllS.take (i := 6) (v := .int .u8 q) (by rw [List.getElem?_toArray]; rfl) (by kernel_rfl) (by kernel_rfl) (by kernel_rfl) (KeepsIf.call 26 #[.int .u8 kd, .int .u8 t, .agg s.cells] (by kernel_rfl) (fun W => ?_) (fun W hSw => ?_)) ?_
  · go_simp
  · exact (C2.out W).mono fun e w' h => ⟨h.1, below_seq hSw h.2⟩
  (try simp only [Act.put, List.setIfInBounds_toArray, List.set_cons_zero, List.set_cons_succ])
  refine AllS.take (i := 7) (v := ?_) (by rw [List.getElem?_toArray]; rfl) (by kernel_rfl) (by kernel_rfl) (by kernel_rfl) (KeepsIf.read (by rfl) ?_) ?_
  rotate_left
  · intro W hSw
    (try dsimp only at hSw)
    go_simp
    (try with_reducible rfl)
  rotate_left
  (try simp only [Act.put, List.setIfInBounds_toArray, List.set_cons_zero, List.set_cons_succ])
  refine AllS.done (by kernel_rfl) (hR.out _ ?_) _
  clear hR R
  intro w3 b3
  go_wp2_with fail
  go_ret
  exact ⟨rfl, below_seq b02 b3⟩


set_option maxRecDepth 100000 in
set_option maxHeartbeats 4000000 in
theorem chletter_any (c : Cr) (w : World) :
    Calls Try.prog 14 #[.agg (chA c)] w fun e w' => e = .returned (.bool (lett c)) ∧ Below w.heap.size w w' := by
  have C1 : Hid (∀ W, Calls Try.prog 27 #[.int .i32 c.r] W fun e w' => e = .returned (.int .u8 (clsOf c.r)) ∧ Below W.heap.size W w') := Lib.hid fun W => cof_any c.r W
  have C2 : Hid (∀ W, Calls Try.prog 29 #[.agg (hcA ⟨c.kind, clsOf c.r, 0, 0⟩)] W fun e w' => e = .returned (.bool (lett c)) ∧ Below W.heap.size W w') := Lib.hid fun W => chlett_any ⟨c.kind, clsOf c.r, 0, 0⟩ W
  obtain ⟨r, hr⟩ : ∃ r, c.r = r := ⟨_, rfl⟩
  obtain ⟨kd, hkd⟩ : ∃ r, c.kind = r := ⟨_, rfl⟩
  obtain ⟨q, hq⟩ : ∃ q, lett c = q := ⟨_, rfl⟩
  rw [hq] at C2 ⊢
  rw [hr, hkd] at C2
  rw [hr] at C1
  obtain ⟨t, ht⟩ : ∃ t, clsOf r = t := ⟨_, rfl⟩
  rw [ht] at C1 C2
  clear ht hq
  go_enter Try.func14, Try.ntmps14
  go_wp2_with (refine bxCV rfl (.tmp 0) rfl c rfl ?_; intro w1 b1 B1; refine Mk.out ?_)
  constructor
  have HC : Hid (∀ W, Below w1.heap.size w1 W → W.cell? ⟨w.heap.size, 0, none⟩ = some (.int .i32 r) ∧ W.cell? ⟨w.heap.size, 4, none⟩ = some (.int .u8 kd)) := Lib.hid fun W h => by
    have B4 := B1.keep (S := fun _ => False) (Mod.of_below h) id
    refine ⟨?_, ?_⟩
    · rw [B4.cell 0, ← hr]; rfl
    · rw [B4.cell 4, ← hkd]; rfl
  clear hr hkd B1
  go_wp2_with fail
  refine region_any (by kernel_rfl) (fun W => Below w1.heap.size w1 W) (below_drewN (Below.refl _ _) 1) (fun R hR => ?_)
  refine AllS.take (i := 0) (v := ?_) (by rw [List.getElem?_toArray]; rfl) (by kernel_rfl) (by kernel_rfl) (by kernel_rfl) (KeepsIf.read (by rfl) ?_) ?_
  rotate_left
  · intro W hSw
    (try dsimp only at hSw)
    go_simp
    (try with_reducible rfl)
  rotate_left
  (try simp only [Act.put, List.setIfInBounds_toArray, List.set_cons_zero, List.set_cons_succ])
  refine AllS.take (i := 1) (v := ?_) (by rw [List.getElem?_toArray]; rfl) (by kernel_rfl) (by kernel_rfl) (by kernel_rfl) (KeepsIf.read (by rfl) ?_) ?_
  rotate_left
  · intro W hSw
    (try dsimp only at hSw)
    obtain ⟨q1, q2⟩ := HC.out W hSw
    go_simp
    (try with_reducible rfl)
  rotate_left
  (try simp only [Act.put, List.setIfInBounds_toArray, List.set_cons_zero, List.set_cons_succ])
  refine AllS.take (i := 2) (v := ?_) (by rw [List.getElem?_toArray]; rfl) (by kernel_rfl) (by kernel_rfl) (by kernel_rfl) (KeepsIf.read (by rfl) ?_) ?_
  rotate_left
  · intro W hSw
    (try dsimp only at hSw)
    go_simp
    (try with_reducible rfl)
  rotate_left
  (try simp only [Act.put, List.setIfInBounds_toArray, List.set_cons_zero, List.set_cons_succ])
  refine AllS.take (i := 3) (v := ?_) (by rw [List.getElem?_toArray]; rfl) (by kernel_rfl) (by kernel_rfl) (by kernel_rfl) (KeepsIf.read (by rfl) ?_) ?_
  rotate_left
  · intro W hSw
    (try dsimp only at hSw)
    obtain ⟨q1, q2⟩ := HC.out W hSw
    go_simp
    (try with_reducible rfl)
  rotate_left
  (try simp only [Act.put, List.setIfInBounds_toArray, List.set_cons_zero, List.set_cons_succ])
  refine AllS.take (i := 4) (v := .int .u8 t) (by rw [List.getElem?_toArray]; rfl) (by kernel_rfl) (by kernel_rfl) (by kernel_rfl) (KeepsIf.call 27 #[.int .i32 r] (by kernel_rfl) (fun W => ?_) (fun W hSw => ?_)) ?_
  · go_simp
  · exact (C1.out W).mono fun e w' h => ⟨h.1, below_seq hSw h.2⟩
  (try simp only [Act.put, List.setIfInBounds_toArray, List.set_cons_zero, List.set_cons_succ])
  refine AllS.take (i := 5) (v := .agg (hcA ⟨kd, t, 0, 0⟩)) (by rw [List.getElem?_toArray]; rfl) (by kernel_rfl) (by kernel_rfl) (by kernel_rfl) (KeepsIf.read (by rfl) (fun W hSw => ?_)) ?_
  · (try dsimp only at hSw)
    kernel_rfl
  (try simp only [Act.put, List.setIfInBounds_toArray, List.set_cons_zero, List.set_cons_succ])
  refine AllS.take (i := 6) (v := .bool q) (by rw [List.getElem?_toArray]; rfl) (by kernel_rfl) (by kernel_rfl) (by kernel_rfl) (KeepsIf.call 29 #[.agg (hcA ⟨kd, t, 0, 0⟩)] (by kernel_rfl) (fun W => ?_) (fun W hSw => ?_)) ?_
  · go_simp
  · exact (C2.out W).mono fun e w' h => ⟨h.1, below_seq hSw h.2⟩
  (try simp only [Act.put, List.setIfInBounds_toArray, List.set_cons_zero, List.set_cons_succ])
  refine AllS.take (i := 7) (v := ?_) (by rw [List.getElem?_toArray]; rfl) (by kernel_rfl) (by kernel_rfl) (by kernel_rfl) (KeepsIf.read (by rfl) ?_) ?_
  rotate_left
  · intro W hSw
    (try dsimp only at hSw)
    go_simp
    (try with_reducible rfl)
  rotate_left
  (try simp only [Act.put, List.setIfInBounds_toArray, List.set_cons_zero, List.set_cons_succ])
  refine AllS.done (by kernel_rfl) (hR.out _ ?_) _
  clear hR R
  intro w3 b3
  go_wp2_with fail
  go_ret
  exact ⟨rfl, below_seq b1 b3⟩

end Go.Proofs.Ytnoenccpbbkdeaa
