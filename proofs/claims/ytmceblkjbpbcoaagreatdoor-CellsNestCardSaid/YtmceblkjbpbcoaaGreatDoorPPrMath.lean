/- Contracts of layers below. -/
import Derived.ProofKit
import Derived.Test.YtmceblkjbpbcoaaGreatDoorPBase
import Derived.Test.YtmceblkjbpbcoaaGreatDoorPYLaws
namespace Go.Proofs.YtmceblkjbpbcoaaGreatDoor
set_option maxRecDepth 100000
set_option maxHeartbeats 4000000
open Go.ChangeShapes Go.WideShapes Go.ChangeAt Go.RowKit
namespace Pr
def base (c : Int) : Int := if c = 20 then 19 else if 26 < c then 0 else c
def bare (d : Int) : Bool := decide (1 <= d /\ d <= 6)
def cnt (p : Option Int) (c : Int) : Int × Bool :=
 if base c = 9 then (match p with | none => (0, false) | some d => if bare d then (0, false) else (d, true)) else (base c, false)
theorem base_of {c : Int} (h0 : 0 <= c) : 0 <= base c /\ base c <= 26 := by
 unfold base
 split
 ·omega
 ·split <;> omega
def inside (d : Int) : Prop := 0 <= d /\ d <= 26 /\ d ≠ 9 /\ d ≠ 20
theorem cnt_in {p : Option Int} {c : Int} (h0 : 0 <= c) (hp : ∀ d, p = some d -> inside d) : inside (cnt p c).1 := by
 unfold cnt
 split
 ·split
  ·unfold inside; decide
  ·next d =>
   split
   ·unfold inside; decide
   ·exact hp d rfl
 ·next h =>
  have := base_of h0
  refine ⟨this.1, this.2, h, ?_⟩
  unfold base
  split
  ·decide
  ·next h20 => split <;> omega
def hard (d : Int) : Bool := d == 2 || d == 3 || d == 4
def qyn (a b : Int) : Bool := (a == 0 && b == 22) || (a == 22 && b == 0) || (a == 23 && b == 25) || (a == 25 && b == 24)
def qym (a b : Int) : Bool := (a == 23 && b == 0) || (a == 24 && b == 0) || (a == 0 && b == 23) || (a == 0 && b == 24)
def qte (a b : Int) : Bool := (a == 15 && b == 24) || (a == 15 && b == 23) || (a == 22 && b == 24) || (a == 22 && b == 23) || (a == 24 && b == 14) || (a == 24 && b == 22) || (a == 23 && b == 14) || (a == 23 && b == 22) || (a == 13 && b == 22) || (a == 18 && b == 22) || (a == 22 && b == 22)
def last (a b : Int) : Int × Bool :=
 if qyn a b then (23, false) else if qym a b then (24, false) else if qte a b then (25, false) else if a == 0 && b == 0 then (28, false) else if a == 18 && b == 0 then (29, false) else (31, true)
def rule (a b : Int) (o : Option Int) (cl : Bool) : Int × Bool :=
 if a == 1 then (4, true) else
 if hard a then (5, !(a == 2 && b == 3)) else
 if b == 1 || hard b then (6, false) else
 if b == 5 || b == 6 then (7, false) else
 if o == some 6 then (8, true) else
 if cl then (9, false) else
 if a == 7 || b == 7 then (11, false) else
 if a == 8 || (b == 8 && !(a == 5 || a == 10 || a == 13)) then (12, false) else
 if b == 15 || b == 17 || b == 18 then (13, false) else
 if o == some 14 then (14, false) else
 if o == some 16 && b == 14 then (15, false) else
 if o == some 15 && b == 19 then (16, false) else
 if o == some 12 && b == 12 then (17, false) else
 if a == 5 then (18, true) else
 if a == 16 || b == 16 then (19, false) else
 if a == 26 || b == 26 then (20, true) else
 if b == 10 || b == 13 || b == 19 || a == 11 then (21, false) else
 if b == 21 then (22, false) else
 last a b
abbrev St := Option Int × Option Int
def nx (s : St) (c : Int) : St := let d := (cnt s.1 c).1; (some d, if d = 5 then s.2 else some d)
def st (s : St) (l : List Int) : St := l.foldl nx s
def s0 : St := (none, none)
def qjk (s : St) (c : Int) : Int × Bool := match s.1 with | none => (0, false) | some a => rule a (cnt (some a) c).1 s.2 (cnt (some a) c).2
def plc (s : St) : List Int -> List (Int × Bool)
 | [] => []
 | c :: t => qjk s c :: plc (nx s c) t
theorem qdo : ∀ (l : List Int) (s : St), (plc s l).length = l.length
 | [], _ => rfl
 | c :: t, s => by rw [plc, List.length_cons, List.length_cons, qdo t]
theorem qk2 : ∀ (l m : List Int) (s : St), plc s (l ++ m) = plc s l ++ plc (st s l) m
 | [], _, _ => rfl
 | c :: t, m, s => by
   show qjk s c :: plc (nx s c) (t ++ m) = _
   rw [qk2 t m]
   rfl
theorem st_app (l m : List Int) (s : St) : st s (l ++ m) = st (st s l) m := List.foldl_append
theorem qtl {α : Type} (l m : List α) {k : Nat} (h : l.length = k) : (l ++ m).take k = l := by rw [<- h, List.take_left]
theorem plc_take (l : List Int) (s : St) (k : Nat) : plc s (l.take k) = (plc s l).take k := by
 by_cases h : k <= l.length
 ·conv => rhs; rw [<- List.take_append_drop k l, qk2]
  rw [qtl _ _ (by rw [qdo, List.length_take]; omega)]
 ·rw [List.take_of_length_le (by omega), List.take_of_length_le (by rw [qdo]; omega)]
theorem qur (l : List Int) (s : St) (k : Nat) (h : k <= l.length) : (plc s l).drop k = plc (st s (l.take k)) (l.drop k) := by
 conv => lhs; rw [<- List.take_append_drop k l, qk2]
 rw [List.drop_left' (by rw [qdo, List.length_take]; omega)]
theorem qqw (l : List Int) (s : St) (i : Nat) {c : Int} (h : l[i]? = some c) : (plc s l)[i]? = some (qjk (st s (l.take i)) c) := by
 have hi := (xah h).1
 have e := qur l s i (by omega)
 have h2 : ((plc s l).drop i)[0]? = (plc s l)[i]? := by rw [List.getElem?_drop, Nat.add_zero]
 rw [<- h2, e]
 have h3 : l.drop i = c :: l.drop (i + 1) := by
  obtain ⟨_, he⟩ := xah h
  rw [List.drop_eq_getElem_cons hi, he]
 rw [h3]
 rfl
theorem qp9 (l : List Int) (s : St) (i : Nat) {c : Int} (h : l[i]? = some c) : st s (l.take (i + 1)) = nx (st s (l.take i)) c := by
 rw [List.take_add_one, h]
 show st s (l.take i ++ [c]) = _
 rw [st_app]
 rfl
def qls (s : St) : Prop := (∀ d, s.1 = some d -> inside d) /\ ∀ d, s.2 = some d -> inside d
theorem qls.zero : qls s0 := ⟨fun d h => (by cases h), fun d h => (by cases h)⟩
theorem qls.nx {s : St} {c : Int} (h : qls s) (h0 : 0 <= c) : qls (nx s c) := by
 have h1 := cnt_in (p := s.1) h0 h.1
 refine ⟨fun d hd => ?_, fun d hd => ?_⟩
 ·injection hd with hd
  exact hd ▸ h1
 ·unfold Pr.nx at hd
  dsimp only at hd
  split at hd
  ·exact h.2 d hd
  ·injection hd with hd
   exact hd ▸ h1
theorem qls.st : ∀ (l : List Int) {s : St}, qls s -> (∀ c ∈ l, 0 <= c) -> qls (st s l)
 | [], _, h, _ => h
 | c :: t, s, h, hl => qls.st t (h.nx (hl c (by simp))) (fun d hd => hl d (by simp [hd]))
end Pr
section
def r8 (l : List Int) : List Value := l.map (Value.int .u8)
def rb (l : List Bool) : List Value := l.map Value.bool
theorem qd6 (l : List Int) : (r8 l).length = l.length := by simp [r8]
theorem qw8 (l : List Bool) : (rb l).length = l.length := by simp [rb]
abbrev R8 (w : World) (v : Value) (l : List Int) : Prop := Row (fun _ => False) w v (r8 l)
abbrev RB (w : World) (v : Value) (l : List Bool) : Prop := Row (fun _ => False) w v (rb l)
theorem r8_at {l : List Int} {k : Nat} {x : Int} (h : l[k]? = some x) : (r8 l)[k]? = some (.int .u8 x) := by simp [r8, h]
def has (l : List Int) (c : Int) : Bool := l.contains c
theorem qve {l : List Int} {k : Nat} {x c : Int} (h : l[k]? = some x) (h0 : has (l.take k) c = false) (hx : ¬ x = c) : has (l.take (k + 1)) c = false := by
 unfold has at h0 |-
 rw [List.take_add_one, h]
 simp only [List.contains_eq_mem, List.mem_append, decide_eq_false_iff_not, Option.toList_some, List.mem_singleton] at h0 |-
 rintro (h1 | h1)
 ·exact h0 h1
 ·exact hx h1.symm
theorem qvf {l : List Int} {k : Nat} {x : Int} (h : l[k]? = some x) : has l x = true := by
 unfold has
 simp only [List.contains_eq_mem, decide_eq_true_eq]
 exact xav h
theorem qn5 (v : Value) (l : List Int) (c : Int) (w : World) (hR : R8 w v l) (hn : l.length <= 1048576) :
 Calls Tryz.prog 210 #[v, .int .u8 c] w fun e w' => ∃ z : Int, e = .returned (.int .i64 z) /\ w' = w /\ decide (0 <= z) = has l c := by
 have HRw := xaa hR
 obtain ⟨A, cap, rfl⟩ := hR.form
 rw [qd6] at HRw |-
 obtain ⟨n, hl⟩ : ∃ n, l.length = n := ⟨_, rfl⟩
 have HN := xaa hl
 rw [hl] at hn HRw |-
 clear hl hR
 go_enter Tryz.func210, Tryz.ntmps210
 go_wp2_with fail
 go_loopg [8] n (fun kx i wr => ∃ (k : Nat), i = .int .i64 k /\ k <= n /\ kx = n - k /\ wr = w /\ Hid (has (l.take k) c = false))
 case atStart => exact ⟨0, rfl, by omega, by omega, rfl, xaa rfl⟩
 case round =>
  obtain ⟨k, rfl, hk, rfl, rfl, HC⟩ := hrel
  by_cases hlt : k < n
  ·obtain ⟨x, hx⟩ : ∃ x, l[k]? = some x := ⟨_, xac (by rw [HN.out]; exact hlt)⟩
   obtain ⟨a, cap2, hv, _, _, hcell⟩ := HRw.out.at_ (by rw [qd6, HN.out]; omega)
   obtain rfl : A = some a := by injection hv
   have hcz := hcell k _ (r8_at hx)
   have hkz : (k : Int) < n := by omega
   have HX := xaa hx
   clear hv hcell hx
   by_cases hxc : c = x
   ·go_wp2_with fail
    go_ret
    refine ⟨_, rfl, rfl, ?_⟩
    rw [hxc, qvf HX.out]
    simp
   ·go_wp2_with fail
    go_roundg (n - (k + 1))
    case measure => omega
    case rel => exact ⟨k + 1, by go_num, by omega, rfl, rfl, xaa (qve HX.out HC.out fun e => hxc e.symm)⟩
  ·have hkn : k = n := by omega
   subst hkn
   go_wp2_with fail
   go_ret
   refine ⟨_, rfl, rfl, ?_⟩
   have := HC.out
   rw [List.take_of_length_le (by rw [HN.out]; omega)] at this
   rw [this]
   rfl
theorem qij (v : Value) (l : List Int) (c : Int) (w : World) (hR : R8 w v l) (hn : l.length <= 1048576) :
 Calls Tryz.prog 208 #[v, .int .u8 c] w fun e w' => e = .returned (.bool (has l c)) /\ w' = w := by
 have C := xaa (qn5 v l c w hR hn)
 clear hR
 go_enter Tryz.func208, Tryz.ntmps208
 go_wp2_with fail
 refine (C.out).mono ?_
 rintro e w1 ⟨z, rfl, rfl, hz⟩
 have HZ := xaa hz
 clear hz C
 by_cases h0 : 0 <= z
 ·go_wp2_with fail
  go_ret
  refine ⟨qak ?_, rfl⟩
  rw [<- HZ.out]
  all_goals simp [h0]
 ·go_wp2_with fail
  go_ret
  refine ⟨qak ?_, rfl⟩
  rw [<- HZ.out]
  all_goals simp [h0]
theorem qdp (v : Value) (l : List Int) (c : Int) (w : World) (hR : R8 w v l) (hn : l.length <= 1048576) :
 Calls Tryz.prog 156 #[.int .u8 c, v] w fun e w' => e = .returned (.bool (has l c)) /\ w' = w := by
 have C := xaa (qij v l c w hR hn)
 clear hR
 go_enter Tryz.func156, Tryz.ntmps156
 go_wp2_with fail
 refine (C.out).mono ?_
 rintro e w1 ⟨rfl, rfl⟩
 clear C
 go_wp2_with fail
 go_ret
 exact ⟨rfl, rfl⟩
theorem qba (v : Value) (l : List Int) (a b o x : Int) (cl : Bool) (w : World) (hR : R8 w v l) (hn : l.length <= 1048576) :
 Calls Tryz.prog 157 #[.agg #[.int .u8 a, .int .u8 b, .int .u8 o, .bool cl], .int .u8 x, v] w fun e w' => e = .returned (.bool (decide (a = x) && has l b)) /\ Below w.heap.size w w' := by
 have hb := xar w (.cells #[.int .u8 a, .int .u8 b, .int .u8 o, .bool cl] 234)
 have C := xaa (qdp v l b _ (hR.below hb) hn)
 clear hR
 go_enter Tryz.func157, Tryz.ntmps157
 by_cases h : a = x
 ·subst h
  go_wp2_with fail
  refine (C.out).mono ?_
  rintro e w1 ⟨rfl, rfl⟩
  clear C
  go_wp2_with fail
  go_ret
  exact ⟨qak (by simp), hb⟩
 ·go_wp2_with fail
  go_ret
  exact ⟨qak (by simp [h]), hb⟩
def oI (o : Option Int) : Int := o.getD 255
def hldB (c : Int) : Bool := !(c == 255 || c == 1 || c == 2 || c == 3 || c == 4 || c == 5 || c == 6)
theorem qqx (c : Int) (w : World) :
 Calls Tryz.prog 211 #[.int .u8 c] w fun e w' => e = .returned (.bool (hldB c)) /\ w' = w := by
 go_enter Tryz.func211, Tryz.ntmps211
 by_cases h0 : c = 255
 ·go_wp2_with fail
  go_ret
  exact ⟨qak (by simp [hldB, h0]), rfl⟩
 by_cases h1 : c = 1
 ·go_wp2_with fail
  go_ret
  exact ⟨qak (by simp [hldB, h1]), rfl⟩
 by_cases h2 : c = 2
 ·go_wp2_with fail
  go_ret
  exact ⟨qak (by simp [hldB, h2]), rfl⟩
 by_cases h3 : c = 3
 ·go_wp2_with fail
  go_ret
  exact ⟨qak (by simp [hldB, h3]), rfl⟩
 by_cases h4 : c = 4
 ·go_wp2_with fail
  go_ret
  exact ⟨qak (by simp [hldB, h4]), rfl⟩
 by_cases h5 : c = 5
 ·go_wp2_with fail
  go_ret
  exact ⟨qak (by simp [hldB, h5]), rfl⟩
 by_cases h6 : c = 6
 ·go_wp2_with fail
  go_ret
  exact ⟨qak (by simp [hldB, h6]), rfl⟩
 ·go_wp2_with fail
  go_ret
  exact ⟨qak (by simp [hldB, h0, h1, h2, h3, h4, h5, h6]), rfl⟩
def cntI (c p : Int) : Int × Bool := if c = 9 /\ hldB p = true then (p, true) else if c = 9 \/ 26 < c then (0, false) else if c = 20 then (19, false) else (c, false)
theorem qk3 (c p : Int) (w : World) :
 Calls Tryz.prog 209 #[.int .u8 c, .int .u8 p] w fun e w' => e = .returned (.tuple #[.int .u8 (cntI c p).1, .bool (cntI c p).2]) /\ w' = w := by
 have C := xaa (qqx p w)
 obtain ⟨b, hb⟩ : ∃ b, hldB p = b := ⟨_, rfl⟩
 have HB := xaa hb
 rw [hb] at C
 clear hb
 go_enter Tryz.func209, Tryz.ntmps209
 by_cases h9 : c = 9
 ·cases b
  ·go_wp2_with fail
   refine (C.out).mono ?_
   rintro e w1 ⟨rfl, rfl⟩
   clear C
   go_wp2_with fail
   go_ret2
   exact ⟨by simp [cntI, HB.out, h9], rfl⟩
  ·go_wp2_with fail
   refine (C.out).mono ?_
   rintro e w1 ⟨rfl, rfl⟩
   clear C
   go_wp2_with fail
   go_ret2
   exact ⟨by simp [cntI, HB.out, h9], rfl⟩
 ·by_cases h26 : 26 < c
  ·go_wp2_with fail
   go_ret2
   exact ⟨by simp [cntI, h9, h26], rfl⟩
  ·by_cases h20 : c = 20
   ·go_wp2_with fail
    go_ret2
    exact ⟨by subst h20; rfl, rfl⟩
   ·go_wp2_with fail
    go_ret2
    have e : cntI c p = (c, false) := by unfold cntI; rw [if_neg (fun h => h9 h.1), if_neg (by omega), if_neg h20]
    rw [e]
    exact ⟨rfl, rfl⟩
end
section
structure Plc where
 a : Int
 b : Int
 o : Int
 cl : Bool
def plC (p : Plc) : Array Value := #[.int .u8 p.a, .int .u8 p.b, .int .u8 p.o, .bool p.cl]
def zPl : Plc := ⟨0, 0, 0, false⟩
theorem uP : Tryz.prog.underlying 234 = some (.struct (Tryz.prog.fieldsOf 234)) := by kernel_rfl
theorem iPp (x : Plc) : (Tryz.prog.info? 234).map (·.size) = some (plC x).size := by kernel_rfl
theorem oneP (x : Plc) : (plC x).all (·.oneCell') = true := by kernel_rfl
theorem alPp (w : World) : (Instr.alloc 234 true (.tuple #[])).run Tryz.prog w = .ok (.pointer (some ⟨w.heap.size, 0, none⟩)) (w.alloc (.cells (plC zPl) 234)) := by kernel_rfl
theorem bxP (x : Plc) (w : World) : (Instr.box 234 (.agg (plC x))).run Tryz.prog w = .ok (.pointer (some ⟨w.heap.size, 0, none⟩)) (w.alloc (.cells (plC x) 234)) := by kernel_rfl
section
variable {ops : Array Oper} {Q : Exit -> Act -> World -> Prop} {a : Act} {w : World} {rest : List Oper} {o o1 o2 : Oper}
theorem rdP (x : Operand) (ho : o.op = .load 234 x) (p : Addr) (hx : a.eval x = .pointer (some p)) (s : Plc) (hL : qar w p (plC s)) : (execOp a.eval o).run Tryz.prog w = .ok (.value (.agg (plC s))) w := qat 234 x ho p hx (plC s) _ hL uP rfl (iPp s)
theorem ldP (hg : o.guard = none) (x : Operand) (ho : o.op = .load 234 x) (p : Addr) (hx : a.eval x = .pointer (some p)) (s : Plc) (hL : qar w p (plC s))
 (h : wpList Tryz.prog ops Q rest (a.put o.dst (.agg (plC s))) w) : wpList Tryz.prog ops Q (o :: rest) a w := qan hg 234 x ho p hx (plC s) _ hL uP rfl (iPp s) h
theorem qgy (hw : Region.wanted o (yielded ops a.tmps) = true) (x : Operand) (ho : o.op = .load 234 x) (p : Addr) (hx : a.eval x = .pointer (some p)) (s : Plc) (hL : qar w p (plC s))
 (h : wpList Tryz.prog ops Q rest (a.put o.dst (.agg (plC s))) w) : wpList Tryz.prog ops Q (o :: rest) a w := qam hw _ rfl _ _ (rdP x ho p hx s hL) h
theorem alPV (hg : o.guard = none) (ho : o.op = .alloc 234) (h : ∀ w', Below w.heap.size w w' -> Blk w' w.heap.size 234 (plC zPl) -> wpList Tryz.prog ops Q rest (a.put o.dst (.pointer (some ⟨w.heap.size, 0, none⟩))) w') : wpList Tryz.prog ops Q (o :: rest) a w :=
 qao hg 234 ho _ alPp h
theorem qe7 (hg : o.guard = none) (x : Operand) (ho : o.op = .box 234 x) (s : Plc) (hx : a.eval x = .agg (plC s)) (h : ∀ w', Below w.heap.size w w' -> Blk w' w.heap.size 234 (plC s) -> wpList Tryz.prog ops Q rest (a.put o.dst (.pointer (some ⟨w.heap.size, 0, none⟩))) w') : wpList Tryz.prog ops Q (o :: rest) a w :=
 qaq hg 234 x ho (plC s) hx (bxP s) h
theorem stP (hg : o.guard = none) (x y : Operand) (ho : o.op = .store 234 x y) (hd : o.dst = none) (g : Nat) (hx : a.eval x = .pointer (some ⟨g, 0, none⟩)) (s : Plc) (hy : a.eval y = .agg (plC s)) {t : TypeId} (old : Plc) (hB : Blk w g t (plC old))
 (h : ∀ w', Mod (fun k => k = g) w w' -> Blk w' g t (plC s) -> wpList Tryz.prog ops Q rest a w') : wpList Tryz.prog ops Q (o :: rest) a w :=
 qah hg 234 x y ho hd g hx (plC s) hy t (plC old) hB (iPp s) rfl (oneP s) h
theorem nwP (hg1 : o1.guard = none) (hg2 : o2.guard = none) (D : Tmp) (hd1 : o1.dst = some D) (ho1 : o1.op = .alloc 234) (y : Operand) (ho2 : o2.op = .store 234 (.tmp D) y) (hd2 : o2.dst = none)
 (s : Plc) (hx : ∀ v, (a.put (some D) v).eval (.tmp D) = v) (hy : ∀ v, (a.put (some D) v).eval y = .agg (plC s))
 (h : ∀ w', Below w.heap.size w w' -> Blk w' w.heap.size 234 (plC s) -> wpList Tryz.prog ops Q rest (a.put (some D) (.pointer (some ⟨w.heap.size, 0, none⟩))) w') : wpList Tryz.prog ops Q (o1 :: o2 :: rest) a w :=
 qab hg1 hg2 234 D hd1 ho1 y ho2 hd2 _ alPp (plC s) hx hy (iPp s) rfl (oneP s) h
end
theorem qa9 (w : World) (l : List Int) (t : TypeId) (n : Nat) (cs : Array Value) (hn : l.length = n) (hc : cs = (r8 l).toArray) : R8 (w.alloc (.cells cs t)) (.slice (some ⟨w.heap.size, 0, none⟩) n n) l := by
 subst hc hn
 have B := Blk.new w t (r8 l).toArray
 refine .inr ⟨⟨w.heap.size, 0, none⟩, l.length, by rw [qd6], .inr ⟨B.lt, id⟩, fun j u hj => ?_⟩
 have e : (⟨w.heap.size, 0, none⟩ : Addr).add j = ⟨w.heap.size, j, none⟩ := by simp [Addr.add]; exact fun h => h.symm
 rw [e, B.cell j]
 simpa using hj
end
end Go.Proofs.YtmceblkjbpbcoaaGreatDoor
