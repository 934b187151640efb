/- Contracts of layers below. -/
import Derived.Test.YtmceblkjbpbcoaaGreatDoorPWhMath
import Derived.Test.YtmceblkjbpbcoaaGreatDoorPYLaws
import Derived.Test.YtmceblkjbpbcoaaGreatDoorPCMath
import Derived.Test.YtmceblkjbpbcoaaGreatDoorPPrMath
import Derived.Test.YtmceblkjbpbcoaaGreatDoorPWhRow
import Derived.Test.YtmceblkjbpbcoaaGreatDoorPBase
namespace Go.Proofs.YtmceblkjbpbcoaaGreatDoor
set_option maxRecDepth 100000
set_option maxHeartbeats 4000000
open Go.ChangeShapes Go.WideShapes Go.ChangeAt Go.RowKit
namespace Ch
open Wh (Cr)
open Pr (St nx s0 qjk)
def lett (c : Cr) : Bool := c.kind == 0 && (clsOf c.r == 0 || clsOf c.r == 22 || clsOf c.r == 25 || clsOf c.r == 20 || clsOf c.r == 19)
def qre (c : Cr) : Bool := c.kind == 0 && clsOf c.r == 9
def clsT (k : Int) (s : Sty) : Int :=
 if s.a1 = 1 /\ ((if k = 20 /\ s.a3 = 2 then 19 else if k = 20 \/ (k = 19 /\ s.a3 = 1) then 25 else k) = 0 \/ (if k = 20 /\ s.a3 = 2 then 19 else if k = 20 \/ (k = 19 /\ s.a3 = 1) then 25 else k) = 22) then 25
 else if k = 20 /\ s.a3 = 2 then 19 else if k = 20 \/ (k = 19 /\ s.a3 = 1) then 25 else k
def clsC (c : Cr) (s : Sty) : Int :=
 if 1 <= c.kind /\ c.kind <= 4 then 5 else if c.kind = 6 then 26 else if c.kind ≠ 0 then 1 else clsT (clsOf c.r) s
theorem q0l {k : Int} (s : Sty) (h0 : 0 <= k) (h1 : k <= 26) : 0 <= clsT k s /\ clsT k s <= 26 := by
 unfold clsT
 split
 ·omega
 ·split
  ·omega
  ·split <;> omega
theorem q0m (c : Cr) (s : Sty) : 0 <= clsC c s /\ clsC c s <= 26 := by
 unfold clsC
 split
 ·omega
 ·split
  ·omega
  ·split
   ·omega
   ·exact q0l s (qm1 c.r).1 (qm1 c.r).2
def stl (ss : List Sty) (n : Int) : Sty := ss.getD n.toNat .zero
def okC (n : Nat) (c : Cr) : Bool := decide (0 <= c.node) && decide (c.node < (n : Int)) && decide (c.kind <= 6)
def okR (n : Nat) (r : Int) : Bool := decide (0 <= r) && decide (r < (n : Int))
def mayC (l : List Cr) (n : Nat) (rs : List Int) : Bool := decide (l.length = rs.length) && l.all (okC n) && (rs.drop 1).all (okR n)
def oneC (a b : Cr) (r sa : Sty) (q : Bool) : Int :=
 if a.kind = 5 \/ b.kind = 5 \/ r.a0 = 1 \/ r.a0 = 2 then 0
 else if (a.kind = 3 \/ a.kind = 4) /\ sa.a0 = 5 then 1
 else if b.kind = 1 \/ b.kind = 2 then 0
 else if r.a3 = 3 then (if qre b then 0 else 1)
 else if q && !(decide (r.a1 = 2) && lett a && lett b) then 1
 else if r.a2 = 1 /\ qre b = false then 2
 else 0
def nxC (ss : List Sty) (s : St) (c : Cr) : St := if c.kind = 5 then s0 else nx s (clsC c (stl ss c.node))
def qs8 (ss : List Sty) (s : St) (c : Cr) : Bool := if c.kind = 5 then false else (qjk s (clsC c (stl ss c.node))).2
abbrev Sc := St × Option Cr
def z0 : Sc := (s0, none)
def nxS (ss : List Sty) (s : Sc) (c : Cr) : Sc := (nxC ss s.1 c, some c)
def atC (ss : List Sty) (s : Sc) (c : Cr) (r : Int) : Int := match s.2 with | none => 0 | some a => oneC a c (stl ss r) (stl ss a.node) (qs8 ss s.1 c)
def chn (ss : List Sty) : Sc -> List Cr -> List Int -> List Int
 | s, c :: t, r :: rt => atC ss s c r :: chn ss (nxS ss s c) t rt
 | _, _, _ => []
def stC (ss : List Sty) (s : Sc) (l : List Cr) : Sc := l.foldl (nxS ss) s
theorem qli (ss : List Sty) : ∀ (l : List Cr) (rs : List Int) (s : Sc), l.length = rs.length -> (chn ss s l rs).length = l.length
 | [], _, _, _ => rfl
 | _ :: _, [], _, h => by simp at h
 | c :: t, r :: rt, s, h => by
   show (chn ss (nxS ss s c) t rt).length + 1 = t.length + 1
   rw [qli ss t rt _ (by simpa using h)]
theorem qlj (ss : List Sty) : ∀ (l : List Cr) (rs : List Int) (s : Sc) (i : Nat) {c : Cr} {r : Int}, l[i]? = some c -> rs[i]? = some r -> (chn ss s l rs)[i]? = some (atC ss (stC ss s (l.take i)) c r)
 | [], _, _, _, _, _, h, _ => by simp at h
 | _ :: _, [], _, _, _, _, _, h => by simp at h
 | c :: t, r :: rt, s, 0, _, _, h1, h2 => by
   simp at h1 h2
   subst h1 h2
   rfl
 | c :: t, r :: rt, s, i + 1, _, _, h1, h2 => qlj ss t rt (nxS ss s c) i (by simpa using h1) (by simpa using h2)
theorem qto (ss : List Sty) (l : List Cr) (s : Sc) (i : Nat) {c : Cr} (h : l[i]? = some c) : (stC ss s (l.take (i + 1))).2 = some c := by
 unfold stC
 rw [List.take_add_one, h, List.foldl_append]
 rfl
theorem qtn (ss : List Sty) (l : List Cr) (s : Sc) (i : Nat) {c : Cr} (h : l[i]? = some c) : stC ss s (l.take (i + 1)) = nxS ss (stC ss s (l.take i)) c := by
 unfold stC
 rw [List.take_add_one, h, List.foldl_append]
 rfl
theorem qzj (a b : Cr) (r sa : Sty) (q : Bool) : 0 <= oneC a b r sa q /\ oneC a b r sa q <= 2 := by
 unfold oneC
 repeat' split
 all_goals omega
theorem qf7 {a b : Cr} (r sa : Sty) (q : Bool) (h : a.kind = 5 \/ b.kind = 5) : oneC a b r sa q = 0 := by
 unfold oneC
 rw [if_pos (by rcases h with h | h <;> simp [h])]
theorem qw2 {ss : List Sty} {n : Int} {k : Nat} {s : Sty} (h : ss[k]? = some s) (hn : n = (k : Int)) : stl ss n = s := by
 subst hn
 unfold stl
 rw [xal, xax, h]
 rfl
structure Like (ss ts : List Sty) (f : Cr -> Cr) (g : Int -> Int) (l : List Cr) (rs : List Int) : Prop where
 kind : ∀ c ∈ l, (f c).kind = c.kind
 num : ∀ c ∈ l, (f c).r = c.r
 node : ∀ c ∈ l, stl ts (f c).node = stl ss c.node
 rule : ∀ r ∈ rs, stl ts (g r) = stl ss r
def prt (ss : List Sty) (l : List Cr) : List Int := (l.takeWhile fun c => decide (c.kind ≠ 5)).map fun c => clsC c (stl ss c.node)
theorem qxv {ss : List Sty} {l : List Cr} {rs : List Int} {i : Nat} {a c : Cr} {r : Int} (ha : l[i]? = some a) (hc : l[i + 1]? = some c) (hr : rs[i + 1]? = some r) :
 (chn ss z0 l rs)[i + 1]? = some (oneC a c (stl ss r) (stl ss a.node) (qs8 ss (stC ss z0 (l.take (i + 1))).1 c)) := by
 rw [qlj ss l rs z0 (i + 1) hc hr]
 unfold atC
 rw [qto ss l z0 i ha]
theorem qm4 {ss : List Sty} {l : List Cr} {rs : List Int} {c : Cr} {r : Int} (hc : l[0]? = some c) (hr : rs[0]? = some r) : (chn ss z0 l rs)[0]? = some 0 := by
 rw [qlj ss l rs z0 0 hc hr]
 rfl
theorem qhb {α : Type} (p : α -> Bool) : ∀ (k : Nat) (m : List α) {c : α}, (∀ j d, j < k -> m[j]? = some d -> p d = true) -> m[k]? = some c -> (m.takeWhile p)[k]? = (if p c then some c else none) /\ (m.takeWhile p).take k = m.take k
 | _, [], _, _, h => by simp at h
 | 0, x :: t, c, _, h => by
   simp at h
   subst h
   rw [List.takeWhile_cons]
   cases hp : p x <;> simp
 | k + 1, x :: t, c, h0, h => by
   have hx : p x = true := h0 0 x (by omega) rfl
   obtain ⟨i1, i2⟩ := qhb p k t (c := c) (fun j d hj hd => h0 (j + 1) d (by omega) (by simpa using hd)) (by simpa using h)
   rw [List.takeWhile_cons, if_pos hx]
   exact ⟨by simpa using i1, by simp [i2]⟩
theorem qyr (ss : List Sty) (s : Sc) (l m : List Cr) : stC ss s (l ++ m) = stC ss (stC ss s l) m := List.foldl_append
theorem qjd (ss : List Sty) : ∀ (m : List Cr) (s : Sc), (∀ c ∈ m, c.kind ≠ 5) -> (stC ss s m).1 = Pr.st s.1 (m.map fun c => clsC c (stl ss c.node))
 | [], _, _ => rfl
 | c :: t, s, h => by
   show (stC ss (nxS ss s c) t).1 = Pr.st (nx s.1 (clsC c (stl ss c.node))) (t.map _)
   rw [qjd ss t _ fun d hd => h d (by simp [hd])]
   show Pr.st (nxC ss s.1 c) _ = _
   unfold nxC
   rw [if_neg (h c (by simp))]
theorem qqa {ss : List Sty} {l : List Cr} {j : Nat} (h : j = 0 \/ ∃ i c, j = i + 1 /\ l[i]? = some c /\ c.kind = 5) : (stC ss z0 (l.take j)).1 = s0 := by
 rcases h with rfl | ⟨i, c, rfl, hc, h5⟩
 ·rfl
 ·rw [qtn ss l z0 i hc]
  show nxC ss _ c = s0
  unfold nxC
  rw [if_pos h5]
theorem qus {ss : List Sty} {l : List Cr} {j i : Nat} {c : Cr} (hji : j <= i) (hc : l[i]? = some c) (hb : j = 0 \/ ∃ i c, j = i + 1 /\ l[i]? = some c /\ c.kind = 5) (hn : ∀ k d, j <= k -> k < i -> l[k]? = some d -> d.kind ≠ 5) :
 ((((Pr.plc s0 (prt ss (l.drop j))).map (·.2))[i - j]?).getD false) = qs8 ss (stC ss z0 (l.take i)).1 c := by
 have hil := (xah hc).1
 have hm : (l.drop j)[i - j]? = some c := by rw [List.getElem?_drop, show j + (i - j) = i by omega, hc]
 obtain ⟨t1, t2⟩ := qhb (fun c : Cr => decide (c.kind ≠ 5)) (i - j) (l.drop j) (c := c) (fun k d hk hd => by
  rw [List.getElem?_drop] at hd
  simpa using hn (j + k) d (by omega) (by omega) hd) hm
 have e1 : l.take i = l.take j ++ (l.drop j).take (i - j) := by
  rw [<- List.take_append_drop j (l.take i), List.take_take, Nat.min_eq_left hji, List.drop_take]
 have e2 : (stC ss z0 (l.take i)).1 = Pr.st s0 (((l.drop j).take (i - j)).map fun c => clsC c (stl ss c.node)) := by
  rw [e1, qyr, qjd ss _ _ fun d hd => by
   obtain ⟨k, hk⟩ := List.getElem?_of_mem hd
   rw [List.getElem?_take] at hk
   split at hk
   ·next hki =>
    rw [List.getElem?_drop] at hk
    exact hn (j + k) d (by omega) (by omega) hk
   ·cases hk]
  rw [qqa hb]
 unfold prt
 by_cases h5 : c.kind = 5
 ·rw [if_neg (by simp [h5])] at t1
  have hl : ((l.drop j).takeWhile fun c => decide (c.kind ≠ 5)).length <= i - j := List.getElem?_eq_none_iff.1 t1
  rw [List.getElem?_eq_none_iff.2 (by rw [xao, Pr.qdo, xao]; exact hl)]
  unfold qs8
  rw [if_pos h5]
  rfl
 ·rw [if_pos (by simpa using h5)] at t1
  have hp : (((l.drop j).takeWhile fun c => decide (c.kind ≠ 5)).map fun c => clsC c (stl ss c.node))[i - j]? = some (clsC c (stl ss c.node)) := by rw [xan, t1]; rfl
  rw [xan, Pr.qqw _ s0 (i - j) hp, <- List.map_take, t2, e2]
  unfold qs8
  rw [if_neg h5]
  rfl
end Ch
section
open Wh (Cr)
open Ch
structure Hc where
 kind : Int
 cls : Int
 as_ : Int
 white : Int
def hcA (x : Hc) : Array Value := #[.int .u8 x.kind, .int .u8 x.cls, .int .u8 x.as_, .int .u8 x.white]
def zHc : Hc := ⟨0, 0, 0, 0⟩
structure Pc where
 first : Bool
 b : Hc
 a : Hc
 s : Sty
 e : Bool
def pcA (x : Pc) : Array Value := #[.bool x.first, .int .u8 x.b.kind, .int .u8 x.b.cls, .int .u8 x.b.as_, .int .u8 x.b.white, .int .u8 x.a.kind, .int .u8 x.a.cls, .int .u8 x.a.as_, .int .u8 x.a.white,
 .int .u8 x.s.a0, .int .u8 x.s.a1, .int .u8 x.s.a2, .int .u8 x.s.a3, .int .i64 x.s.a4, .int .i64 x.s.a5, .int .i64 x.s.a6, .int .u8 x.s.a7, .int .i64 x.s.a8, .bool x.e]
def zPc : Pc := ⟨false, zHc, zHc, .zero, false⟩
theorem uHc : Tryz.prog.underlying 129 = some (.struct (Tryz.prog.fieldsOf 129)) := by kernel_rfl
theorem iHc (x : Hc) : (Tryz.prog.info? 129).map (·.size) = some (hcA x).size := by kernel_rfl
theorem qux (x : Hc) : (hcA x).all (·.oneCell') = true := by kernel_rfl
theorem alHc (w : World) : (Instr.alloc 129 true (.tuple #[])).run Tryz.prog w = .ok (.pointer (some ⟨w.heap.size, 0, none⟩)) (w.alloc (.cells (hcA zHc) 129)) := by kernel_rfl
theorem bxHc (x : Hc) (w : World) : (Instr.box 129 (.agg (hcA x))).run Tryz.prog w = .ok (.pointer (some ⟨w.heap.size, 0, none⟩)) (w.alloc (.cells (hcA x) 129)) := by kernel_rfl
section
variable {ops : Array Oper} {Q : Exit -> Act -> World -> Prop} {a : Act} {w : World} {rest : List Oper} {o o1 o2 : Oper}
theorem rdHc (x : Operand) (ho : o.op = .load 129 x) (p : Addr) (hx : a.eval x = .pointer (some p)) (s : Hc) (hL : qar w p (hcA s)) : (execOp a.eval o).run Tryz.prog w = .ok (.value (.agg (hcA s))) w := qat 129 x ho p hx (hcA s) _ hL uHc rfl (iHc s)
theorem ldHc (hg : o.guard = none) (x : Operand) (ho : o.op = .load 129 x) (p : Addr) (hx : a.eval x = .pointer (some p)) (s : Hc) (hL : qar w p (hcA s))
 (h : wpList Tryz.prog ops Q rest (a.put o.dst (.agg (hcA s))) w) : wpList Tryz.prog ops Q (o :: rest) a w := qan hg 129 x ho p hx (hcA s) _ hL uHc rfl (iHc s) h
theorem qmm (hw : Region.wanted o (yielded ops a.tmps) = true) (x : Operand) (ho : o.op = .load 129 x) (p : Addr) (hx : a.eval x = .pointer (some p)) (s : Hc) (hL : qar w p (hcA s))
 (h : wpList Tryz.prog ops Q rest (a.put o.dst (.agg (hcA s))) w) : wpList Tryz.prog ops Q (o :: rest) a w := qam hw _ rfl _ _ (rdHc x ho p hx s hL) h
theorem alHcV (hg : o.guard = none) (ho : o.op = .alloc 129) (h : ∀ w', Below w.heap.size w w' -> Blk w' w.heap.size 129 (hcA zHc) -> wpList Tryz.prog ops Q rest (a.put o.dst (.pointer (some ⟨w.heap.size, 0, none⟩))) w') : wpList Tryz.prog ops Q (o :: rest) a w :=
 qao hg 129 ho _ alHc h
theorem q0t (hg : o.guard = none) (x : Operand) (ho : o.op = .box 129 x) (s : Hc) (hx : a.eval x = .agg (hcA s)) (h : ∀ w', Below w.heap.size w w' -> Blk w' w.heap.size 129 (hcA s) -> wpList Tryz.prog ops Q rest (a.put o.dst (.pointer (some ⟨w.heap.size, 0, none⟩))) w') : wpList Tryz.prog ops Q (o :: rest) a w :=
 qaq hg 129 x ho (hcA s) hx (bxHc s) h
theorem stHc (hg : o.guard = none) (x y : Operand) (ho : o.op = .store 129 x y) (hd : o.dst = none) (g : Nat) (hx : a.eval x = .pointer (some ⟨g, 0, none⟩)) (s : Hc) (hy : a.eval y = .agg (hcA s)) {t : TypeId} (old : Hc) (hB : Blk w g t (hcA old))
 (h : ∀ w', Mod (fun k => k = g) w w' -> Blk w' g t (hcA s) -> wpList Tryz.prog ops Q rest a w') : wpList Tryz.prog ops Q (o :: rest) a w :=
 qah hg 129 x y ho hd g hx (hcA s) hy t (hcA old) hB (iHc s) rfl (qux s) h
end
theorem uPc : Tryz.prog.underlying 131 = some (.struct (Tryz.prog.fieldsOf 131)) := by kernel_rfl
theorem iPc (x : Pc) : (Tryz.prog.info? 131).map (·.size) = some (pcA x).size := by kernel_rfl
theorem onePc (x : Pc) : (pcA x).all (·.oneCell') = true := by kernel_rfl
theorem alPc (w : World) : (Instr.alloc 131 true (.tuple #[])).run Tryz.prog w = .ok (.pointer (some ⟨w.heap.size, 0, none⟩)) (w.alloc (.cells (pcA zPc) 131)) := by kernel_rfl
theorem bxPc (x : Pc) (w : World) : (Instr.box 131 (.agg (pcA x))).run Tryz.prog w = .ok (.pointer (some ⟨w.heap.size, 0, none⟩)) (w.alloc (.cells (pcA x) 131)) := by kernel_rfl
section
variable {ops : Array Oper} {Q : Exit -> Act -> World -> Prop} {a : Act} {w : World} {rest : List Oper} {o o1 o2 : Oper}
theorem rdPc (x : Operand) (ho : o.op = .load 131 x) (p : Addr) (hx : a.eval x = .pointer (some p)) (s : Pc) (hL : qar w p (pcA s)) : (execOp a.eval o).run Tryz.prog w = .ok (.value (.agg (pcA s))) w := qat 131 x ho p hx (pcA s) _ hL uPc rfl (iPc s)
theorem ldPc (hg : o.guard = none) (x : Operand) (ho : o.op = .load 131 x) (p : Addr) (hx : a.eval x = .pointer (some p)) (s : Pc) (hL : qar w p (pcA s))
 (h : wpList Tryz.prog ops Q rest (a.put o.dst (.agg (pcA s))) w) : wpList Tryz.prog ops Q (o :: rest) a w := qan hg 131 x ho p hx (pcA s) _ hL uPc rfl (iPc s) h
theorem ldPcIf (hw : Region.wanted o (yielded ops a.tmps) = true) (x : Operand) (ho : o.op = .load 131 x) (p : Addr) (hx : a.eval x = .pointer (some p)) (s : Pc) (hL : qar w p (pcA s))
 (h : wpList Tryz.prog ops Q rest (a.put o.dst (.agg (pcA s))) w) : wpList Tryz.prog ops Q (o :: rest) a w := qam hw _ rfl _ _ (rdPc x ho p hx s hL) h
theorem qg1 (hg : o.guard = none) (x : Operand) (ho : o.op = .box 131 x) (s : Pc) (hx : a.eval x = .agg (pcA s)) (h : ∀ w', Below w.heap.size w w' -> Blk w' w.heap.size 131 (pcA s) -> wpList Tryz.prog ops Q rest (a.put o.dst (.pointer (some ⟨w.heap.size, 0, none⟩))) w') : wpList Tryz.prog ops Q (o :: rest) a w :=
 qaq hg 131 x ho (pcA s) hx (bxPc s) h
theorem nwPc (hg1 : o1.guard = none) (hg2 : o2.guard = none) (D : Tmp) (hd1 : o1.dst = some D) (ho1 : o1.op = .alloc 131) (y : Operand) (ho2 : o2.op = .store 131 (.tmp D) y) (hd2 : o2.dst = none)
 (s : Pc) (hx : ∀ v, (a.put (some D) v).eval (.tmp D) = v) (hy : ∀ v, (a.put (some D) v).eval y = .agg (pcA s))
 (h : ∀ w', Below w.heap.size w w' -> Blk w' w.heap.size 131 (pcA s) -> wpList Tryz.prog ops Q rest (a.put (some D) (.pointer (some ⟨w.heap.size, 0, none⟩))) w') : wpList Tryz.prog ops Q (o1 :: o2 :: rest) a w :=
 qab hg1 hg2 131 D hd1 ho1 y ho2 hd2 _ alPc (pcA s) hx hy (iPc s) rfl (onePc s) h
end
theorem Blk.pcB {w : World} {g : Nat} {t : TypeId} {p : Pc} (h : Blk w g t (pcA p)) : qar w ⟨g, 1, none⟩ (hcA p.b) := h.part 1 fun j v hv => by
 match j, hv with
 | 0, hv => exact hv
 | 1, hv => exact hv
 | 2, hv => exact hv
 | 3, hv => exact hv
 | j + 4, hv => simp [hcA] at hv
theorem Blk.pcF {w : World} {g : Nat} {t : TypeId} {p : Pc} (h : Blk w g t (pcA p)) : qar w ⟨g, 5, none⟩ (hcA p.a) := h.part 5 fun j v hv => by
 match j, hv with
 | 0, hv => exact hv
 | 1, hv => exact hv
 | 2, hv => exact hv
 | 3, hv => exact hv
 | j + 4, hv => simp [hcA] at hv
theorem qck (k : Int) (s : Sty) : clsT k s = if k = 20 then (if s.a3 = 2 then 19 else 25) else if k = 19 then (if s.a3 = 1 then 25 else 19) else if (k = 0 \/ k = 22) /\ s.a1 = 1 then 25 else k := by
 unfold clsT
 by_cases h20 : k = 20
 ·subst h20
  by_cases h2 : s.a3 = 2 <;> simp [h2]
 ·by_cases h19 : k = 19
  ·subst h19
   by_cases h1 : s.a3 = 1 <;> simp [h1]
  ·simp only [h20, h19, false_and, or_self, if_false]
   by_cases h1 : s.a1 = 1 <;> simp [h1]
def inS (kind k : Int) (s : Sty) : Int := if kind = 0 then clsT k s else if 1 <= kind /\ kind <= 4 then 5 else if kind = 6 then 26 else 1
theorem inS_is (c : Cr) (s : Sty) : inS c.kind (clsOf c.r) s = clsC c s := by
 unfold inS clsC
 by_cases h0 : c.kind = 0
 ·rw [if_pos h0, if_neg (by omega), if_neg (by omega), if_neg (by simp [h0])]
 ·rw [if_neg h0]
  by_cases h1 : 1 <= c.kind /\ c.kind <= 4
  ·rw [if_pos h1, if_pos h1]
  ·rw [if_neg h1, if_neg h1]
   by_cases h6 : c.kind = 6
   ·rw [if_pos h6, if_pos h6]
   ·rw [if_neg h6, if_neg h6, if_pos h0]
def lettH (h : Hc) : Bool := h.kind == 0 && (h.cls == 0 || h.cls == 22 || h.cls == 25 || h.cls == 20 || h.cls == 19)
def markH (h : Hc) : Bool := h.kind == 0 && h.cls == 9
def endH (h : Hc) : Bool := (h.kind == 3 || h.kind == 4) && h.white == 5
def hcOf (ss : List Sty) (c : Cr) : Hc := ⟨c.kind, clsOf c.r, clsC c (stl ss c.node), (stl ss c.node).a0⟩
theorem qon (k : Int) (s : Sty) (w : World) :
 Calls Tryz.prog 122 #[.int .u8 k, .agg s.cells] w fun e w' => e = .returned (.int .u8 (clsT k s)) /\ Below w.heap.size w w' := by
 obtain ⟨x1, hx1⟩ : ∃ x, s.a1 = x := ⟨_, rfl⟩
 obtain ⟨x3, hx3⟩ : ∃ x, s.a3 = x := ⟨_, rfl⟩
 have HX := xaa hx3
 have HX1 := xaa hx1
 go_enter Tryz.func122, Tryz.ntmps122
 go_wp2_with (refine bxSV rfl (.tmp 1) rfl s rfl ?_; intro w1 b1 B1; refine Mk.out ?_)
 constructor
 have c1 : w1.cell? ⟨w.heap.size, 1, none⟩ = some (.int .u8 s.a1) := B1.cell 1
 have c3 : w1.cell? ⟨w.heap.size, 3, none⟩ = some (.int .u8 s.a3) := B1.cell 3
 rw [hx1] at c1
 rw [hx3] at c3
 clear hx1 hx3
 by_cases h20 : k = 20
 ·subst h20
  by_cases h2 : x3 = 2
  ·go_wp2_with fail
   go_ret
   exact ⟨qb7 (by rw [qck]; simp [HX.out, h2]), b1⟩
  ·go_wp2_with fail
   go_ret
   exact ⟨qb7 (by rw [qck]; simp [HX.out, h2]), b1⟩
 ·by_cases h19 : k = 19
  ·subst h19
   by_cases h1 : x3 = 1
   ·go_wp2_with fail
    go_ret
    exact ⟨qb7 (by rw [qck]; simp [HX.out, h1]), b1⟩
   ·go_wp2_with fail
    go_ret
    exact ⟨qb7 (by rw [qck]; simp [HX.out, h1]), b1⟩
  ·by_cases h0 : k = 0
   ·subst h0
    by_cases h1 : x1 = 1
    ·go_wp2_with fail
     go_ret
     exact ⟨qb7 (by rw [qck]; simp [HX1.out, h1]), b1⟩
    ·go_wp2_with fail
     go_ret
     exact ⟨qb7 (by rw [qck]; simp [HX1.out, h1]), b1⟩
   ·by_cases h22 : k = 22
    ·subst h22
     by_cases h1 : x1 = 1
     ·go_wp2_with fail
      go_ret
      exact ⟨qb7 (by rw [qck]; simp [HX1.out, h1]), b1⟩
     ·go_wp2_with fail
      go_ret
      exact ⟨qb7 (by rw [qck]; simp [HX1.out, h1]), b1⟩
    ·go_wp2_with fail
     go_ret
     exact ⟨qb7 (by rw [qck]; simp [h20, h19, h0, h22]), b1⟩
theorem qwc (kind k : Int) (s : Sty) (w : World) :
 Calls Tryz.prog 85 #[.int .u8 kind, .int .u8 k, .agg s.cells] w fun e w' => e = .returned (.int .u8 (inS kind k s)) /\ Below w.heap.size w w' := by
 have C : Hid (∀ W, Calls Tryz.prog 122 #[.int .u8 k, .agg s.cells] W fun e w' => e = .returned (.int .u8 (clsT k s)) /\ Below W.heap.size W w') := xaa fun W => qon k s W
 obtain ⟨t, ht⟩ : ∃ t, clsT k s = t := ⟨_, rfl⟩
 have HT := xaa ht
 rw [ht] at C
 clear ht
 go_enter Tryz.func85, Tryz.ntmps85
 go_wp2_with (refine bxSV rfl (.tmp 2) rfl s rfl ?_; intro w1 b1 B1; refine Mk.out ?_)
 constructor
 by_cases h0 : kind = 0
 ·subst h0
  go_wp2_with (refine ldS rfl (.tmp 5) rfl _ rfl s B1.lies ?_)
  refine (C.out _).mono ?_
  rintro e w2 ⟨rfl, b2⟩
  go_wp2_with fail
  go_ret
  exact ⟨qb7 (by unfold inS; rw [if_pos rfl]; exact HT.out.symm), xaq b1 b2⟩
 by_cases h1 : kind = 1
 ·subst h1
  go_wp2_with fail
  go_ret
  exact ⟨qb7 (by simp [inS]), b1⟩
 by_cases h2 : kind = 2
 ·subst h2
  go_wp2_with fail
  go_ret
  exact ⟨qb7 (by simp [inS]), b1⟩
 by_cases h3 : kind = 3
 ·subst h3
  go_wp2_with fail
  go_ret
  exact ⟨qb7 (by simp [inS]), b1⟩
 by_cases h4 : kind = 4
 ·subst h4
  go_wp2_with fail
  go_ret
  exact ⟨qb7 (by simp [inS]), b1⟩
 by_cases h6 : kind = 6
 ·subst h6
  go_wp2_with fail
  go_ret
  exact ⟨qb7 (by simp [inS]), b1⟩
 ·go_wp2_with fail
  go_ret
  exact ⟨qb7 (by unfold inS; rw [if_neg h0, if_neg (by omega), if_neg h6]), b1⟩
theorem qhs (h : Hc) (w : World) :
 Calls Tryz.prog 126 #[.agg (hcA h)] w fun e w' => e = .returned (.bool (lettH h)) /\ Below w.heap.size w w' := by
 obtain ⟨hk, hcl, has, hw⟩ := h
 go_enter Tryz.func126, Tryz.ntmps126
 go_wp2_with (refine q0t rfl (.tmp 0) rfl ⟨hk, hcl, has, hw⟩ rfl ?_; intro w1 b1 B1; refine Mk.out ?_)
 constructor
 have c0 : w1.cell? ⟨w.heap.size, 0, none⟩ = some (.int .u8 hk) := B1.cell 0
 have c1 : w1.cell? ⟨w.heap.size, 1, none⟩ = some (.int .u8 hcl) := B1.cell 1
 by_cases k0 : hk = 0
 ·subst k0
  by_cases q0 : hcl = 0
  ·subst q0
   go_wp2_with fail
   go_ret
   exact ⟨qak (by simp [lettH]), b1⟩
  by_cases q22 : hcl = 22
  ·subst q22
   go_wp2_with fail
   go_ret
   exact ⟨qak (by simp [lettH]), b1⟩
  by_cases q25 : hcl = 25
  ·subst q25
   go_wp2_with fail
   go_ret
   exact ⟨qak (by simp [lettH]), b1⟩
  by_cases q20 : hcl = 20
  ·subst q20
   go_wp2_with fail
   go_ret
   exact ⟨qak (by simp [lettH]), b1⟩
  by_cases q19 : hcl = 19
  ·subst q19
   go_wp2_with fail
   go_ret
   exact ⟨qak (by simp [lettH]), b1⟩
  ·go_wp2_with fail
   go_ret
   exact ⟨qak (by simp [lettH, q0, q22, q25, q20, q19]), b1⟩
 ·go_wp2_with fail
  go_ret
  exact ⟨qak (by simp [lettH, k0]), b1⟩
theorem qhr (h : Hc) (w : World) :
 Calls Tryz.prog 93 #[.agg (hcA h)] w fun e w' => e = .returned (.bool (markH h)) /\ Below w.heap.size w w' := by
 obtain ⟨hk, hcl, has, hw⟩ := h
 go_enter Tryz.func93, Tryz.ntmps93
 go_wp2_with (refine q0t rfl (.tmp 0) rfl ⟨hk, hcl, has, hw⟩ rfl ?_; intro w1 b1 B1; refine Mk.out ?_)
 constructor
 have c0 : w1.cell? ⟨w.heap.size, 0, none⟩ = some (.int .u8 hk) := B1.cell 0
 have c1 : w1.cell? ⟨w.heap.size, 1, none⟩ = some (.int .u8 hcl) := B1.cell 1
 by_cases k0 : hk = 0
 ·subst k0
  go_wp2_with fail
  go_ret
  exact ⟨qak (by simp [markH]), b1⟩
 ·go_wp2_with fail
  go_ret
  exact ⟨qak (by simp [markH, k0]), b1⟩
theorem qsk (h : Hc) (w : World) :
 Calls Tryz.prog 90 #[.agg (hcA h)] w fun e w' => e = .returned (.bool (endH h)) /\ Below w.heap.size w w' := by
 obtain ⟨hk, hcl, has, hw⟩ := h
 go_enter Tryz.func90, Tryz.ntmps90
 go_wp2_with (refine q0t rfl (.tmp 0) rfl ⟨hk, hcl, has, hw⟩ rfl ?_; intro w1 b1 B1; refine Mk.out ?_)
 constructor
 have c0 : w1.cell? ⟨w.heap.size, 0, none⟩ = some (.int .u8 hk) := B1.cell 0
 have c3 : w1.cell? ⟨w.heap.size, 3, none⟩ = some (.int .u8 hw) := B1.cell 3
 by_cases k3 : hk = 3
 ·subst k3
  go_wp2_with fail
  go_ret
  exact ⟨qak (by simp [endH]), b1⟩
 by_cases k4 : hk = 4
 ·subst k4
  go_wp2_with fail
  go_ret
  exact ⟨qak (by simp [endH]), b1⟩
 ·go_wp2_with fail
  go_ret
  exact ⟨qak (by simp [endH, k3, k4]), b1⟩
end
namespace Ch
open Wh (Cr)
open Pr (St nx s0 qjk)
theorem qzs {l : List Cr} {n : Nat} {rs : List Int} (h : mayC l n rs = true) : l.length = rs.length /\ (∀ c ∈ l, 0 <= c.node /\ c.node < (n : Int) /\ c.kind <= 6) /\ ∀ i r, 0 < i -> rs[i]? = some r -> 0 <= r /\ r < (n : Int) := by
 unfold mayC at h
 simp only [Bool.and_eq_true, decide_eq_true_eq] at h
 refine ⟨h.1.1, fun c hc => ?_, fun i r hi hr => ?_⟩
 ·have := xam h.1.2 c hc
  unfold okC at this
  simp only [Bool.and_eq_true, decide_eq_true_eq] at this
  exact ⟨this.1.1, this.1.2, this.2⟩
 ·have := xam h.2 r (by
   obtain ⟨j, rfl⟩ : ∃ j, i = j + 1 := ⟨i - 1, by omega⟩
   exact xav (i := j) (by rw [List.getElem?_drop, Nat.add_comm]; exact hr))
  unfold okR at this
  simp only [Bool.and_eq_true, decide_eq_true_eq] at this
  exact this
end Ch
end Go.Proofs.YtmceblkjbpbcoaaGreatDoor
