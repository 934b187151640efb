/- Contracts of layers below. -/
import Derived.Test.YtmceblkjbpbcoaaGreatDoorPAr3
import Derived.Test.YtmceblkjbpbcoaaGreatDoorPYLaws
import Derived.Test.YtmceblkjbpbcoaaGreatDoorPArMath
import Derived.Test.YtmceblkjbpbcoaaGreatDoorPAr5
import Derived.Test.YtmceblkjbpbcoaaGreatDoorPBase
namespace Go.Proofs.YtmceblkjbpbcoaaGreatDoor
set_option maxRecDepth 100000
set_option maxHeartbeats 8000000
open Go.ChangeShapes Go.WideShapes Go.ChangeAt Go.RowKit
namespace Ar
open Go.Shelf
section
variable {F : Fence} {n : Nat} {P : Program} {ops : Array Oper} {Q : Exit -> Act -> World -> Prop} {a : Act} {w : World} {rest : List Oper} {o o1 o2 : Oper}
theorem wpIn_val (hF : ∀ f, F.fn f) (hd : ∀ c, o.op ≠ .defer c) {v : Value} {w' : World} {K : Act -> World -> Prop} (hrun : (execOp a.eval o).run P w = .ok (.value v) w') (h : K (a.put o.dst v) w') : o.wpIn F n P a w K Q := by
 unfold Oper.wpIn
 rw [Oper.semAt_eq _ _ _ hd, hrun]
 exact ⟨fun f _ => hF f, h⟩
theorem wpListIn_val (hF : ∀ f, F.fn f) (hd : ∀ c, o.op ≠ .defer c) (hg : o.guard = none) (dst : Option Tmp) (hdst : o.dst = dst) (v : Value) (w' : World) (hrun : (execOp a.eval o).run P w = .ok (.value v) w')
 (h : wpListIn F n P ops Q rest (a.put dst v) w') : wpListIn F n P ops Q (o :: rest) a w := by
 subst hdst
 exact wpListIn_plain hg fun K hK => wpIn_val hF hd hrun (hK _ _ h)
theorem wpIn_skp (hF : ∀ f, F.fn f) (hd : ∀ c, o.op ≠ .defer c) {w' : World} {K : Act -> World -> Prop} (hrun : (execOp a.eval o).run P w = .ok .skip w') (h : K (a.put o.dst undef) w') : o.wpIn F n P a w K Q := by
 unfold Oper.wpIn
 rw [Oper.semAt_eq _ _ _ hd, hrun]
 exact ⟨fun f _ => hF f, h⟩
theorem wpListIn_skp (hF : ∀ f, F.fn f) (hd : ∀ c, o.op ≠ .defer c) (hg : o.guard = none) (hdst : o.dst = none) (w' : World) (hrun : (execOp a.eval o).run P w = .ok .skip w')
 (h : wpListIn F n P ops Q rest a w') : wpListIn F n P ops Q (o :: rest) a w :=
 wpListIn_plain hg fun K hK => wpIn_skp hF hd hrun (hK _ _ (by rw [hdst]; exact h))
theorem run_op_new (ty : TypeId) (ho : o.op = .alloc ty) (z : Array Value) (hal : ∀ w, (Instr.alloc ty true (.tuple #[])).run P w = .ok (.pointer (some ⟨w.heap.size, 0, none⟩)) (w.alloc (.cells z ty))) :
 (execOp a.eval o).run P w = .ok (.value (.pointer (some ⟨w.heap.size, 0, none⟩))) (w.alloc (.cells z ty)) := by
 unfold execOp
 simp only [ho, Sem.run_bind, hal, Sem.run_pure, Result.andThen_ok]
theorem run_op_store (ty : TypeId) (x y : Operand) (ho : o.op = .store ty x y) (g off : Nat) (hx : a.eval x = .pointer (some ⟨g, off, none⟩)) (cs : Array Value) (hy : a.eval y = .agg cs)
 (t : TypeId) (old : Array Value) (hB : Blk w g t old) (hi : (P.info? ty).map (·.size) = some cs.size) (hold : off + cs.size <= old.size) (h1 : cs.all (·.oneCell') = true) :
 (execOp a.eval o).run P w = .ok .skip (w.setRow g (spl old off cs.toList)) := by
 have hrun := qap (P := P) g off t cs.toList 0 old w hB (by simpa using hold) (fun v hv => (Array.all_eq_true_iff_forall_mem.1 h1) v (by simpa using hv))
 rw [Nat.add_zero] at hrun
 have hv : (storeVar ty ⟨g, off, none⟩ (.agg cs)).run P w = .ok () (w.setRow g (spl old off cs.toList)) := by
  cases hq : P.info? ty with
  | none => simp [hq] at hi
  | some i =>
    have hs : cs.size = i.size := by simp [hq] at hi; omega
    simp [storeVar, sizeOf, typeInfo, hq, Value.cells, hs, hrun]
 unfold execOp
 simp only [ho, hx, hy, Instr.storeAt, Instr.sureAddr, Sem.run_bind, Sem.run_pure, Result.andThen_ok, hv]
theorem wpListIn_newS (hF : ∀ f, F.fn f) (hg1 : o1.guard = none) (hg2 : o2.guard = none) (ty : TypeId) (D : Tmp) (hd1 : o1.dst = some D) (ho1 : o1.op = .alloc ty) (y : Operand) (ho2 : o2.op = .store ty (.tmp D) y) (hd2 : o2.dst = none)
 (z : Array Value) (hal : ∀ w, (Instr.alloc ty true (.tuple #[])).run P w = .ok (.pointer (some ⟨w.heap.size, 0, none⟩)) (w.alloc (.cells z ty)))
 (cs : Array Value) (hx : ∀ v, (a.put (some D) v).eval (.tmp D) = v) (hy : ∀ v, (a.put (some D) v).eval y = .agg cs)
 (hi : (P.info? ty).map (·.size) = some cs.size) (hold : z.size = cs.size) (h1 : cs.all (·.oneCell') = true)
 (h : ∀ w', Below w.heap.size w w' -> KeepsOthers w w' -> Blk w' w.heap.size ty cs -> wpListIn F n P ops Q rest (a.put (some D) (.pointer (some ⟨w.heap.size, 0, none⟩))) w') : wpListIn F n P ops Q (o1 :: o2 :: rest) a w := by
 refine wpListIn_val hF (by rw [ho1]; intro c hc; cases hc) hg1 _ hd1 _ _ (run_op_new ty ho1 z hal) ?_
 refine wpListIn_skp hF (by rw [ho2]; intro c hc; cases hc) hg2 hd2 _ (run_op_store ty (.tmp D) y ho2 w.heap.size 0 (hx _) cs (hy _) ty z (Blk.new w ty z) hi (by omega) h1) ?_
 have B := setRow_heap (w.alloc (.cells z ty)) w.heap.size z (spl z 0 cs.toList) ty (0, 0) (Blk.new w ty z)
 have e : spl z 0 cs.toList = cs := by
  have hzl : z.toList.length <= 0 + cs.toList.length := by simp; omega
  unfold spl
  rw [List.take_zero, List.nil_append, List.drop_of_length_le hzl, List.append_nil, Array.toArray_toList]
 rw [e] at B |-
 have m := qai (w.alloc (.cells z ty)) w.heap.size cs
 have b1 := xar w (.cells z ty)
 refine h _ (b1.trans (m.below b1.size (fun k hk => by omega))) ?_ B
 refine (KeepsOthers.alloc w _).trans ⟨m.size, fun k o' hk ho => ?_⟩
 by_cases e : k = w.heap.size
 ·subst e
  have := (Blk.new w ty z)
  rw [show (w.alloc (.cells z ty)).heap[w.heap.size]? = _ from this] at hk
  cases hk
  cases ho
 ·rw [m.block k (xag hk).1 e]
  exact hk
end
section
variable {F : Fence} {n : Nat} {ops : Array Oper} {Q : Exit -> Act -> World -> Prop} {a : Act} {w : World} {rest : List Oper} {o o1 o2 : Oper}
theorem ldNIn (hF : ∀ f, F.fn f) (hg : o.guard = none) (x : Operand) (ho : o.op = .load 50 x) (p : Addr) (hx : a.eval x = .pointer (some p)) (s : Nod) (hL : qar w p s.cells)
 (h : wpListIn F n Tryz.prog ops Q rest (a.put o.dst (.agg s.cells)) w) : wpListIn F n Tryz.prog ops Q (o :: rest) a w :=
 wpListIn_val hF (by rw [ho]; intro c hc; cases hc) hg _ rfl _ _ (rdN x ho p hx s hL) h
theorem nwNIn (hF : ∀ f, F.fn f) (hg1 : o1.guard = none) (hg2 : o2.guard = none) (D : Tmp) (hd1 : o1.dst = some D) (ho1 : o1.op = .alloc 50) (y : Operand) (ho2 : o2.op = .store 50 (.tmp D) y) (hd2 : o2.dst = none)
 (s : Nod) (hx : ∀ v, (a.put (some D) v).eval (.tmp D) = v) (hy : ∀ v, (a.put (some D) v).eval y = .agg s.cells)
 (h : ∀ w', Below w.heap.size w w' -> KeepsOthers w w' -> Blk w' w.heap.size 50 s.cells -> wpListIn F n Tryz.prog ops Q rest (a.put (some D) (.pointer (some ⟨w.heap.size, 0, none⟩))) w') : wpListIn F n Tryz.prog ops Q (o1 :: o2 :: rest) a w :=
 wpListIn_newS hF hg1 hg2 50 D hd1 ho1 y ho2 hd2 _ alN s.cells hx hy iN rfl (oneN s) h
end
end Ar
namespace Ar
open Go.Shelf
attribute [local go_sem] Oper.semAt_some
open Classical in
noncomputable def endC (ps : List Int) (i : Nat) : Nat := if h : ∃ e, EndOf ps i e then h.choose else 0
theorem q0h {ps : List Int} {i e : Nat} (h : EndOf ps i e) : endC ps i = e := by
 unfold endC
 have hx : ∃ e, EndOf ps i e := ⟨e, h⟩
 rw [dif_pos hx]
 exact hx.choose_spec.uniq h
theorem qir {ps : List Int} {i : Nat} (hi : i < ps.length) : EndOf ps i (endC ps i) := by
 obtain ⟨e, he⟩ := EndOf.qlc (ps := ps) i hi
 rw [q0h he]
 exact he
noncomputable def pend (ps : List Int) (m i : Nat) : Nat := ((List.range' m (ps.length - m)).filter fun j => decide (pr ps j = (i : Int))).foldr (fun j a => max (endC ps j) a) 0
theorem qjm {ps : List Int} {m : Nat} (hm : m < ps.length) (i : Nat) : pend ps m i = if pr ps m = (i : Int) then max (endC ps m) (pend ps (m + 1) i) else pend ps (m + 1) i := by
 unfold pend
 rw [show ps.length - m = (ps.length - (m + 1)) + 1 by omega, List.range'_succ, List.filter_cons]
 by_cases h : pr ps m = (i : Int)
 ·simp [h]
 ·simp [h]
theorem qmp (g : Nat -> Nat) (b : Nat) : ∀ l : List Nat, (∀ j ∈ l, g j <= b) -> l.foldr (fun j a => max (g j) a) 0 <= b
 | [], _ => Nat.zero_le _
 | x :: l, h => by
   rw [List.foldr_cons]
   have := h x (List.mem_cons_self ..)
   have := qmp g b l fun j hj => h j (List.mem_cons_of_mem _ hj)
   omega
theorem qml (g : Nat -> Nat) : ∀ (l : List Nat) (j : Nat), j ∈ l -> g j <= l.foldr (fun j a => max (g j) a) 0
 | x :: l, j, h => by
   rw [List.foldr_cons]
   rcases List.mem_cons.1 h with rfl | h
   ·omega
   ·have := qml g l j h
    omega
theorem q02 {ps : List Int} {a b : Nat} (h : Abv ps a b) (hne : a ≠ b) : ∃ c, pr ps c = (a : Int) /\ Abv ps c b := by
 induction h with
 | refl => exact absurd rfl hne
 | up h0 hp ih =>
   rename_i b
   by_cases e : a = (pr ps b).toNat
   ·exact ⟨b, by omega, .refl⟩
   ·obtain ⟨c, h1, h2⟩ := ih e
    exact ⟨c, h1, .up h0 h2⟩
theorem qld {ps : List Int} (h : Tre ps) {n : Nat} (hn : n < ps.length) : max (pend ps (n + 1) n) (n + 1) = endC ps n := by
 have hE := qir hn
 have h1 := hE.lt
 have h2 := hE.le
 have up : pend ps (n + 1) n <= endC ps n := by
  unfold pend
  refine qmp _ _ _ fun j hj => ?_
  obtain ⟨hj1, hj2⟩ := List.mem_filter.1 hj
  have hjp : pr ps j = (n : Int) := of_decide_eq_true hj2
  have hjl : j < ps.length := (h.lt j (by omega)).2.1
  exact EndOf.mono h (.up (by omega) (by rw [hjp, xax]; exact .refl)) hE (qir hjl)
 have dn : endC ps n <= max (pend ps (n + 1) n) (n + 1) := by
  by_cases e : endC ps n = n + 1
  ·omega
  ·have ha := hE.all (endC ps n - 1) (by omega) (by omega)
   obtain ⟨c, hc1, hc2⟩ := q02 ha (by omega)
   obtain ⟨hc3, hc4, _⟩ := h.lt c (by omega)
   rw [hc1, xax] at hc3
   have hcE := qir hc4
   have h5 := ((hcE.out h (by omega)).1 hc2).2
   have h6 : endC ps c <= pend ps (n + 1) n := by
    unfold pend
    exact qml _ _ c (List.mem_filter.2 ⟨by rw [List.mem_range'_1]; omega, decide_eq_true hc1⟩)
   omega
 omega
noncomputable def esF (ps : List Int) (m i : Nat) : Nat := if i < m then pend ps m i else endC ps i
theorem qr6 (ps : List Int) (i : Nat) (hi : i < ps.length) : esF ps ps.length i = 0 := by
 unfold esF pend
 rw [if_pos hi, Nat.sub_self]
 rfl
theorem q0e (ps : List Int) (i : Nat) : esF ps 0 i = endC ps i := by
 unfold esF
 rw [if_neg (by omega)]
def updF (f : Nat -> Nat) (i v : Nat) (j : Nat) : Nat := if j = i then v else f j
def qh8 (f : Nat -> Nat) (n : Nat) (p : Int) : Nat -> Nat :=
 if 0 < n then updF (updF f n (max (f n) (n + 1))) p.toNat (max (updF f n (max (f n) (n + 1)) p.toNat) (updF f n (max (f n) (n + 1)) n)) else updF f n (max (f n) (n + 1))
theorem qtm {ps : List Int} (h : Tre ps) {n : Nat} (hn : n < ps.length) {f : Nat -> Nat} (hf : ∀ i, i < ps.length -> f i = esF ps (n + 1) i) : ∀ i, i < ps.length -> qh8 f n (pr ps n) i = esF ps n i := by
 intro i hi
 have hfn : max (f n) (n + 1) = endC ps n := by
  rw [hf n hn, show esF ps (n + 1) n = pend ps (n + 1) n by unfold esF; rw [if_pos (by omega)]]
  exact qld h hn
 unfold qh8
 rw [hfn]
 by_cases h0 : 0 < n
 ·rw [if_pos h0]
  obtain ⟨p0, p1, _⟩ := h.par n h0 hn
  obtain ⟨p, hp⟩ : ∃ p : Nat, pr ps n = p := ⟨(pr ps n).toNat, by omega⟩
  rw [hp, xax]
  have hpn : p < n := by omega
  by_cases e1 : i = p
  ·subst e1
   unfold updF
   rw [if_pos rfl, if_neg (by omega), if_pos rfl, hf i hi]
   unfold esF
   rw [if_pos (by omega), if_pos (by omega), qjm hn, if_pos hp]
   omega
  ·unfold updF
   rw [if_neg e1]
   by_cases e2 : i = n
   ·subst e2
    rw [if_pos rfl]
    unfold esF
    rw [if_neg (by omega)]
   ·rw [if_neg e2, hf i hi]
    unfold esF
    by_cases e3 : i < n
    ·rw [if_pos (by omega), if_pos e3, qjm hn, if_neg (by rw [hp]; omega)]
    ·rw [if_neg (by omega), if_neg e3]
 ·obtain rfl : n = 0 := by omega
  rw [if_neg h0]
  unfold updF
  by_cases e2 : i = 0
  ·subst e2
   rw [if_pos rfl]
   unfold esF
   rw [if_neg (by omega)]
  ·rw [if_neg e2, hf i hi]
   unfold esF
   rw [if_neg (by omega), if_neg (by omega)]
abbrev NI (l : List Nod) := { p : Nat × Nod // l[p.1]? = some p.2 }
def encI {l : List Nod} (x : NI l) : Array Value := #[.int .i64 (x.1.1 : Int), .agg x.1.2.cells]
def qwr (n0 Bs : Nat) (W W' : World) : Prop := Below n0 W W' /\ W'.heap[Bs]? = W.heap[Bs]?
theorem qwr.trans {n0 Bs : Nat} {X Y Z : World} (h : qwr n0 Bs X Y) (k : qwr n0 Bs Y Z) : qwr n0 Bs X Z := ⟨h.1.trans k.1, k.2.trans h.2⟩
theorem qwr.obj {n0 Bs : Nat} {w : World} (hn : n0 <= w.heap.size) (hB : Bs < w.heap.size) (W : World) (l : Nat) (o o' : Obj) (hl : w.heap.size <= l) (h : W.heap[l]? = some o) (h1 : o.isCells = false) (h2 : o.isWalk = false) : qwr n0 Bs W (W.putObj l o') :=
 ⟨belowK_b hn W l o o' hl h h1 h2, World.putObj_heap_other (by omega)⟩
def rng (n : Nat) : List Nat := (List.range n).reverse
theorem ql5 (n : Nat) : rng (n + 1) = n :: rng n := by
 unfold rng
 rw [List.range_succ, List.reverse_append]
 rfl
theorem q0w (n : Nat) (A : Option Addr) (k c : Nat) (w : World) :
 CallsIn Fence.wide n Tryz.prog 61 #[.slice A k c] w fun e w' => e = .returned (.func (.func 114) #[] #[.pointer (some ⟨w.heap.size, 0, none⟩)]) /\ w' = w.alloc (.cells #[.slice A k c] 22) := by
 refine callsIn_of_wp Tryz.func61 rfl trivial ?_ rfl
 simp only [Tryz.ntmps61, List.size_toArray, List.length_cons, List.length_nil, Nat.reduceAdd, Nat.reduceSub, Array.replicate_succ, Array.replicate_zero, List.push_toArray, List.append_toArray, List.nil_append, List.cons_append]
 gi_wp2
 go_ret
 exact ⟨rfl, rfl⟩
theorem qo2 (n Bs : Nat) (l : List Nod) (v : Value) (w0 w : World) (hR : Ns w0 v l) (hlen : l.length <= 1048576) (hw : Below w0.heap.size w0 w) (hB : Bs < w.heap.size) (hBs : w.cell? ⟨Bs, 0, none⟩ = some v) :
 SeqStopsK Fence.wide n Tryz.prog 114 #[.pointer (some ⟨Bs, 0, none⟩)] (encI (l := l)) (qwr w0.heap.size Bs) (fun xs => xs.map (fun x => x.1.1) = rng l.length) (fun pre => pre.map (fun x => x.1.1) <+: rng l.length) l.length w := by
 intro L J Jx W hW hJ _ hY h0
 have hb0 : Below w0.heap.size w0 W := hw.trans (hW.mono hw.size)
 have hBW : W.cell? ⟨Bs, 0, none⟩ = some v := (hW.cell (p := ⟨Bs, 0, none⟩) hB).trans hBs
 have HY := xaa hY
 have HR := xaa hR
 obtain ⟨A, cap, rfl⟩ := hR.form
 obtain ⟨m, hm⟩ : ∃ m, l.length = m := ⟨_, rfl⟩
 have HM := xaa hm
 rw [hm] at hlen hBW HR |-
 clear hY hR hm hW hB hBs hw
 refine callsIn_of_wp Tryz.func114 rfl trivial ?_ rfl
 simp only [Tryz.ntmps114, List.size_toArray, List.length_cons, List.length_nil, Nat.reduceAdd, Nat.reduceSub, Array.replicate_succ, Array.replicate_zero, List.push_toArray, List.append_toArray, List.nil_append, List.cons_append]
 gi_wp2
 gi_loopw [3] (fun s3 wr => ∃ (k : Nat) (pre : List (NI l)), s3 = .int .i64 ((k : Int) - 1) /\ k <= m /\ Hid (rng m = pre.map (fun x => x.1.1) ++ rng k) /\ J pre wr /\ Below w0.heap.size w0 wr /\ wr.cell? ⟨Bs, 0, none⟩ = some (.slice A m cap))
  (fun s3 _ => (intOf s3 + 1).toNat)
 case atStart => exact ⟨m, [], by go_num, xat, xaa rfl, h0, hb0, hBW⟩
 case round =>
  obtain ⟨k, pre, rfl, hk, HI, hJs, hbr, hBr⟩ := hrel
  clear h0 hb0 hBW
  by_cases h1 : 0 < k
  ·obtain ⟨j, rfl⟩ : ∃ j, k = j + 1 := ⟨k - 1, by omega⟩
   have hjm : j < m := by omega
   have hjl : j < l.length := by rw [HM.out]; exact hjm
   obtain ⟨x, hx⟩ := qex hjl
   have hi := HI.out
   rw [ql5] at hi
   have hpl : pre.length < l.length := by
    have := congrArg List.length hi
    simp [rng] at this
    rw [HM.out]
    omega
   obtain ⟨fn, tmps, assign, body, hy, hRd⟩ := HY.out pre ⟨(j, x), hx⟩ wr hJs hpl
   have HI' : Hid (rng m = (pre ++ [(⟨(j, x), hx⟩ : NI l)]).map (fun (x : NI l) => x.1.1) ++ rng j) := xaa (by rw [hi]; simp)
   dsimp only [encI] at hy
   obtain ⟨ad, cap2, o, hv, _, ha, hLi⟩ := HR.out.get hbr hx
   rw [HM.out] at hv
   injection hv with hv1 hv2 hv3
   subst hv1 hv3
   have hz : ((j + 1 : Nat) : Int) - 1 = (j : Int) := by omega
   have hjz : (j : Int) < m := by omega
   rw [hz]
   have HBR := xaa hbr
   clear HI hi HY hv2 hz hbr
   gi_wp2_with (refine ldNIn (fun _ => trivial) rfl (.tmp 15) rfl _ rfl x (ha ▸ hLi) ?_)
   refine ⟨fun h => (by cases h), hRd.mono ?_⟩
   rintro e w4 (⟨rfl, hJ4, hk4⟩ | ⟨rfl, hx4⟩)
   ·have hb4 := HBR.out.trans hk4.1
    have hB4 : w4.cell? ⟨Bs, 0, none⟩ = some (.slice (some ad) m cap) := (World.cell?_of_block (a := ⟨Bs, 0, none⟩) hk4.2).trans hBr
    gi_wp2
    go_roundw
    case rel => exact ⟨j, _, by go_num, by omega, HI', hJ4, hb4, hB4⟩
    case measure => simp [intOf]
   ·gi_wp2
    refine bodyPost_ret (results_none rfl _ _ _) rfl ?_
    exact ⟨⟨_, rfl⟩, .inr ⟨_, ⟨_, HI'.out.symm⟩, hx4⟩⟩
  ·obtain rfl : k = 0 := by omega
   have FIN : Hid (rng m = pre.map (fun x => x.1.1)) := xaa (by rw [HI.out]; simp [rng])
   clear HY HI
   gi_wp2
   go_end0
   exact ⟨⟨_, rfl⟩, .inl ⟨_, FIN.out.symm, hJs⟩⟩
end Ar
namespace Ar
open Go.Shelf
attribute [local go_sem] Oper.semAt_some
def qgw (n : Nat) (f : Nat -> Nat) : Array Value := ((List.range n).map fun i => iv (f i)).toArray
theorem qcr (n : Nat) (f : Nat -> Nat) : (qgw n f).size = n := by simp [qgw]
theorem qdd {n : Nat} {f : Nat -> Nat} {i : Nat} (h : i < n) : (qgw n f)[i]? = some (iv (f i)) := by
 simp [qgw, h]
theorem ql3 (n : Nat) (f : Nat -> Nat) (i v : Nat) : (qgw n f).setIfInBounds i (iv v) = qgw n (updF f i v) := by
 apply Array.ext_getElem?
 intro j
 rw [Array.getElem?_setIfInBounds]
 by_cases hj : j < n
 ·rw [qdd hj, qcr, qdd hj]
  unfold updF
  by_cases e : i = j
  ·subst e
   rw [if_pos rfl, if_pos hj, if_pos rfl]
  ·rw [if_neg e, if_neg (fun h => e h.symm)]
 ·have e1 : (qgw n f)[j]? = none := by rw [Array.getElem?_eq_none_iff, qcr]; omega
  have e2 : (qgw n (updF f i v))[j]? = none := by rw [Array.getElem?_eq_none_iff, qcr]; omega
  rw [e1, e2, qcr]
  split
  ·rw [if_neg (by omega)]
  ·rfl
theorem qqi (n : Nat) : madeCells (Value.int .i64 0).cells n = qgw n (fun _ => 0) := by
 apply Array.ext_getElem?
 intro j
 by_cases hj : j < n
 ·rw [qdd hj]
  simp [madeCells, Value.cells, hj, iv, Nat.mod_one]
 ·rw [Array.getElem?_eq_none_iff.2 (by rw [size_madeCells]; omega), Array.getElem?_eq_none_iff.2 (by rw [qcr]; omega)]
theorem qrg (n : Nat) (hn : n <= 1048576) (W : World) : (Instr.makeSlice 37 (.int .i64 (n : Int)) (.int .i64 (n : Int))).run Tryz.prog W = .ok (.slice (some ⟨W.heap.size, 0, none⟩) n n) (W.alloc (.cells (qgw n (fun _ => 0)) 3)) := by
 obtain ⟨i0, hi, hz0, hz1, hz2⟩ := qbl infoI
 have h := run_make (P := Tryz.prog) W 37 3 i0 (.int .i64 0) Tryz.underlying37 hi hz0 .i64 .i64 (n : Int) (n : Int) (by omega) (by omega) (by rw [hz2]; omega) (by omega)
 rw [hz1] at h
 simp only [Nat.mul_one, xax, qqi] at h
 exact h
def fld {l : List Nod} (pre : List (NI l)) : Nat -> Nat := pre.foldl (fun f x => qh8 f x.1.1 x.1.2.p) (fun _ => 0)
theorem qmq {l : List Nod} (pre : List (NI l)) (x : NI l) : fld (pre ++ [x]) = qh8 (fld pre) x.1.1 x.1.2.p := by simp [fld]
theorem fld_es {l : List Nod} (hT : Tre (psOf l)) : ∀ (k : Nat) (pre : List (NI l)), k <= l.length -> pre.map (fun (x : NI l) => x.1.1) ++ rng k = rng l.length -> ∀ i, i < l.length -> fld pre i = esF (psOf l) k i := by
 suffices H : ∀ (N k : Nat) (pre : List (NI l)), pre.length = N -> k <= l.length -> pre.map (fun (x : NI l) => x.1.1) ++ rng k = rng l.length -> ∀ i, i < l.length -> fld pre i = esF (psOf l) k i from fun k pre => H _ k pre rfl
 intro N
 induction N with
 | zero =>
   intro k pre h0 hk h i hi
   obtain rfl := List.length_eq_zero_iff.1 h0
   have h2 := congrArg List.length h
   simp [rng] at h2
   subst h2
   rw [<- qad] at hi |-
   exact (qr6 (psOf l) i hi).symm
 | succ N ih =>
   intro k pre' h0 hk h i hi
   obtain ⟨pre, x, rfl⟩ : ∃ pre x, pre' = pre ++ [x] := by
    rcases List.eq_nil_or_concat pre' with rfl | ⟨L, b, rfl⟩
    ·cases h0
    ·exact ⟨L, b, List.concat_eq_append⟩
   obtain ⟨⟨j, nd⟩, hx⟩ := x
   have hj : j < l.length := (xah hx).1
   have h2 := congrArg List.length h
   simp [rng] at h2
   have hkl : k < l.length := by omega
   have e : j = k := by
    have h3 := congrArg (fun (s : List Nat) => s[pre.length]?) h
    simp only [List.map_append, List.map_cons, List.map_nil, List.append_assoc] at h3
    rw [List.getElem?_append_right (by simp), xao, Nat.sub_self] at h3
    simp only [List.cons_append, xad] at h3
    unfold rng at h3
    rw [List.getElem?_reverse (by simp; omega), List.getElem?_range (by simp; omega)] at h3
    simp at h3
    omega
   subst e
   have ih' := ih (j + 1) pre (by simpa using h0) (by omega) (by rw [ql5]; simpa using h)
   rw [qmq]
   have hs := qtm hT (n := j) (by rw [qad]; exact hj) (f := fld pre) (by rw [qad]; exact ih')
   rw [qad] at hs
   have := hs i hi
   rw [qk1 hx] at this
   exact this
theorem _root_.Go.Proofs.YtmceblkjbpbcoaaGreatDoor.Blk.ownAr_ {w w' : World} {g : Nat} {t : TypeId} {cs : Array Value} {row : Option Nat} (h : Blk w g t cs) (hg : w.grownBy w' row) (hr : ∀ r, row = some r -> ∃ o : Obj, w.heap[r]? = some o /\ o.isCells = false) : Blk w' g t cs :=
 h.grown hg (fun e => by
  obtain ⟨o, ho, hc⟩ := hr g e.symm
  rw [show w.heap[g]? = _ from h] at ho
  cases ho
  cases hc)
theorem KeepsOthers.below_none {W W' : World} (b : Below W.heap.size W W') : KeepsOthers W W' := ⟨b.size, fun k _ hk _ => (b.block k (xag hk).1).trans hk⟩
theorem qs1 (l : List Nod) (v : Value) (w : World) (hR : Ns w v l) (hT : Tre (psOf l)) (hlen : l.length <= 1048576) :
 Calls Tryz.prog 35 #[v] w fun e w' => ∃ g f, e = .returned (.slice (some ⟨g, 0, none⟩) l.length l.length) /\ w.heap.size <= g /\ Blk w' g 3 (qgw l.length f) /\ (∀ i, i < l.length -> f i = endC (psOf l) i) /\ Below w.heap.size w w' := by
 have HR := xaa hR
 have HT := xaa hT
 obtain ⟨A, cap, rfl⟩ := hR.form
 have FE : Hid (∀ xs : List (NI l), xs.map (fun (x : NI l) => x.1.1) = rng l.length -> ∀ i, i < l.length -> fld xs i = endC (psOf l) i) := xaa fun xs h i hi => by
  rw [fld_es hT 0 xs (by omega) (by rw [h]; simp [rng]) i hi, q0e]
 obtain ⟨m, hm⟩ : ∃ m, l.length = m := ⟨_, rfl⟩
 have HM := xaa hm
 have hmk := qrg m (by omega)
 rw [hm] at hlen HR FE |-
 clear hR hT hm
 refine (callsIn_wide (n := 5)).1 ?_
 refine callsIn_of_wp_marks Tryz.func35 rfl trivial ?_ rfl
 simp only [Tryz.ntmps35, List.size_toArray, List.length_cons, List.length_nil, Nat.reduceAdd, Nat.reduceSub, Array.replicate_succ, Array.replicate_zero, List.push_toArray, List.append_toArray, List.nil_append, List.cons_append]
 gi_wp2_with fail
 refine ⟨trivial, (q0w _ _ _ _ _).mono ?_⟩
 rintro e w1 ⟨rfl, rfl⟩
 gi_wp2_with fail
 have hE := Blk.new w 3 (qgw m fun _ => 0)
 have hX := Boxed.new (w.alloc (.cells (qgw m fun _ => 0) 3)) 37 (.slice (some ⟨w.heap.size, 0, none⟩) m m)
 have hY := Boxed.new ((w.alloc (.cells (qgw m fun _ => 0) 3)).alloc (.cells #[.slice (some ⟨w.heap.size, 0, none⟩) m m] 37)) 22 (.slice A m cap)
 simp only [World.size_alloc] at hX hY
 have b0 : Below w.heap.size w (((w.alloc (.cells (qgw m fun _ => 0) 3)).alloc (.cells #[.slice (some ⟨w.heap.size, 0, none⟩) m m] 37)).alloc (.cells #[.slice A m cap] 22)) := (((Below.refl _ w).alloc (xat) _).alloc (by simp) _).alloc (by simp; omega) _
 have hsz : (((w.alloc (.cells (qgw m fun _ => 0) 3)).alloc (.cells #[.slice (some ⟨w.heap.size, 0, none⟩) m m] 37)).alloc (.cells #[.slice A m cap] 22)).heap.size = w.heap.size + 3 := by simp
 have hE3 := (hE.alloc (.cells #[.slice (some ⟨w.heap.size, 0, none⟩) m m] 37)).alloc (.cells #[.slice A m cap] 22)
 have hX3 := hX.alloc (.cells #[.slice A m cap] 22)
 obtain ⟨W3, hW3⟩ : ∃ W3, ((w.alloc (.cells (qgw m fun _ => 0) 3)).alloc (.cells #[.slice (some ⟨w.heap.size, 0, none⟩) m m] 37)).alloc (.cells #[.slice A m cap] 22) = W3 := ⟨_, rfl⟩
 rw [hW3] at hE3 hX3 hY b0 hsz |-
 clear hW3 hE hX
 refine wpIn_rangeFunc_ownH rfl (by omega) (gf := 114) (lb := #[.pointer (some ⟨w.heap.size + 1 + 1, 0, none⟩)]) rfl trivial (enters_of Tryz.func114 (by kernel_rfl) rfl)
  (qo2 _ (w.heap.size + 1 + 1) l (.slice A m cap) w W3 HR.out (by rw [HM.out]; exact hlen) b0 (by omega) hY.cell) (fun h k => qwr.trans h k) (qwr.obj (by omega) (by omega)) (xas) (fun _ => rfl)
  (fun pre W => Blk W w.heap.size 3 (qgw m (fld pre)) /\ Boxed W (w.heap.size + 1) 37 (.slice (some ⟨w.heap.size, 0, none⟩) m m) /\ Below w.heap.size w W /\ w.heap.size + 3 <= W.heap.size)
  (fun _ _ _ => False)
  (fun s X Y row hs hg hr => ⟨hs.1.ownAr_ hg (fun r e => (hr r e).2), boxed_own _ _ (fun _ => _) s X Y row hs.2.1 hg (fun r e => (hr r e).2), ownFrom_below (β := List (NI l)) (xat) (by omega) s X Y row hs.2.2.1 hg hr, xau hs.2.2.2 hg.size⟩)
  (fun _ _ _ _ _ hs _ _ => hs)
  ⟨hE3, hX3, b0, by omega⟩
  (fun x a' W => ∃ P, a' = { tmps := #[.slice A m cap, undef, .slice none 0 0, .pointer (some ⟨w.heap.size + 1, 0, none⟩), .int .i64 (x.1.1 : Int), .pointer (some ⟨P, 0, none⟩), .slice A m cap, .int .i64 (m : Int), .slice (some ⟨w.heap.size, 0, none⟩) m m, .slice A m cap, .func (.func 114) #[] #[.pointer (some ⟨w.heap.size + 1 + 1, 0, none⟩)], .int .i64 (x.1.1 : Int), .agg x.1.2.cells, undef, undef, undef, undef, undef, undef, undef, undef, undef, undef, undef, undef, undef, undef, undef, undef, undef, undef, undef, undef, undef, undef, undef, undef, undef, undef, undef], defers := [] } /\ Blk W P 50 x.1.2.cells /\ w.heap.size + 3 <= P)
  (fun x a' s X Y row hs hg hr => by
   obtain ⟨P, h1, h2, h3⟩ := hs
   exact ⟨P, h1, h2.ownAr_ hg (fun r e => (hr r e).2), h3⟩)
  ?assign ?body ?done ?stop
 case assign =>
  rintro L pre x W K ⟨i1, i2, i3, i4⟩ hK
  simp only [encI]
  gi_wp2_with (refine nwNIn (fun _ => trivial) rfl rfl 5 rfl rfl (.tmp 12) rfl rfl x.1.2 (fun _ => rfl) (fun _ => rfl) ?_; intro w5 b5 k5 B5)
  exact hK _ _ (k5.from _) ⟨b5.mono i3.size, b5.block _ (by omega)⟩ ⟨i1.kb b5, (b5.block _ (by omega)).trans i2, i3.trans (b5.mono i3.size), xau i4 b5.size⟩ ⟨_, rfl, B5, i4⟩
 case body =>
  rintro L pre ⟨⟨n, nd⟩, hx⟩ a' W0 hL hrec ⟨i1, i2, i3, i4⟩ ⟨P, rfl, hP, hPn⟩ _
  have hnl : n < l.length := (xah hx).1
  have hn : n < m := by rw [<- HM.out]; exact hnl
  obtain ⟨q1, q2⟩ := qjo HT.out hx
  have q3 : 0 < n -> 0 <= nd.p := fun h0 => by
   have := (HT.out.par n h0 (by rw [qad]; exact hnl)).1
   rwa [qk1 hx] at this
  have HS : Hid (fld (pre ++ [⟨(n, nd), hx⟩]) = qh8 (fld pre) n nd.p) := xaa (qmq pre ⟨(n, nd), hx⟩)
  obtain ⟨f, hf⟩ : ∃ f, fld pre = f := ⟨_, rfl⟩
  rw [hf] at i1 HS
  obtain ⟨c, hc⟩ : ∃ c, n + 1 = c := ⟨_, rfl⟩
  have hwr : IntKind.i64.wrap ((n : Int) + 1) = (c : Int) := (IntWalk.i64_in _ (by omega)).trans (by omega)
  obtain ⟨e, he⟩ : ∃ e, max (f n) c = e := ⟨_, rfl⟩
  have hmx : max ((f n : Nat) : Int) (c : Int) = (e : Int) := by omega
  have HSE : Hid (qh8 f n nd.p = if 0 < n then updF (updF f n e) nd.p.toNat (max (updF f n e nd.p.toNat) (updF f n e n)) else updF f n e) := xaa (by unfold qh8; rw [hc, he])
  have HU : Hid (updF f n e n = e) := xaa (by unfold updF; rw [if_pos rfl])
  have hcp : ∀ W', Below W0.heap.size W0 W' -> W'.cell? ⟨P, 1, none⟩ = some (.int .i64 nd.p) := fun W' h => (h.cell (p := ⟨P, 1, none⟩) hP.lt).trans (hP.cell 1)
  obtain ⟨p, hp⟩ : ∃ p, nd.p = p := ⟨_, rfl⟩
  rw [hp] at q1 q2 q3 HS HSE hcp
  have CB : Hid (∀ W', Below W0.heap.size W0 W' -> W'.cell? ⟨w.heap.size + 1, 0, none⟩ = some (.slice (some ⟨w.heap.size, 0, none⟩) m m)) := xaa fun W' h => (h.cell (p := ⟨w.heap.size + 1, 0, none⟩) (by show w.heap.size + 1 < _; omega)).trans i2.cell
  have CE : Hid (∀ W', Below W0.heap.size W0 W' -> ∀ i, i < m -> W'.cell? ⟨w.heap.size, i, none⟩ = some (.int .i64 (f i : Int)) /\ W'.frozen? ⟨w.heap.size, i, none⟩ = false) := xaa fun W' h i hi => by
   have hb := i1.kb h
   exact ⟨(hb.cell i).trans (qdd hi), hb.frozen i⟩
  have HPP := xaa hp
  have HP := xaa hP
  have H1 := xaa i1
  have H2 := xaa i2
  have hnz : (n : Int) < m := by omega
  dsimp only
  clear hP hcp i1 i2 hrec hp hf hc
  gi_wp2_with fail
  refine qcb (by kernel_rfl) (fun W => Below W0.heap.size W0 W) (below_drewN (xas) 1) (by kernel_rfl) 10 (by rfl) (by kernel_rfl) (by kernel_rfl) (fun R hR => ?_)
  refine AllS.f_ (i := 0) CB.out ?_
  refine AllS.t_ (i := 1) ?_
  refine AllS.f_ (i := 2) CB.out ?_
  refine AllS.t_ (i := 3) ?_
  refine AllS.t_ (i := 4) ?_
  refine AllS.f_ (i := 5) (fun W hSw => (CE.out W hSw n hn).1) ?_
  refine AllS.t_ (i := 6) ?_
  refine AllS.t_ (i := 7) ?_
  refine AllS.t_ (i := 8) ?_
  refine AllS.t_ (i := 9) ?_
  refine AllS.done (by kernel_rfl) (hR.out _ ?_) _
  clear hR R
  intro W6 b6
  refine qfs (by rw [xab]; rfl) rfl ?_
  obtain ⟨hq, hfz⟩ := CE.out W6 b6 n hn
  refine wpIn_skp (fun _ => trivial) (fun c hc => by cases hc) (w' := W6.setCell ⟨w.heap.size, n, none⟩ (.int .i64 (e : Int))) (by go_simp) ?_
  have B7 : Blk (W6.setCell ⟨w.heap.size, n, none⟩ (.int .i64 (e : Int))) w.heap.size 3 (qgw m (updF f n e)) := by
   rw [<- ql3]
   exact (H1.out.kb b6).set_ n _
  have m7 : Mod (fun k => k = w.heap.size) W0 (W6.setCell ⟨w.heap.size, n, none⟩ (.int .i64 (e : Int))) := Mod.setCell (S := fun k => k = w.heap.size) (xap b6) (.inl rfl) _
  have k7 : KeepsOthers W0 (W6.setCell ⟨w.heap.size, n, none⟩ (.int .i64 (e : Int))) := (KeepsOthers.below_none b6).trans (KeepsOthers.setCell _ _ _)
  obtain ⟨W7, hW7⟩ : ∃ W7, W6.setCell ⟨w.heap.size, n, none⟩ (.int .i64 (e : Int)) = W7 := ⟨_, rfl⟩
  rw [hW7] at B7 m7 k7 |-
  clear hW7 hq hfz b6 CE CB hwr hmx
  have X7 : Boxed W7 (w.heap.size + 1) 37 (.slice (some ⟨w.heap.size, 0, none⟩) m m) := (m7.block _ (by omega) (by omega)).trans H2.out
  have P7 : Blk W7 P 50 nd.cells := HP.out.keep m7 (by omega)
  have s7 := m7.size
  by_cases h0 : 0 < n
  ·obtain ⟨q, rfl⟩ : ∃ q : Nat, p = q := ⟨p.toNat, by have := q3 h0; omega⟩
   have hqm : q < m := by omega
   have hqz : (q : Int) < m := by omega
   obtain ⟨f2, hf2⟩ : ∃ f2, updF f n e = f2 := ⟨_, rfl⟩
   obtain ⟨e2, he2⟩ : ∃ e2, max (f2 q) e = e2 := ⟨_, rfl⟩
   have hmx : max ((f2 q : Nat) : Int) (e : Int) = (e2 : Int) := by omega
   have hse := HSE.out
   have hu := HU.out
   rw [if_pos h0, xax, hf2] at hse
   rw [hf2] at B7 hu
   rw [hu, he2] at hse
   have HSE2 : Hid (qh8 f n (q : Int) = updF f2 q e2) := xaa hse
   have CB : Hid (∀ W', Below W7.heap.size W7 W' -> W'.cell? ⟨w.heap.size + 1, 0, none⟩ = some (.slice (some ⟨w.heap.size, 0, none⟩) m m)) := xaa fun W' h => (h.cell (p := ⟨w.heap.size + 1, 0, none⟩) (by show w.heap.size + 1 < _; omega)).trans X7.cell
   have CE : Hid (∀ W', Below W7.heap.size W7 W' -> ∀ i, i < m -> W'.cell? ⟨w.heap.size, i, none⟩ = some (.int .i64 (f2 i : Int)) /\ W'.frozen? ⟨w.heap.size, i, none⟩ = false) := xaa fun W' h i hi => by
    have hb := B7.kb h
    exact ⟨(hb.cell i).trans (qdd hi), hb.frozen i⟩
   have CP : Hid (∀ W', Below W7.heap.size W7 W' -> W'.cell? ⟨P, 1, none⟩ = some (.int .i64 (q : Int))) := xaa fun W' h => (h.cell (p := ⟨P, 1, none⟩) P7.lt).trans ((P7.cell 1).trans (by rw [<- HPP.out]; rfl))
   have CN : Hid (∀ W', Below W7.heap.size W7 W' -> W'.cell? ⟨w.heap.size, n, none⟩ = some (.int .i64 (e : Int))) := xaa fun W' h => by
    have := (CE.out W' h n hn).1
    rw [hu] at this
    exact this
   have HB7 := xaa B7
   have HX7 := xaa X7
   clear hse hu HSE HU hf2 he2 he B7 P7 X7 HP H1 H2
   gi_wp2_with fail
   refine qcb (by kernel_rfl) (fun W => Below W7.heap.size W7 W) (below_drewN (xas) 1) (by kernel_rfl) 14 (by rfl) (by kernel_rfl) (by kernel_rfl) (fun R hR => ?_)
   refine AllS.f_ (i := 0) CB.out ?_
   refine AllS.t_ (i := 1) ?_
   refine AllS.f_ (i := 2) CP.out ?_
   refine AllS.f_ (i := 3) CB.out ?_
   refine AllS.t_ (i := 4) ?_
   refine AllS.f_ (i := 5) CP.out ?_
   refine AllS.t_ (i := 6) ?_
   refine AllS.f_ (i := 7) (fun W hSw => (CE.out W hSw q hqm).1) ?_
   refine AllS.f_ (i := 8) CB.out ?_
   refine AllS.t_ (i := 9) ?_
   refine AllS.t_ (i := 10) ?_
   refine AllS.f_ (i := 11) CN.out ?_
   refine AllS.t_ (i := 12) ?_
   refine AllS.t_ (i := 13) ?_
   refine AllS.done (by kernel_rfl) (hR.out _ ?_) _
   clear hR R
   intro W8 b8
   refine qfs (by rw [xab]; rfl) rfl ?_
   obtain ⟨hq, hfz⟩ := CE.out W8 b8 q hqm
   refine wpIn_skp (fun _ => trivial) (fun c hc => by cases hc) (w' := W8.setCell ⟨w.heap.size, q, none⟩ (.int .i64 (e2 : Int))) (by go_simp) ?_
   have B9 : Blk (W8.setCell ⟨w.heap.size, q, none⟩ (.int .i64 (e2 : Int))) w.heap.size 3 (qgw m (updF f2 q e2)) := by
    rw [<- ql3]
    exact (HB7.out.kb b8).set_ q _
   have m9 : Mod (fun k => k = w.heap.size) W7 (W8.setCell ⟨w.heap.size, q, none⟩ (.int .i64 (e2 : Int))) := Mod.setCell (S := fun k => k = w.heap.size) (xap b8) (.inl rfl) _
   have k9 : KeepsOthers W7 (W8.setCell ⟨w.heap.size, q, none⟩ (.int .i64 (e2 : Int))) := (KeepsOthers.below_none b8).trans (KeepsOthers.setCell _ _ _)
   obtain ⟨W9, hW9⟩ : ∃ W9, W8.setCell ⟨w.heap.size, q, none⟩ (.int .i64 (e2 : Int)) = W9 := ⟨_, rfl⟩
   rw [hW9] at B9 m9 k9 |-
   clear hW9 hq hfz b8 CE CB CP CN hmx
   have m10 := m7.trans m9
   gi_wp2_with fail
   exact ⟨(k7.trans k9).from _, ⟨m10.below (by omega) (fun k hk => by omega), m10.block _ (by omega) (by omega)⟩, by rw [HS.out, HSE2.out]; exact B9, (m9.block _ (by omega) (by omega)).trans HX7.out, i3.trans (m10.below (by omega) (fun k hk => by omega)), xau i4 m10.size⟩
  ·have hse := HSE.out
   rw [if_neg h0] at hse
   have HSE2 : Hid (qh8 f n p = updF f n e) := xaa hse
   have hn0 : n = 0 := by omega
   clear hse HSE HU q3
   gi_wp2_with fail
   exact ⟨k7.from _, ⟨m7.below (by omega) (fun k hk => by omega), m7.block _ (by omega) (by omega)⟩, by rw [HS.out, HSE2.out]; exact B7, X7, i3.trans (m7.below (by omega) (fun k hk => by omega)), xau i4 m7.size⟩
 case done =>
  rintro D xs W hD hxs ⟨i1, i2, i3, i4⟩ hK
  have hc := i2.cell
  gi_wp2
  refine ⟨by simp, .inl ⟨_, _, rfl, run_takeDeferred hK, ?_⟩⟩
  have hfr := belowK_b (w := w) (xat) W D _ (.deferred none) (by omega) hK rfl rfl
  refine ⟨_, results_tmp rfl _ _ _, w.heap.size, fld xs, rfl, xat, ?_, FE.out xs (by rw [<- HM.out]; exact hxs), i3.trans hfr⟩
  exact i1.ownAr_ (grownBy_putObj' W D (.deferred none)) (fun r e => by cases e; exact ⟨_, hK, rfl⟩)
 case stop =>
  rintro D c pre W _ _ h _
  exact h.elim
end Ar
end Go.Proofs.YtmceblkjbpbcoaaGreatDoor
