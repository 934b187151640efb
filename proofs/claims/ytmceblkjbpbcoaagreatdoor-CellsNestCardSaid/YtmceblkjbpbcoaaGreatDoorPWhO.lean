/- Contracts of layers below. -/
import Derived.Test.YtmceblkjbpbcoaaGreatDoorPWhT
import Derived.Laws.MakeOwn
namespace Go.Proofs.YtmceblkjbpbcoaaGreatDoor
set_option maxRecDepth 100000
set_option maxHeartbeats 8000000
namespace Wl
open Go.ChangeShapes Go.WideShapes Go.ChangeAt Go.RowKit Go.Shelf
open Wh
attribute [local go_sem] Oper.semAt_some
theorem infoZ : (Tryz.prog.info? 3).map (fun i => (i.zero, i.size, i.bytes)) = some (some (.int .i64 0), 1, 8) := by kernel_rfl
def rowZ (n : Nat) (f : Nat -> Int) : Array Value := ((List.range n).map fun i => Value.int .i64 (f i)).toArray
theorem qcq (n : Nat) (f : Nat -> Int) : (rowZ n f).size = n := by simp [rowZ]
theorem qca {n : Nat} {f : Nat -> Int} {i : Nat} (h : i < n) : (rowZ n f)[i]? = some (.int .i64 (f i)) := by
 simp [rowZ, h]
theorem qt0 (n : Nat) (f : Nat -> Int) (i : Nat) (v : Int) : (rowZ n f).setIfInBounds i (.int .i64 v) = rowZ n (qph f i v) := by
 apply Array.ext_getElem?
 intro j
 rw [Array.getElem?_setIfInBounds]
 by_cases hj : j < n
 ·rw [qca hj, qcq, qca hj]
  unfold qph
  by_cases e : i = j
  ·subst e
   rw [if_pos rfl, if_pos hj, if_pos rfl]
  ·rw [if_neg e, if_neg (fun h => e h.symm)]
 ·have e1 : (rowZ n f)[j]? = none := by rw [Array.getElem?_eq_none_iff, qcq]; omega
  have e2 : (rowZ n (qph f i v))[j]? = none := by rw [Array.getElem?_eq_none_iff, qcq]; omega
  rw [e1, e2, qcq]
  split
  ·rw [if_neg (by omega)]
  ·rfl
theorem qqf (n : Nat) : madeCells (Value.int .i64 0).cells n = rowZ n (fun _ => 0) := by
 apply Array.ext_getElem?
 intro j
 by_cases hj : j < n
 ·rw [qca hj]
  simp [madeCells, Value.cells, hj, Nat.mod_one]
 ·rw [Array.getElem?_eq_none_iff.2 (by rw [size_madeCells]; omega), Array.getElem?_eq_none_iff.2 (by rw [qcq]; omega)]
theorem qhi (n : Nat) (hn : n <= 1048576) (W : World) : (Instr.makeSlice 37 (.int .i64 (n : Int)) (.int .i64 (n : Int))).run Tryz.prog W = .ok (.slice (some ⟨W.heap.size, 0, none⟩) n n) (W.alloc (.cells (rowZ n (fun _ => 0)) 3)) := by
 obtain ⟨i0, hi, hz0, hz1, hz2⟩ := qbl infoZ
 have h := run_make (P := Tryz.prog) W 37 3 i0 (.int .i64 0) Tryz.underlying37 hi hz0 .i64 .i64 (n : Int) (n : Int) (by omega) (by omega) (by rw [hz2]; omega) (by omega)
 rw [hz1] at h
 simp only [Nat.mul_one, xax, qqf] at h
 exact h
theorem _root_.Go.Proofs.YtmceblkjbpbcoaaGreatDoor.Blk.own_ {w w' : World} {g : Nat} {t : TypeId} {cs : Array Value} {row : Option Nat} (h : Blk w g t cs) (hg : w.grownBy w' row) (hr : ∀ r, row = some r -> ∃ o : Obj, w.heap[r]? = some o /\ o.isCells = false) : Blk w' g t cs :=
 h.grown hg (fun e => by
  obtain ⟨o, ho, hc⟩ := hr g e.symm
  rw [show w.heap[g]? = _ from h] at ho
  cases ho
  cases hc)
theorem KeepsOthers.below_none {W W' : World} (b : Below W.heap.size W W') : KeepsOthers W W' := ⟨b.size, fun k _ hk _ => (b.block k (xag hk).1).trans hk⟩
theorem wpListIn_valIf {F : Fence} {n : Nat} {P : Program} {ops : Array Oper} {Q : Exit -> Act -> World -> Prop} {a : Act} {w w' : World} {rest : List Oper} {o : Oper} (hF : ∀ f, F.fn f) (hd : ∀ c, o.op ≠ .defer c) (hw : Region.wanted o (yielded ops a.tmps) = true) (dst : Option Tmp) (hdst : o.dst = dst) (v : Value) (hrun : (execOp a.eval o).run P w = .ok (.value v) w')
 (h : wpListIn F n P ops Q rest (a.put dst v) w') : wpListIn F n P ops Q (o :: rest) a w := by
 subst hdst
 refine wpListIn_step fun K hK => ?_
 rw [if_pos hw]
 exact wpIn_val hF hd hrun (hK _ _ h)
theorem qzv {F : Fence} {n : Nat} {ops : Array Oper} {Q : Exit -> Act -> World -> Prop} {a : Act} {w : World} {rest : List Oper} {o : Oper} (hF : ∀ f, F.fn f) (hw : Region.wanted o (yielded ops a.tmps) = true) (x : Operand) (ho : o.op = .load 116 x) (p : Addr) (hx : a.eval x = .pointer (some p)) (s : Cw) (hL : qar w p (cwA s))
 (h : wpListIn F n Tryz.prog ops Q rest (a.put o.dst (.agg (cwA s))) w) : wpListIn F n Tryz.prog ops Q (o :: rest) a w :=
 wpListIn_valIf hF (fun c hc => by rw [ho] at hc; cases hc) hw _ rfl _ (rdW x ho p hx s hL) h
theorem nwWIn {F : Fence} {n : Nat} {ops : Array Oper} {Q : Exit -> Act -> World -> Prop} {a : Act} {w : World} {rest : List Oper} {o1 o2 : Oper} (hF : ∀ f, F.fn f) (hg1 : o1.guard = none) (hg2 : o2.guard = none) (D : Tmp) (hd1 : o1.dst = some D) (ho1 : o1.op = .alloc 116) (y : Operand) (ho2 : o2.op = .store 116 (.tmp D) y) (hd2 : o2.dst = none)
 (s : Cw) (hx : ∀ v, (a.put (some D) v).eval (.tmp D) = v) (hy : ∀ v, (a.put (some D) v).eval y = .agg (cwA s))
 (h : ∀ w', Below w.heap.size w w' -> KeepsOthers w w' -> Blk w' w.heap.size 116 (cwA s) -> wpListIn F n Tryz.prog ops Q rest (a.put (some D) (.pointer (some ⟨w.heap.size, 0, none⟩))) w') : wpListIn F n Tryz.prog ops Q (o1 :: o2 :: rest) a w :=
 wpListIn_newS hF hg1 hg2 116 D hd1 ho1 y ho2 hd2 _ alW (cwA s) hx hy (iW s) rfl (oneW s) h
structure Pass (w : World) (vs : Array Value) (v : Value) (n : Nat) (s : (Nat -> Int) × Int) (W : World) : Prop where
 st : Blk W w.heap.size 111 vs
 ls : Boxed W (w.heap.size + 1) 104 v
 row : Blk W (w.heap.size + 1 + 1) 3 (rowZ n s.1)
 fd : Boxed W (w.heap.size + 1 + 1 + 1) 37 (.slice (some ⟨w.heap.size + 1 + 1, 0, none⟩) n n)
 last : Boxed W (w.heap.size + 1 + 1 + 1 + 1) 3 (.int .i64 s.2)
 bel : Below w.heap.size w W
 sz : w.heap.size + 5 <= W.heap.size
theorem Pass.own {w : World} {vs : Array Value} {v : Value} {n : Nat} {s : (Nat -> Int) × Int} {X Y : World} {row : Option Nat} (h : Pass w vs v n s X) (hg : X.grownBy Y row) (hr : ∀ r, row = some r -> w.heap.size + 5 <= r /\ ∃ o : Obj, X.heap[r]? = some o /\ o.isCells = false) : Pass w vs v n s Y :=
 ⟨h.st.own_ hg fun r e => (hr r e).2, boxed_own _ _ (fun (_ : Unit) => _) () X Y row h.ls hg (fun r e => (hr r e).2), h.row.own_ hg fun r e => (hr r e).2, boxed_own _ _ (fun (_ : Unit) => _) () X Y row h.fd hg (fun r e => (hr r e).2),
  boxed_own _ _ (fun (_ : Unit) => _) () X Y row h.last hg (fun r e => (hr r e).2), ownFrom_below (β := Unit) (xat) (by omega) () X Y row h.bel hg hr, xau h.sz hg.size⟩
theorem Pass.below {w : World} {vs : Array Value} {v : Value} {n : Nat} {s : (Nat -> Int) × Int} {X Y : World} (h : Pass w vs v n s X) (b : Below X.heap.size X Y) : Pass w vs v n s Y := by
 have hs := h.sz
 exact ⟨h.st.kb b, (b.block _ (by omega)).trans h.ls, h.row.kb b, (b.block _ (by omega)).trans h.fd, (b.block _ (by omega)).trans h.last, h.bel.trans (b.mono h.bel.size), xau h.sz b.size⟩
theorem Pass.set1 {w : World} {vs : Array Value} {v : Value} {n : Nat} {F : Nat -> Int} {z : Int} {X : World} (h : Pass w vs v n (F, z) X) (i : Nat) : Pass w vs v n (qph F i z, z) (X.setCell ⟨w.heap.size + 1 + 1, i, none⟩ (.int .i64 z)) := by
 have m : Mod (fun k => k = w.heap.size + 1 + 1) X (X.setCell ⟨w.heap.size + 1 + 1, i, none⟩ (.int .i64 z)) := Mod.setCell (S := fun k => k = w.heap.size + 1 + 1) (Mod.refl _ _) (.inl rfl) _
 have hs := h.sz
 refine ⟨h.st.keep m (by omega), (m.block _ (by omega) (by omega)).trans h.ls, ?_, (m.block _ (by omega) (by omega)).trans h.fd, (m.block _ (by omega) (by omega)).trans h.last, h.bel.trans (m.below (by omega) fun k hk => by omega), xau h.sz m.size⟩
 have := h.row.set_ i (.int .i64 z)
 rw [qt0] at this
 exact this
theorem Pass.set2 {w : World} {vs : Array Value} {v : Value} {n : Nat} {F : Nat -> Int} {z : Int} {X : World} (h : Pass w vs v n (F, z) X) (u : Int) : Pass w vs v n (F, u) (X.setCell ⟨w.heap.size + 1 + 1 + 1 + 1, 0, none⟩ (.int .i64 u)) := by
 have m : Mod (fun k => k = w.heap.size + 1 + 1 + 1 + 1) X (X.setCell ⟨w.heap.size + 1 + 1 + 1 + 1, 0, none⟩ (.int .i64 u)) := Mod.setCell (S := fun k => k = w.heap.size + 1 + 1 + 1 + 1) (Mod.refl _ _) (.inl rfl) _
 have hs := h.sz
 refine ⟨h.st.keep m (by omega), (m.block _ (by omega) (by omega)).trans h.ls, h.row.keep m (by omega), (m.block _ (by omega) (by omega)).trans h.fd, ?_, h.bel.trans (m.below (by omega) fun k hk => by omega), xau h.sz m.size⟩
 have hb : Blk X (w.heap.size + 1 + 1 + 1 + 1) 3 #[.int .i64 z] := h.last
 exact hb.set_ 0 (.int .i64 u)
theorem qg5 (vg vt : Value) (l : List Cw) (v : Value) (gf : Nat) (lb : Array Value) (us : List Nat) (f : Nat -> Cw) (w : World) (hR : RwW w v l) (hlen : l.length <= 1048576)
 (heg : ∀ args w, (callFunc gf args).run Tryz.prog w = .ok (.enter gf args) w)
 (hseq : ∀ n W, Below w.heap.size w W -> SeqStopsK Fence.wide n Tryz.prog gf lb (qxt (l := l)) (Below w.heap.size) (fun xs => xs.map (fun x => x.1.1) = us) (fun _ => True) l.length W)
 (hf : ∀ i, i < l.length -> Pts l ((walkZ none1 l us).1 i) (f i)) :
 Calls Tryz.prog 117 #[.agg #[Value.nilFunc, vg, vt], v, .func (.func gf) #[] lb] w fun e w' => ∃ gf gl, e = .returned (.func (.func 140) #[] #[.pointer (some ⟨gf, 0, none⟩), .pointer (some ⟨gl, 0, none⟩)]) /\ NearAt w' gf gl l f /\ Below w.heap.size w w' := by
 have HR := xaa hR
 have HSEQ := xaa hseq
 have HF := xaa hf
 have HEG := xaa heg
 obtain ⟨A, cap, rfl⟩ := hR.form
 obtain ⟨m, hm⟩ : ∃ m, l.length = m := ⟨_, rfl⟩
 have HM := xaa hm
 have hmk := qhi m (by omega)
 have hnf : ∀ w, (binOp BinOp.eql 107 (Value.nilFunc) Value.nilFunc).run Tryz.prog w = .ok (.bool true) w := fun _ => by kernel_rfl
 rw [hm] at hlen HR HF |-
 clear hR hseq hf hm heg
 refine (callsIn_wide (n := 5)).1 ?_
 refine callsIn_of_wp_marks Tryz.func117 rfl trivial ?_ rfl
 simp only [Tryz.ntmps117, List.size_toArray, List.length_cons, List.length_nil, Nat.reduceAdd, Nat.reduceSub, Array.replicate_succ, Array.replicate_zero, List.push_toArray, List.append_toArray, List.nil_append, List.cons_append]
 gi_wp2_with fail
 have P0 : Pass w #[Value.nilFunc, vg, vt] (.slice A m cap) m ((fun _ => 0), -1) (((((w.alloc (.cells #[Value.nilFunc, vg, vt] 111)).alloc (.cells #[.slice A m cap] 104)).alloc (.cells (rowZ m fun _ => 0) 3)).alloc (.cells #[.slice (some ⟨w.heap.size + 1 + 1, 0, none⟩) m m] 37)).alloc (.cells #[.int .i64 (-1)] 3)) := by
  have e0 := Blk.new w 111 #[Value.nilFunc, vg, vt]
  have e1 := Boxed.new (w.alloc (.cells #[Value.nilFunc, vg, vt] 111)) 104 (.slice A m cap)
  have e2 := Blk.new ((w.alloc (.cells #[Value.nilFunc, vg, vt] 111)).alloc (.cells #[.slice A m cap] 104)) 3 (rowZ m fun _ => 0)
  have e3 := Boxed.new (((w.alloc (.cells #[Value.nilFunc, vg, vt] 111)).alloc (.cells #[.slice A m cap] 104)).alloc (.cells (rowZ m fun _ => 0) 3)) 37 (.slice (some ⟨w.heap.size + 1 + 1, 0, none⟩) m m)
  have e4 := Boxed.new ((((w.alloc (.cells #[Value.nilFunc, vg, vt] 111)).alloc (.cells #[.slice A m cap] 104)).alloc (.cells (rowZ m fun _ => 0) 3)).alloc (.cells #[.slice (some ⟨w.heap.size + 1 + 1, 0, none⟩) m m] 37)) 3 (.int .i64 (-1))
  simp only [World.size_alloc] at e1 e2 e3 e4
  exact ⟨(((e0.alloc _).alloc _).alloc _).alloc _, ((e1.alloc _).alloc _).alloc _, (e2.alloc _).alloc _, e3.alloc _, e4, (((((Below.refl _ w).alloc (xat) _).alloc (by simp) _).alloc (by simp; omega) _).alloc (by simp; omega) _).alloc (by simp; omega) _, by simp⟩
 obtain ⟨W5, hW5⟩ : ∃ W5, (((((w.alloc (.cells #[Value.nilFunc, vg, vt] 111)).alloc (.cells #[.slice A m cap] 104)).alloc (.cells (rowZ m fun _ => 0) 3)).alloc (.cells #[.slice (some ⟨w.heap.size + 1 + 1, 0, none⟩) m m] 37)).alloc (.cells #[.int .i64 (-1)] 3)) = W5 := ⟨_, rfl⟩
 have hsz : W5.heap.size = w.heap.size + 5 := by rw [<- hW5]; simp
 rw [hW5] at P0 |-
 clear hW5 hmk
 refine wpIn_rangeFunc_ownH rfl (by omega) (gf := gf) (lb := lb) rfl trivial HEG.out
  (HSEQ.out _ W5 P0.bel) (fun h k => belowK_t h k) (belowK_b (by omega)) (xas) (fun _ => rfl)
  (fun pre W => Pass w #[Value.nilFunc, vg, vt] (.slice A m cap) m (walkZ none1 l (pre.map (fun (x : NIW l) => x.1.1))) W)
  (fun _ _ _ => False)
  (fun s X Y row hs hg hr => hs.own hg (fun r e => ⟨by have := (hr r e).1; omega, (hr r e).2⟩))
  (fun _ _ _ _ _ hs _ _ => hs)
  P0
  (fun x a' W => ∃ P, a' = { tmps := #[.agg #[Value.nilFunc, vg, vt], .slice A m cap, .func (.func gf) #[] lb, .pointer (some ⟨w.heap.size, 0, none⟩), .pointer (some ⟨w.heap.size + 1, 0, none⟩), undef, .nilFunc, .pointer (some ⟨w.heap.size + 1 + 1 + 1, 0, none⟩), .pointer (some ⟨w.heap.size + 1 + 1 + 1 + 1, 0, none⟩), .int .i64 (x.1.1 : Int), .pointer (some ⟨P, 0, none⟩), .slice A m cap, .int .i64 (m : Int), .slice (some ⟨w.heap.size + 1 + 1, 0, none⟩) m m, .func (.func gf) #[] lb, .int .i64 (x.1.1 : Int), .agg (cwA x.1.2), undef, undef, undef, undef, undef, undef, undef, undef, undef, undef, undef, undef, undef, undef, undef, undef], defers := [] } /\ Blk W P 116 (cwA x.1.2) /\ w.heap.size + 5 <= P)
  (fun x a' s X Y row hs hg hr => by
   obtain ⟨P, h1, h2, h3⟩ := hs
   exact ⟨P, h1, h2.own_ hg (fun r e => (hr r e).2), h3⟩)
  ?assign ?body ?done ?stop
 case assign =>
  rintro L pre x W K hI hK
  simp only [qxt]
  gi_wp2_with (refine nwWIn (fun _ => trivial) rfl rfl 10 rfl rfl (.tmp 16) rfl rfl x.1.2 (fun _ => rfl) (fun _ => rfl) ?_; intro w5 b5 k5 B5)
  exact hK _ _ (k5.from _) (b5.mono hI.bel.size) (hI.below b5) ⟨_, rfl, B5, hI.sz⟩
 case body =>
  rintro L pre ⟨⟨i, c⟩, hx⟩ a' W0 hL hrec hI ⟨P, rfl, hP, hPn⟩ _
  have hil : i < l.length := (xah hx).1
  have hi : i < m := by rw [<- HM.out]; exact hil
  obtain ⟨s, hs⟩ : ∃ s, walkZ none1 l (pre.map (fun (x : NIW l) => x.1.1)) = s := ⟨_, rfl⟩
  obtain ⟨F, z⟩ := s
  have HS : Hid (walkZ none1 l ((pre ++ [(⟨(i, c), hx⟩ : NIW l)]).map (fun (x : NIW l) => x.1.1)) = (qph F i z, if none1 c then z else (i : Int))) := xaa (by
   rw [List.map_append, List.map_cons, List.map_nil, qda, hs]
   simp only [xal, hx, Option.getD_some])
  rw [hs] at hI
  have q3 := hI.fd.cell
  have q5 := hI.last.cell
  have qi := (hI.row.cell i).trans (qca hi)
  have fz := hI.row.frozen i
  have HI := xaa hI
  have HP := xaa hP
  have hiz : (i : Int) < m := by omega
  have hbs := hI.bel.size
  have hsz0 := hI.sz
  dsimp only
  clear hI hs hP hrec hil
  gi_wp2_with (refine wpListIn_skp (o := ⟨none, .store _ _ _, _, _, _, _⟩) (fun _ => trivial) (fun c hc => by cases hc) rfl rfl (W0.setCell ⟨w.heap.size + 1 + 1, i, none⟩ (.int .i64 z)) (by go_simp) ?_; refine Mk.out ?_)
  constructor
  have I1 := HI.out.set1 i
  have m1 : Mod (fun k => k = w.heap.size + 1 + 1) W0 (W0.setCell ⟨w.heap.size + 1 + 1, i, none⟩ (.int .i64 z)) := Mod.setCell (S := fun k => k = w.heap.size + 1 + 1) (Mod.refl _ _) (.inl rfl) _
  have k1 : KeepsOthers W0 (W0.setCell ⟨w.heap.size + 1 + 1, i, none⟩ (.int .i64 z)) := KeepsOthers.setCell _ _ _
  obtain ⟨W1, hW1⟩ : ∃ W1, W0.setCell ⟨w.heap.size + 1 + 1, i, none⟩ (.int .i64 z) = W1 := ⟨_, rfl⟩
  rw [hW1] at I1 m1 k1 |-
  have d1 : Below w.heap.size W0 W1 := m1.below hbs (fun k hk => by omega)
  clear hW1 q3 q5 qi fz
  have s0 : W1.cell? ⟨w.heap.size, 0, none⟩ = some (Value.nilFunc) := I1.st.cell 0
  have L1 : qar W1 ⟨P, 0, none⟩ (cwA c) := (HP.out.keep m1 (by omega)).lies
  have HI1 := xaa I1
  have HM1 := xaa m1
  clear I1 m1
  have q6 := HI1.out.last.cell
  have f6 := (show Blk W1 (w.heap.size + 1 + 1 + 1 + 1) 3 #[.int .i64 z] from HI1.out.last).frozen 0
  gi_wp2_with fail
  refine ⟨fun f hf => (by cases hf), ?_⟩
  gi_wp2_with (refine wpListIn_skp (o := ⟨none, .store _ _ _, _, _, _, _⟩) (fun _ => trivial) (fun c hc => by cases hc) rfl rfl (W1.setCell ⟨w.heap.size + 1 + 1 + 1 + 1, 0, none⟩ (.int .i64 (i : Int))) (by go_simp) ?_; refine Mk.out ?_)
  constructor
  have I2 := HI1.out.set2 (i : Int)
  have m2 : Mod (fun k => k = w.heap.size + 1 + 1 + 1 + 1) W1 (W1.setCell ⟨w.heap.size + 1 + 1 + 1 + 1, 0, none⟩ (.int .i64 (i : Int))) := Mod.setCell (S := fun k => k = w.heap.size + 1 + 1 + 1 + 1) (Mod.refl _ _) (.inl rfl) _
  have k2 : KeepsOthers W1 (W1.setCell ⟨w.heap.size + 1 + 1 + 1 + 1, 0, none⟩ (.int .i64 (i : Int))) := KeepsOthers.setCell _ _ _
  obtain ⟨W2, hW2⟩ : ∃ W2, W1.setCell ⟨w.heap.size + 1 + 1 + 1 + 1, 0, none⟩ (.int .i64 (i : Int)) = W2 := ⟨_, rfl⟩
  rw [hW2] at I2 m2 k2 |-
  clear hW2 q6 f6
  gi_wp2_with fail
  exact ⟨(k1.trans k2).from _, d1.trans (m2.below (xau hbs d1.size) fun k hk => by omega), by dsimp only; rw [HS.out]; exact I2⟩
 case done =>
  rintro D xs W hD hxs hI hK
  gi_wp2
  refine ⟨by simp, .inl ⟨_, _, rfl, run_takeDeferred hK, ?_⟩⟩
  have hfr := belowK_b (w := w) (xat) W D _ (.deferred none) (by omega) hK rfl rfl
  have hI2 := hI.own (grownBy_putObj' W D (.deferred none)) (fun r e => by cases e; exact ⟨by omega, _, hK, rfl⟩)
  have hsz2 := hI2.sz
  refine ⟨_, results_tmp rfl _ _ _, _, _, rfl, ⟨by omega, by omega, .slice A m cap, w.heap.size + 1 + 1, m, (walkZ none1 l us).1, ?_, by omega, hI2.ls.cell, HR.out.below hI2.bel, fun i hi => ⟨?_, HF.out i (by rw [<- HM.out]; exact hi)⟩⟩, hI2.bel⟩
  ·rw [HM.out]; exact hI2.fd.cell
  ·rw [HM.out] at hi
   have := (hI2.row.cell i).trans (qca hi)
   rw [hxs] at this
   exact this
 case stop =>
  rintro D c pre W _ _ h _
  exact h.elim
theorem qg4 (vg vt : Value) (l : List Cw) (v : Value) (gf : Nat) (lb : Array Value) (us : List Nat) (f : Nat -> Cw) (w : World) (hR : RwW w v l) (hlen : l.length <= 1048576)
 (heg : ∀ args w, (callFunc gf args).run Tryz.prog w = .ok (.enter gf args) w)
 (hseq : ∀ n W, Below w.heap.size w W -> SeqStopsK Fence.wide n Tryz.prog gf lb (qxt (l := l)) (Below w.heap.size) (fun xs => xs.map (fun x => x.1.1) = us) (fun _ => True) l.length W)
 (hf : ∀ i, i < l.length -> Pts l ((walkZ whtW l us).1 i) (f i)) :
 Calls Tryz.prog 117 #[.agg #[.func (.func 66) #[] #[], vg, vt], v, .func (.func gf) #[] lb] w fun e w' => ∃ gf gl, e = .returned (.func (.func 140) #[] #[.pointer (some ⟨gf, 0, none⟩), .pointer (some ⟨gl, 0, none⟩)]) /\ NearAt w' gf gl l f /\ Below w.heap.size w w' := by
 have HR := xaa hR
 have HSEQ := xaa hseq
 have HF := xaa hf
 have HEG := xaa heg
 obtain ⟨A, cap, rfl⟩ := hR.form
 obtain ⟨m, hm⟩ : ∃ m, l.length = m := ⟨_, rfl⟩
 have HM := xaa hm
 have hmk := qhi m (by omega)
 have hnf : ∀ w, (binOp BinOp.eql 107 (.func (.func 66) #[] #[]) Value.nilFunc).run Tryz.prog w = .ok (.bool false) w := fun _ => by kernel_rfl
 rw [hm] at hlen HR HF |-
 clear hR hseq hf hm heg
 refine (callsIn_wide (n := 5)).1 ?_
 refine callsIn_of_wp_marks Tryz.func117 rfl trivial ?_ rfl
 simp only [Tryz.ntmps117, List.size_toArray, List.length_cons, List.length_nil, Nat.reduceAdd, Nat.reduceSub, Array.replicate_succ, Array.replicate_zero, List.push_toArray, List.append_toArray, List.nil_append, List.cons_append]
 gi_wp2_with fail
 have P0 : Pass w #[.func (.func 66) #[] #[], vg, vt] (.slice A m cap) m ((fun _ => 0), -1) (((((w.alloc (.cells #[.func (.func 66) #[] #[], vg, vt] 111)).alloc (.cells #[.slice A m cap] 104)).alloc (.cells (rowZ m fun _ => 0) 3)).alloc (.cells #[.slice (some ⟨w.heap.size + 1 + 1, 0, none⟩) m m] 37)).alloc (.cells #[.int .i64 (-1)] 3)) := by
  have e0 := Blk.new w 111 #[.func (.func 66) #[] #[], vg, vt]
  have e1 := Boxed.new (w.alloc (.cells #[.func (.func 66) #[] #[], vg, vt] 111)) 104 (.slice A m cap)
  have e2 := Blk.new ((w.alloc (.cells #[.func (.func 66) #[] #[], vg, vt] 111)).alloc (.cells #[.slice A m cap] 104)) 3 (rowZ m fun _ => 0)
  have e3 := Boxed.new (((w.alloc (.cells #[.func (.func 66) #[] #[], vg, vt] 111)).alloc (.cells #[.slice A m cap] 104)).alloc (.cells (rowZ m fun _ => 0) 3)) 37 (.slice (some ⟨w.heap.size + 1 + 1, 0, none⟩) m m)
  have e4 := Boxed.new ((((w.alloc (.cells #[.func (.func 66) #[] #[], vg, vt] 111)).alloc (.cells #[.slice A m cap] 104)).alloc (.cells (rowZ m fun _ => 0) 3)).alloc (.cells #[.slice (some ⟨w.heap.size + 1 + 1, 0, none⟩) m m] 37)) 3 (.int .i64 (-1))
  simp only [World.size_alloc] at e1 e2 e3 e4
  exact ⟨(((e0.alloc _).alloc _).alloc _).alloc _, ((e1.alloc _).alloc _).alloc _, (e2.alloc _).alloc _, e3.alloc _, e4, (((((Below.refl _ w).alloc (xat) _).alloc (by simp) _).alloc (by simp; omega) _).alloc (by simp; omega) _).alloc (by simp; omega) _, by simp⟩
 obtain ⟨W5, hW5⟩ : ∃ W5, (((((w.alloc (.cells #[.func (.func 66) #[] #[], vg, vt] 111)).alloc (.cells #[.slice A m cap] 104)).alloc (.cells (rowZ m fun _ => 0) 3)).alloc (.cells #[.slice (some ⟨w.heap.size + 1 + 1, 0, none⟩) m m] 37)).alloc (.cells #[.int .i64 (-1)] 3)) = W5 := ⟨_, rfl⟩
 have hsz : W5.heap.size = w.heap.size + 5 := by rw [<- hW5]; simp
 rw [hW5] at P0 |-
 clear hW5 hmk
 refine wpIn_rangeFunc_ownH rfl (by omega) (gf := gf) (lb := lb) rfl trivial HEG.out
  (HSEQ.out _ W5 P0.bel) (fun h k => belowK_t h k) (belowK_b (by omega)) (xas) (fun _ => rfl)
  (fun pre W => Pass w #[.func (.func 66) #[] #[], vg, vt] (.slice A m cap) m (walkZ whtW l (pre.map (fun (x : NIW l) => x.1.1))) W)
  (fun _ _ _ => False)
  (fun s X Y row hs hg hr => hs.own hg (fun r e => ⟨by have := (hr r e).1; omega, (hr r e).2⟩))
  (fun _ _ _ _ _ hs _ _ => hs)
  P0
  (fun x a' W => ∃ P, a' = { tmps := #[.agg #[.func (.func 66) #[] #[], vg, vt], .slice A m cap, .func (.func gf) #[] lb, .pointer (some ⟨w.heap.size, 0, none⟩), .pointer (some ⟨w.heap.size + 1, 0, none⟩), undef, .nilFunc, .pointer (some ⟨w.heap.size + 1 + 1 + 1, 0, none⟩), .pointer (some ⟨w.heap.size + 1 + 1 + 1 + 1, 0, none⟩), .int .i64 (x.1.1 : Int), .pointer (some ⟨P, 0, none⟩), .slice A m cap, .int .i64 (m : Int), .slice (some ⟨w.heap.size + 1 + 1, 0, none⟩) m m, .func (.func gf) #[] lb, .int .i64 (x.1.1 : Int), .agg (cwA x.1.2), undef, undef, undef, undef, undef, undef, undef, undef, undef, undef, undef, undef, undef, undef, undef, undef], defers := [] } /\ Blk W P 116 (cwA x.1.2) /\ w.heap.size + 5 <= P)
  (fun x a' s X Y row hs hg hr => by
   obtain ⟨P, h1, h2, h3⟩ := hs
   exact ⟨P, h1, h2.own_ hg (fun r e => (hr r e).2), h3⟩)
  ?assign ?body ?done ?stop
 case assign =>
  rintro L pre x W K hI hK
  simp only [qxt]
  gi_wp2_with (refine nwWIn (fun _ => trivial) rfl rfl 10 rfl rfl (.tmp 16) rfl rfl x.1.2 (fun _ => rfl) (fun _ => rfl) ?_; intro w5 b5 k5 B5)
  exact hK _ _ (k5.from _) (b5.mono hI.bel.size) (hI.below b5) ⟨_, rfl, B5, hI.sz⟩
 case body =>
  rintro L pre ⟨⟨i, c⟩, hx⟩ a' W0 hL hrec hI ⟨P, rfl, hP, hPn⟩ _
  have hil : i < l.length := (xah hx).1
  have hi : i < m := by rw [<- HM.out]; exact hil
  obtain ⟨s, hs⟩ : ∃ s, walkZ whtW l (pre.map (fun (x : NIW l) => x.1.1)) = s := ⟨_, rfl⟩
  obtain ⟨F, z⟩ := s
  have HS : Hid (walkZ whtW l ((pre ++ [(⟨(i, c), hx⟩ : NIW l)]).map (fun (x : NIW l) => x.1.1)) = (qph F i z, if whtW c then z else (i : Int))) := xaa (by
   rw [List.map_append, List.map_cons, List.map_nil, qda, hs]
   simp only [xal, hx, Option.getD_some])
  rw [hs] at hI
  have q3 := hI.fd.cell
  have q5 := hI.last.cell
  have qi := (hI.row.cell i).trans (qca hi)
  have fz := hI.row.frozen i
  have HI := xaa hI
  have HP := xaa hP
  have hiz : (i : Int) < m := by omega
  have hbs := hI.bel.size
  have hsz0 := hI.sz
  dsimp only
  clear hI hs hP hrec hil
  gi_wp2_with (refine wpListIn_skp (o := ⟨none, .store _ _ _, _, _, _, _⟩) (fun _ => trivial) (fun c hc => by cases hc) rfl rfl (W0.setCell ⟨w.heap.size + 1 + 1, i, none⟩ (.int .i64 z)) (by go_simp) ?_; refine Mk.out ?_)
  constructor
  have I1 := HI.out.set1 i
  have m1 : Mod (fun k => k = w.heap.size + 1 + 1) W0 (W0.setCell ⟨w.heap.size + 1 + 1, i, none⟩ (.int .i64 z)) := Mod.setCell (S := fun k => k = w.heap.size + 1 + 1) (Mod.refl _ _) (.inl rfl) _
  have k1 : KeepsOthers W0 (W0.setCell ⟨w.heap.size + 1 + 1, i, none⟩ (.int .i64 z)) := KeepsOthers.setCell _ _ _
  obtain ⟨W1, hW1⟩ : ∃ W1, W0.setCell ⟨w.heap.size + 1 + 1, i, none⟩ (.int .i64 z) = W1 := ⟨_, rfl⟩
  rw [hW1] at I1 m1 k1 |-
  have d1 : Below w.heap.size W0 W1 := m1.below hbs (fun k hk => by omega)
  clear hW1 q3 q5 qi fz
  have s0 : W1.cell? ⟨w.heap.size, 0, none⟩ = some (.func (.func 66) #[] #[]) := I1.st.cell 0
  have L1 : qar W1 ⟨P, 0, none⟩ (cwA c) := (HP.out.keep m1 (by omega)).lies
  have HI1 := xaa I1
  have HM1 := xaa m1
  clear I1 m1
  obtain ⟨b, hb⟩ : ∃ b, whtW c = b := ⟨_, rfl⟩
  have C : Hid (∀ w, Calls Tryz.prog 66 #[.agg (cwA c)] w fun e w' => e = .returned (.bool b) /\ Below w.heap.size w w') := xaa (fun w => by have := qlu c w; rw [hb] at this; exact this)
  have HS2 := HS.out
  rw [hb] at HS2
  have HS := xaa HS2
  clear hb HS2
  gi_wp2_with (refine qzv (fun _ => trivial) (by kernel_rfl) (.tmp 10) rfl _ rfl c L1 ?_)
  refine ⟨trivial, (CallsIn.inRound _ (callsIn_wide.2 (C.out _))).mono ?_⟩
  rintro e w2 ⟨rfl, b2⟩
  have I2 := HI1.out.below b2
  have k2' := k1.trans (KeepsOthers.below_none b2)
  have d2 := d1.trans (b2.mono (xau hbs d1.size))
  have q6 := I2.last.cell
  have f6 := (show Blk w2 (w.heap.size + 1 + 1 + 1 + 1) 3 #[.int .i64 z] from I2.last).frozen 0
  have HI2 := xaa I2
  clear L1 s0
  cases b
  ·gi_wp2_with (refine wpListIn_skp (o := ⟨none, .store _ _ _, _, _, _, _⟩) (fun _ => trivial) (fun c hc => by cases hc) rfl rfl (w2.setCell ⟨w.heap.size + 1 + 1 + 1 + 1, 0, none⟩ (.int .i64 (i : Int))) (by go_simp) ?_; refine Mk.out ?_)
   constructor
   have I2 := HI2.out.set2 (i : Int)
   have m2 : Mod (fun k => k = w.heap.size + 1 + 1 + 1 + 1) w2 (w2.setCell ⟨w.heap.size + 1 + 1 + 1 + 1, 0, none⟩ (.int .i64 (i : Int))) := Mod.setCell (S := fun k => k = w.heap.size + 1 + 1 + 1 + 1) (Mod.refl _ _) (.inl rfl) _
   have k2 : KeepsOthers w2 (w2.setCell ⟨w.heap.size + 1 + 1 + 1 + 1, 0, none⟩ (.int .i64 (i : Int))) := KeepsOthers.setCell _ _ _
   obtain ⟨W2, hW2⟩ : ∃ W2, w2.setCell ⟨w.heap.size + 1 + 1 + 1 + 1, 0, none⟩ (.int .i64 (i : Int)) = W2 := ⟨_, rfl⟩
   rw [hW2] at I2 m2 k2 |-
   clear hW2 q6 f6
   gi_wp2_with fail
   exact ⟨(k2'.trans k2).from _, d2.trans (m2.below (xau hbs d2.size) fun k hk => by omega), by dsimp only; rw [HS.out]; exact I2⟩
  ·gi_wp2_with fail
   exact ⟨k2'.from _, d2, by dsimp only; rw [HS.out]; exact HI2.out⟩
 case done =>
  rintro D xs W hD hxs hI hK
  gi_wp2
  refine ⟨by simp, .inl ⟨_, _, rfl, run_takeDeferred hK, ?_⟩⟩
  have hfr := belowK_b (w := w) (xat) W D _ (.deferred none) (by omega) hK rfl rfl
  have hI2 := hI.own (grownBy_putObj' W D (.deferred none)) (fun r e => by cases e; exact ⟨by omega, _, hK, rfl⟩)
  have hsz2 := hI2.sz
  refine ⟨_, results_tmp rfl _ _ _, _, _, rfl, ⟨by omega, by omega, .slice A m cap, w.heap.size + 1 + 1, m, (walkZ whtW l us).1, ?_, by omega, hI2.ls.cell, HR.out.below hI2.bel, fun i hi => ⟨?_, HF.out i (by rw [<- HM.out]; exact hi)⟩⟩, hI2.bel⟩
  ·rw [HM.out]; exact hI2.fd.cell
  ·rw [HM.out] at hi
   have := (hI2.row.cell i).trans (qca hi)
   rw [hxs] at this
   exact this
 case stop =>
  rintro D c pre W _ _ h _
  exact h.elim
end Wl
end Go.Proofs.YtmceblkjbpbcoaaGreatDoor
