/- Contracts of slices.All and slices.Backward at white's characters (functions that are ranged over). Conditions: the characters lie where the slice says. -/
import Derived.Test.YtejcfhfmdijimaaDoorWhT
import Derived.Test.YtejcfhfmdijimaaDoorArRegIn
import Derived.Test.YtejcfhfmdijimaaDoorOpIn
namespace Go.Proofs.YtejcfhfmdijimaaDoor
open Go.ChangeShapes Go.WideShapes Go.ChangeAt Go.RowKit Go.Shelf
open Wh

attribute [local go_sem] Oper.semAt_some

section
variable {F : Fence} {n : Nat} {ops : Array Oper} {Q : Exit → Act → World → Prop} {a : Act} {w : World} {rest : List Oper} {o o1 o2 : Oper}
theorem ldWIn (hF : ∀ f, F.fn f) (hg : o.guard = none) (x : Operand) (ho : o.op = .load 57 x) (p : Addr) (hx : a.eval x = .pointer (some p)) (s : Cw) (hL : Lies w p (cwA s))
    (h : wpListIn F n Tryd.prog ops Q rest (a.put o.dst (.agg (cwA s))) w) : wpListIn F n Tryd.prog ops Q (o :: rest) a w :=
  wpListIn_val hF (fun c hc => by rw [ho] at hc; cases hc) hg _ rfl _ _ (rdW x ho p hx s hL) h
theorem alWIn (hF : ∀ f, F.fn f) (hg : o.guard = none) (ho : o.op = .alloc 57)
    (h : ∀ w', Below w.heap.size w w' → Blk w' w.heap.size 57 (cwA zCw) → wpListIn F n Tryd.prog ops Q rest (a.put o.dst (.pointer (some ⟨w.heap.size, 0, none⟩))) w') : wpListIn F n Tryd.prog ops Q (o :: rest) a w :=
  wpListIn_val hF (fun c hc => by rw [ho] at hc; cases hc) hg _ rfl _ _ (run_op_new 57 ho _ alW) (h _ (below_alloc w _) (Blk.new w _ _))
theorem stWIn (hF : ∀ f, F.fn f) (hg : o.guard = none) (x y : Operand) (ho : o.op = .store 57 x y) (hd : o.dst = none) (g : Nat) (hx : a.eval x = .pointer (some ⟨g, 0, none⟩)) (s : Cw) (hy : a.eval y = .agg (cwA s)) {t : TypeId} (old : Cw) (hB : Blk w g t (cwA old))
    (h : ∀ w', Mod (fun k => k = g) w w' → Blk w' g t (cwA s) → wpListIn F n Tryd.prog ops Q rest a w') : wpListIn F n Tryd.prog ops Q (o :: rest) a w := by
  refine wpListIn_skp hF (fun c hc => by rw [ho] at hc; cases hc) hg hd (w.setRow g (spl (cwA old) 0 (cwA s).toList)) ?_ ?_
  · exact run_op_store 57 x y ho g 0 hx (cwA s) hy t (cwA old) hB (iW s) (by simp [cwA]) (oneW s)
  · refine h _ (mod_setRow _ _ _) ?_
    have e : spl (cwA old) 0 (cwA s).toList = cwA s := by simp [spl, cwA]
    rw [e]
    exact setRow_heap _ _ _ _ _ _ hB
end
/-- a character with its number -/
abbrev NIW (l : List Cw) := { p : Nat × Cw // l[p.1]? = some p.2 }
def encW {l : List Cw} (x : NIW l) : Array Value := #[.int .i64 (x.1.1 : Int), .agg (cwA x.1.2)]
def rngW (n : Nat) : List Nat := (List.range n).reverse
theorem rngW_succ (n : Nat) : rngW (n + 1) = n :: rngW n := by
  unfold rngW
  rw [List.range_succ, List.reverse_append]
  rfl
theorem atW_of {l : List Cw} {i : Nat} (h : i < l.length) : ∃ x, l[i]? = some x := ⟨_, List.getElem?_eq_getElem h⟩
theorem grown_of {W W' : World} (b : Below W.heap.size W W') : W.grownBy W' none := ⟨b.os, b.tape, b.output, b.size, fun k hk _ => b.block k hk⟩

set_option maxHeartbeats 1000000 in
theorem wback_mk (A : Option Addr) (k c : Nat) (w : World) :
    Calls Tryd.prog 66 #[.slice A k c] w fun e w' => e = .returned (.func (.func 72) #[] #[.pointer (some ⟨w.heap.size, 0, none⟩)]) ∧ Boxed w' w.heap.size 45 (.slice A k c) ∧ Below w.heap.size w w' := by
  go_enter Tryd.func66, Tryd.ntmps66
  go_wp2
  go_ret
  exact ⟨rfl, Boxed.new _ _ _, below_alloc _ _⟩
set_option maxHeartbeats 1000000 in
theorem wall_mk (A : Option Addr) (k c : Nat) (w : World) :
    Calls Tryd.prog 65 #[.slice A k c] w fun e w' => e = .returned (.func (.func 71) #[] #[.pointer (some ⟨w.heap.size, 0, none⟩)]) ∧ Boxed w' w.heap.size 45 (.slice A k c) ∧ Below w.heap.size w w' := by
  go_enter Tryd.func65, Tryd.ntmps65
  go_wp2
  go_ret
  exact ⟨rfl, Boxed.new _ _ _, below_alloc _ _⟩

set_option maxRecDepth 100000 in
set_option maxHeartbeats 4000000 in
theorem wback_stops (n Bs : Nat) (l : List Cw) (v : Value) (w0 w : World) (hR : RwW w0 v l) (hlen : l.length ≤ 1048576) (hw : Below w0.heap.size w0 w) (hB : Bs < w0.heap.size) (hBs : w0.cell? ⟨Bs, 0, none⟩ = some v) :
    SeqStopsK Fence.wide n Tryd.prog 72 #[.pointer (some ⟨Bs, 0, none⟩)] (encW (l := l)) (Below w0.heap.size) (fun xs => xs.map (fun x => x.1.1) = rngW l.length) (fun _ => True) l.length w := by
  intro L J Jx W hW hJ _ hY h0
  have hb0 : Below w0.heap.size w0 W := hw.trans (hW.mono hw.size)
  have HBW : Hid (∀ W', Below w0.heap.size w0 W' → W'.cell? ⟨Bs, 0, none⟩ = some v) := Lib.hid fun W' h => (h.cell (p := ⟨Bs, 0, none⟩) hB).trans hBs
  have HY := Lib.hid hY
  have HR := Lib.hid hR
  obtain ⟨A, cap, rfl⟩ := hR.form
  obtain ⟨m, hm⟩ : ∃ m, l.length = m := ⟨_, rfl⟩
  have HM := Lib.hid hm
  rw [hm] at hlen HBW HR ⊢
  clear hY hR hm hW hB hBs hw hJ
  have hBW := HBW.out W hb0
  refine callsIn_of_wp Tryd.func72 rfl trivial ?_ rfl
  simp only [Tryd.ntmps72, List.size_toArray, List.length_cons, List.length_nil, Nat.reduceAdd, Nat.reduceSub, Array.replicate_succ, Array.replicate_zero, List.push_toArray, List.append_toArray, List.nil_append, List.cons_append]
  gi_wp2
  gi_loopw [3] (fun s3 wr => ∃ (k : Nat) (pre : List (NIW l)), s3 = .int .i64 ((k : Int) - 1) ∧ k ≤ m ∧ Hid (rngW m = pre.map (fun x => x.1.1) ++ rngW k) ∧ J pre wr ∧ Below w0.heap.size w0 wr)
    (fun s3 _ => (intOf s3 + 1).toNat)
  case atStart => exact ⟨m, [], by go_num, Nat.le_refl _, Lib.hid rfl, h0, hb0⟩
  case round =>
    obtain ⟨k, pre, rfl, hk, HI, hJs, hbr⟩ := hrel
    clear h0 hb0 hBW
    by_cases h1 : 0 < k
    · obtain ⟨j, rfl⟩ : ∃ j, k = j + 1 := ⟨k - 1, by omega⟩
      have hjm : j < m := by omega
      have hjl : j < l.length := by rw [HM.out]; exact hjm
      obtain ⟨x, hx⟩ := atW_of hjl
      have hi := HI.out
      rw [rngW_succ] at hi
      have hpl : pre.length < l.length := by
        have := congrArg List.length hi
        simp [rngW] at this
        rw [HM.out]
        omega
      obtain ⟨fn, tmps, assign, body, hy, hRd⟩ := HY.out pre ⟨(j, x), hx⟩ wr hJs hpl
      have HI' : Hid (rngW m = (pre ++ [(⟨(j, x), hx⟩ : NIW l)]).map (fun (x : NIW l) => x.1.1) ++ rngW j) := Lib.hid (by rw [hi]; simp)
      dsimp only [encW] at hy
      obtain ⟨ad, cap2, o, hv, _, ha, hLi⟩ := HR.out.get hbr hx
      rw [HM.out] at hv
      injection hv with hv1 hv2 hv3
      subst hv1 hv3
      have hz : ((j + 1 : Nat) : Int) - 1 = (j : Int) := by omega
      have hjz : (j : Int) < m := by omega
      rw [hz]
      have hBr := HBW.out wr hbr
      have HBR := Lib.hid hbr
      clear HI hi HY hv2 hz hbr
      gi_wp2_with (refine ldWIn (fun _ => trivial) rfl (.tmp 15) rfl _ rfl x (ha ▸ hLi) ?_)
      refine ⟨fun h => (by cases h), hRd.mono ?_⟩
      rintro e w4 (⟨rfl, hJ4, hk4⟩ | ⟨rfl, hx4⟩)
      · have hb4 := HBR.out.trans hk4
        gi_wp2
        go_roundw
        case rel => exact ⟨j, _, by go_num, by omega, HI', hJ4, hb4⟩
        case measure => simp [intOf]
      · gi_wp2
        refine bodyPost_ret (results_none rfl _ _ _) rfl ?_
        exact ⟨⟨_, rfl⟩, .inr ⟨_, trivial, hx4⟩⟩
    · obtain rfl : k = 0 := by omega
      have FIN : Hid (rngW m = pre.map (fun x => x.1.1)) := Lib.hid (by rw [HI.out]; simp [rngW])
      clear HY HI
      gi_wp2
      go_end0
      exact ⟨⟨_, rfl⟩, .inl ⟨_, FIN.out.symm, hJs⟩⟩

set_option maxRecDepth 100000 in
set_option maxHeartbeats 4000000 in
theorem wall_stops (n Bs : Nat) (l : List Cw) (v : Value) (w0 w : World) (hR : RwW w0 v l) (hlen : l.length ≤ 1048576) (hw : Below w0.heap.size w0 w) (hB : Bs < w0.heap.size) (hBs : w0.cell? ⟨Bs, 0, none⟩ = some v) :
    SeqStopsK Fence.wide n Tryd.prog 71 #[.pointer (some ⟨Bs, 0, none⟩)] (encW (l := l)) (Below w0.heap.size) (fun xs => xs.map (fun x => x.1.1) = List.range l.length) (fun _ => True) l.length w := by
  intro L J Jx W hW hJ _ hY h0
  have hb0 : Below w0.heap.size w0 W := hw.trans (hW.mono hw.size)
  have hBW : W.cell? ⟨Bs, 0, none⟩ = some v := (hb0.cell (p := ⟨Bs, 0, none⟩) hB).trans hBs
  have HY := Lib.hid hY
  have HR := Lib.hid hR
  have HJ : Hid (∀ pre (X Y : World), J pre X → Below X.heap.size X Y → J pre Y) := Lib.hid fun pre X Y h b => hJ pre X Y none h (grown_of b) (fun r e => by cases e)
  obtain ⟨A, cap, rfl⟩ := hR.form
  obtain ⟨m, hm⟩ : ∃ m, l.length = m := ⟨_, rfl⟩
  have HM := Lib.hid hm
  rw [hm] at hlen hBW HR ⊢
  clear hY hR hm hW hB hBs hw hJ
  refine callsIn_of_wp Tryd.func71 rfl trivial ?_ rfl
  simp only [Tryd.ntmps71, List.size_toArray, List.length_cons, List.length_nil, Nat.reduceAdd, Nat.reduceSub, Array.replicate_succ, Array.replicate_zero, List.push_toArray, List.append_toArray, List.nil_append, List.cons_append]
  gi_wp2
  gi_loopw [7] (fun s7 wr => ∃ (k : Nat) (pre : List (NIW l)), s7 = .int .i64 (k : Int) ∧ k ≤ m ∧ Hid (pre.map (fun x => x.1.1) = List.range k) ∧ J pre wr ∧ Below w0.heap.size w0 wr)
    (fun s7 _ => m - (intOf s7).toNat)
  case atStart => exact ⟨0, [], by go_num, Nat.zero_le _, Lib.hid rfl, h0, hb0⟩
  case round =>
    obtain ⟨k, pre, rfl, hk, HI, hJs, hbr⟩ := hrel
    clear h0 hb0 hBW
    by_cases h1 : k < m
    · have hjl : k < l.length := by rw [HM.out]; exact h1
      obtain ⟨x, hx⟩ := atW_of hjl
      have hi := HI.out
      have hpl : pre.length < l.length := by
        have := congrArg List.length hi
        simp at this
        omega
      have HI' : Hid ((pre ++ [(⟨(k, x), hx⟩ : NIW l)]).map (fun (x : NIW l) => x.1.1) = List.range (k + 1)) := Lib.hid (by rw [List.map_append, hi, List.range_succ]; rfl)
      obtain ⟨ad, cap2, o, hv, _, ha, hLi⟩ := HR.out.get hbr hx
      rw [HM.out] at hv
      injection hv with hv1 hv2 hv3
      subst hv1 hv3
      have hjz : (k : Int) < m := by omega
      have HBR := Lib.hid hbr
      have HJS := Lib.hid hJs
      clear HI hi hv2 hbr hJs
      gi_wp2_with (first
        | (refine ldWIn (fun _ => trivial) rfl (.tmp 10) rfl _ rfl x (ha ▸ hLi) ?_)
        | (refine alWIn (fun _ => trivial) rfl rfl ?_; intro w4 b4 B4)
        | (refine stWIn (fun _ => trivial) rfl (.tmp 4) (.tmp 11) rfl rfl _ rfl x rfl _ B4 ?_; intro w5 m5 B5; refine Mk.out ?_))
      constructor
      have b5 : Below wr.heap.size wr w5 := b4.trans (m5.below b4.size (fun k hk => by omega))
      have hJ5 := HJ.out pre wr w5 HJS.out b5
      have L5 := B5.lies
      obtain ⟨fn, tmps, assign, body, hy, hRd⟩ := HY.out pre ⟨(k, x), hx⟩ w5 hJ5 hpl
      dsimp only [encW] at hy
      have hb5 := HBR.out.trans (b5.mono HBR.out.size)
      have HB5 := Lib.hid hb5
      clear b4 B4 m5 B5 b5 hb5 HY
      gi_wp2_with (refine ldWIn (fun _ => trivial) rfl (.tmp 4) rfl _ rfl x L5 ?_)
      refine ⟨fun h => (by cases h), hRd.mono ?_⟩
      rintro e w6 (⟨rfl, hJ4, hk4⟩ | ⟨rfl, hx4⟩)
      · have hb4 := HB5.out.trans hk4
        gi_wp2
        go_roundw
        case rel => exact ⟨k + 1, _, by go_num, by omega, HI', hJ4, hb4⟩
        case measure => simp [intOf]; omega
      · gi_wp2
        refine bodyPost_ret (results_none rfl _ _ _) rfl ?_
        exact ⟨⟨_, rfl⟩, .inr ⟨_, trivial, hx4⟩⟩
    · obtain rfl : k = m := by omega
      clear HY
      gi_wp2
      go_end0
      exact ⟨⟨_, rfl⟩, .inl ⟨_, HI.out, hJs⟩⟩
end Go.Proofs.YtejcfhfmdijimaaDoor
