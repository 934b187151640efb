/- Contract of pair's places: the function that is ranged over visits the places between two characters, each with what the rules ask of it. Conditions: the slice reads as the list, at most 1048576 long; what the loop knows does not hang on memory that the function makes. -/
import Derived.Test.YtnoenccpbbkdeaaGM
import Derived.Test.YtnoenccpbbkdeaaGL
namespace Go.Proofs.Ytnoenccpbbkdeaa
open Go.ChangeShapes Go.WideShapes Go.ChangeAt Go.RowKit Go.Shelf

attribute [local go_sem] Oper.semAt_some

section
variable {F : Fence} {n : Nat} {ops : Array Oper} {Q : Exit → Act → World → Prop} {a : Act} {w : World} {rest : List Oper} {o o1 o2 : Oper}
theorem wpListIn_valIf {P : Program} {w' : World} (hF : ∀ f, F.fn f) (hd : ∀ c, o.op ≠ .defer c) (hw : Region.wanted o (yielded ops a.tmps) = true) (dst : Option Tmp) (hdst : o.dst = dst) (v : Value) (hrun : (execOp a.eval o).run P w = .ok (.value v) w')
    (h : wpListIn F n P ops Q rest (a.put dst v) w') : wpListIn F n P ops Q (o :: rest) a w := by
  subst hdst
  refine wpListIn_step fun K hK => ?_
  rw [if_pos hw]
  exact wpIn_val hF hd hrun (hK _ _ h)
theorem ldPIn (hF : ∀ f, F.fn f) (hg : o.guard = none) (x : Operand) (ho : o.op = .load 100 x) (p : Addr) (hx : a.eval x = .pointer (some p)) (s : Plc) (hL : Lies w p (plC s))
    (h : wpListIn F n Try.prog ops Q rest (a.put o.dst (.agg (plC s))) w) : wpListIn F n Try.prog ops Q (o :: rest) a w :=
  wpListIn_val hF (fun c hc => by rw [ho] at hc; cases hc) hg _ rfl _ _ (rdP x ho p hx s hL) h
theorem ldPInIf (hF : ∀ f, F.fn f) (hw : Region.wanted o (yielded ops a.tmps) = true) (x : Operand) (ho : o.op = .load 100 x) (p : Addr) (hx : a.eval x = .pointer (some p)) (s : Plc) (hL : Lies w p (plC s))
    (h : wpListIn F n Try.prog ops Q rest (a.put o.dst (.agg (plC s))) w) : wpListIn F n Try.prog ops Q (o :: rest) a w :=
  wpListIn_valIf hF (fun c hc => by rw [ho] at hc; cases hc) hw _ rfl _ (rdP x ho p hx s hL) h
theorem nwPIn (hF : ∀ f, F.fn f) (hg1 : o1.guard = none) (hg2 : o2.guard = none) (D : Tmp) (hd1 : o1.dst = some D) (ho1 : o1.op = .alloc 100) (y : Operand) (ho2 : o2.op = .store 100 (.tmp D) y) (hd2 : o2.dst = none)
    (s : Plc) (hx : ∀ v, (a.put (some D) v).eval (.tmp D) = v) (hy : ∀ v, (a.put (some D) v).eval y = .agg (plC s))
    (h : ∀ w', Below w.heap.size w w' → KeepsOthers w w' → Blk w' w.heap.size 100 (plC s) → wpListIn F n Try.prog ops Q rest (a.put (some D) (.pointer (some ⟨w.heap.size, 0, none⟩))) w') : wpListIn F n Try.prog ops Q (o1 :: o2 :: rest) a w :=
  wpListIn_newS hF hg1 hg2 100 D hd1 ho1 y ho2 hd2 _ alP (plC s) hx hy (iP s) rfl (oneP s) h
theorem stPIn (hF : ∀ f, F.fn f) (hg : o.guard = none) (x y : Operand) (ho : o.op = .store 100 x y) (hd : o.dst = none) (g : Nat) (hx : a.eval x = .pointer (some ⟨g, 0, none⟩)) (s : Plc) (hy : a.eval y = .agg (plC s)) {t : TypeId} (old : Plc) (hB : Blk w g t (plC old))
    (h : ∀ w', Mod (fun k => k = g) w w' → Blk w' g t (plC s) → wpListIn F n Try.prog ops Q rest a w') : wpListIn F n Try.prog ops Q (o :: rest) a w := by
  refine wpListIn_skp hF (fun c hc => by rw [ho] at hc; cases hc) hg hd (w.setRow g (spl (plC old) 0 (plC s).toList)) ?_ ?_
  · exact run_op_store 100 x y ho g 0 hx (plC s) hy t (plC old) hB (iP s) (by simp [plC]) (oneP s)
  · refine h _ (mod_setRow _ _ _) ?_
    have e : spl (plC old) 0 (plC s).toList = plC s := by simp [spl, plC]
    rw [e]
    exact setRow_heap _ _ _ _ _ _ hB
end

/-! ### the places one by one -/
def p0 : Plc := ⟨255, 255, 255, false⟩
/-- the place in front of the k-th character (from 1 on: behind the first k characters) -/
def pst (l : List Int) (k : Nat) : Plc := (l.take k).foldl nxP p0
theorem pst_succ {l : List Int} {k : Nat} {x : Int} (h : l[k]? = some x) : pst l (k + 1) = nxP (pst l k) x := by
  unfold pst
  rw [List.take_add_one, h, List.foldl_append]
  rfl
abbrev NI (l : List Int) := { i : Nat // 0 < i ∧ i < l.length }
def encP {l : List Int} (x : NI l) : Array Value := #[.int .i64 (x.1 : Int), .agg (plC (pst l (x.1 + 1)))]
/-- nothing from B on has changed -/
def Kq (B : Nat) (W W' : World) : Prop := W.heap.size ≤ W'.heap.size ∧ ∀ k, B ≤ k → k < W.heap.size → W'.heap[k]? = W.heap[k]?
theorem Blk.kq {B g : Nat} {W W' : World} {t : TypeId} {cs : Array Value} (h : Blk W g t cs) (k : Kq B W W') (hg : B ≤ g) : Blk W' g t cs := (k.2 g hg h.lt).trans h
theorem ints_snoc {k : Nat} {pre : List Nat} (h : pre = List.range' 1 (k - 1)) (hk : 0 < k) : pre ++ [k] = List.range' 1 k := by
  obtain ⟨j, rfl⟩ : ∃ j, k = j + 1 := ⟨k - 1, by omega⟩
  rw [h, List.range'_concat]
  simp [Nat.add_comm]

set_option maxHeartbeats 1000000 in
theorem pplaces_mk (A : Option Addr) (k c : Nat) (w : World) :
    Calls Try.prog 58 #[.slice A k c] w fun e w' => e = .returned (.func (.func 87) #[] #[.pointer (some ⟨w.heap.size, 0, none⟩)]) ∧ Boxed w' w.heap.size 29 (.slice A k c) ∧ Below w.heap.size w w' := by
  go_enter Try.func58, Try.ntmps58
  go_wp2
  go_ret
  exact ⟨rfl, Boxed.new _ _ _, below_alloc _ _⟩

set_option maxRecDepth 100000 in
set_option maxHeartbeats 8000000 in
theorem pplaces_in (n Bs lp : Nat) (l : List Int) (v : Value) (w0 : World) (I : List (NI l) → World → Prop) (hlen : l.length ≤ 1048576)
    (hI : ∀ pre X Y, I pre X → Mod (fun k => w0.heap.size ≤ k) X Y → I pre Y)
    (hS : ∀ pre X, I pre X → X.cell? ⟨Bs, 0, none⟩ = some v ∧ R8 X v l)
    (hY : ∀ (m : Nat) pre x W, I pre W → pre.length < l.length → YieldAt Fence.wide m Try.prog lp (encP x) W fun e W' => e = .returned (.bool true) ∧ I (pre ++ [x]) W' ∧ Kq w0.heap.size W W')
    (h0 : I [] w0) :
    CallsIn Fence.wide n Try.prog 87 (#[.func (.yield lp) #[] #[]] ++ #[.pointer (some ⟨Bs, 0, none⟩)]) w0 fun e W' => (∃ v, e = .returned v) ∧ ∃ xs : List (NI l), xs.map (fun x => x.1) = List.range' 1 (l.length - 1) ∧ I xs W' := by
  have HI := Lib.hid hI
  have HS := Lib.hid hS
  have HY := Lib.hid hY
  obtain ⟨A, cap, hv⟩ := (hS [] w0 h0).2.form
  obtain ⟨m, hm⟩ : ∃ m, l.length = m := ⟨_, rfl⟩
  have HM := Lib.hid hm
  rw [r8_len, hm] at hv
  subst hv
  rw [hm] at hlen
  clear hI hS hY hm
  refine callsIn_of_wp Try.func87 rfl trivial ?_ rfl
  simp only [Try.ntmps87, List.size_toArray, List.length_cons, List.length_nil, Nat.reduceAdd, Nat.reduceSub, Array.replicate_succ, Array.replicate_zero, List.push_toArray, List.append_toArray, List.nil_append, List.cons_append]
  gi_wp2_with (refine nwPIn (fun _ => trivial) rfl rfl 3 rfl rfl (.tmp 6) rfl rfl p0 (fun _ => rfl) (fun _ => rfl) ?_; intro w1 b1 k1 B1; refine Mk.out ?_)
  constructor
  have hI1 := HI.out [] w0 w1 h0 (Mod.of_below b1)
  have hBs := (HS.out [] w1 hI1).1
  have s1 := b1.size
  have hB1 := B1.lt
  clear h0 k1
  gi_wp2
  gi_loopw [9] (fun s9 wr => ∃ (k : Nat) (pre : List (NI l)), s9 = .int .i64 (k : Int) ∧ k ≤ m ∧ Hid (pre.map (fun x => x.1) = List.range' 1 (k - 1)) ∧ I pre wr ∧ Blk wr w0.heap.size 100 (plC (pst l k)))
    (fun s9 _ => m - (intOf s9).toNat)
  case atStart => exact ⟨0, [], by go_num, Nat.zero_le _, Lib.hid rfl, hI1, B1⟩
  case round =>
    obtain ⟨k, pre, rfl, hk, HP, hJ, hB⟩ := hrel
    clear hI1 B1 hBs b1 hB1 s1
    by_cases h1 : k < m
    · obtain ⟨x, hx⟩ : ∃ x, l[k]? = some x := ⟨_, List.getElem?_eq_getElem (by rw [HM.out]; exact h1)⟩
      obtain ⟨a, cap2, hv, _, _, hcell⟩ := (HS.out pre wr hJ).2.at_ (by rw [r8_len, HM.out]; omega)
      obtain rfl : A = some a := by injection hv
      have hcz := hcell k _ (r8_at hx)
      have hkz : (k : Int) < m := by omega
      have hst := pst_succ hx
      have HJ := Lib.hid hJ
      have HB := Lib.hid hB
      have L := hB.lies
      obtain ⟨ps, hps⟩ : ∃ p, pst l k = p := ⟨_, rfl⟩
      have HPS := Lib.hid hps
      rw [hps] at L
      have C : Hid (∀ w, Calls Try.prog 88 #[.agg (plC ps), .int .u8 x] w fun e w' => e = .returned (.agg (plC (pst l (k + 1)))) ∧ Below w.heap.size w w') := Lib.hid fun w => by rw [hst, hps]; exact pnext_any ps x w
      obtain ⟨pn, hpn⟩ : ∃ p, pst l (k + 1) = p := ⟨_, rfl⟩
      have HPN := Lib.hid hpn
      rw [hpn] at C
      clear hv hcell hx hst hJ hB hps hpn
      gi_wp2_with (refine ldPIn (o := ⟨some 14, _, _, _, _, _⟩) (fun _ => trivial) rfl (.tmp 3) rfl _ rfl ps L ?_)
      refine ⟨trivial, fun h => (by cases h), (callsIn_wide.2 (C.out _)).mono ?_⟩
      rintro e w2 ⟨rfl, b2⟩
      have B2 := HB.out.keep (S := fun _ => False) (Mod.of_below b2) id
      gi_wp2_with (refine stPIn (fun _ => trivial) rfl (.tmp 3) (.tmp 16) rfl rfl _ rfl pn rfl _ B2 ?_; intro w3 m3 B3; refine Mk.out ?_)
      constructor
      have hJ3 : I pre w3 := HI.out pre w2 w3 (HI.out pre wr w2 HJ.out (Mod.of_below b2)) (m3.mono fun i hi => .inl (by omega))
      have L3 := B3.lies
      clear B2 b2 C
      by_cases h0 : 0 < k
      · obtain ⟨pre2, hpre2⟩ : ∃ p, pre ++ [(⟨k, h0, by rw [HM.out]; exact h1⟩ : NI l)] = p := ⟨_, rfl⟩
        have hpl : pre.length < l.length := by
          have := congrArg List.length HP.out
          simp at this
          rw [HM.out]
          omega
        have HP2 : Hid (pre2.map (fun x => x.1) = List.range' 1 k) := Lib.hid (by rw [← hpre2, List.map_append]; exact ints_snoc HP.out h0)
        obtain ⟨fn, tmps, assign, body, hy, hRd⟩ := HY.out (n - 1) pre ⟨k, h0, by rw [HM.out]; exact h1⟩ w3 hJ3 hpl
        have hen : encP (⟨k, h0, by rw [HM.out]; exact h1⟩ : NI l) = #[.int .i64 (k : Int), .agg (plC pn)] := by unfold encP; rw [HPN.out]
        rw [hen] at hy
        rw [hpre2] at hRd
        clear hen hpre2 hJ3 hpl
        have h0z : (0 : Int) < (k : Int) := by omega
        have HB3 := Lib.hid B3
        clear B3
        gi_wp2_with (refine ldPInIf (o := ⟨some 22, _, _, _, _, _⟩) (fun _ => trivial) (by kernel_rfl) (.tmp 3) rfl _ rfl pn L3 ?_)
        refine ⟨fun h => (by cases h), hRd.mono ?_⟩
        rintro e w4 ⟨rfl, hJ4, hk4⟩
        have B4 := HB3.out.kq hk4 (Nat.le_refl _)
        rw [← HPN.out] at B4
        gi_wp2
        go_roundw
        case rel => exact ⟨k + 1, pre2, by go_num, by omega, HP2, hJ4, B4⟩
        case measure => simp [intOf]; omega
      · obtain rfl : k = 0 := by omega
        rw [← HPN.out] at B3
        gi_wp2
        refine ⟨fun f hf => (by cases hf), ?_⟩
        gi_wp2
        go_roundw
        case rel => exact ⟨1, pre, by go_num, by omega, HP, hJ3, B3⟩
        case measure => simp [intOf]; omega
    · obtain rfl : k = m := by omega
      clear HY
      gi_wp2
      go_end0
      exact ⟨⟨_, rfl⟩, pre, by have := HP.out; rwa [← HM.out] at this, hJ⟩
end Go.Proofs.Ytnoenccpbbkdeaa
