/- Contracts of layers below. -/
import Derived.Test.YtmceblkjbpbcoaaGreatDoorPBase
import Derived.Test.YtmceblkjbpbcoaaGreatDoorPCeMath
import Derived.Test.YtmceblkjbpbcoaaGreatDoorPUnitB
import Derived.Test.YtmceblkjbpbcoaaGreatDoorPY5
import Derived.Test.YtmceblkjbpbcoaaGreatDoorPPr10
import Derived.Test.YtmceblkjbpbcoaaGreatDoorPCh4
namespace Go.Proofs.YtmceblkjbpbcoaaGreatDoor
set_option maxRecDepth 100000
set_option maxHeartbeats 8000000
open Go.ChangeShapes Go.WideShapes Go.ChangeAt Go.RowKit
namespace Ce
open Go.Shelf
open Wh (Cr)
open Fo (Fnt W64 fnd atI qe9)
def rgFs (fs : List Fnt) : List (List Value) := fs.map fun F => F.cells.toList
structure Fs (w : World) (v : Value) (fs : List Fnt) : Prop where
 row : qa5 6 (fun _ => False) w v (rgFs fs)
 each : ∀ F ∈ fs, F.In w /\ F.Wf
theorem Fs.below {w w' : World} {v : Value} {fs : List Fnt} (h : Fs w v fs) (b : Below w.heap.size w w') : Fs w' v fs := ⟨h.row.below b, fun F hF => ⟨(h.each F hF).1.below b, (h.each F hF).2⟩⟩
theorem Fs.form {w : World} {v : Value} {fs : List Fnt} (h : Fs w v fs) : ∃ A c, v = .slice A fs.length c := by
 have := h.row.form
 unfold rgFs at this
 rwa [xao] at this
theorem Fs.get {w wx : World} {v : Value} {fs : List Fnt} (h : Fs w v fs) (b : Below w.heap.size w wx) {i : Nat} {F : Fnt} (hi : fs[i]? = some F) :
 ∃ a cap o, v = .slice (some a) fs.length cap /\ a.block < w.heap.size /\ a.add (i * 6) = ⟨a.block, o, none⟩ /\ qar wx ⟨a.block, o, none⟩ F.cells := by
 obtain ⟨a, cap, o, hv, hb, _, ha, hc⟩ := qa5.get h.row b (x := F.cells.toList) (by unfold rgFs; rw [xan, hi]; rfl) (by simp [Fnt.cells])
 unfold rgFs at hv
 rw [xao] at hv
 exact ⟨a, cap, o, hv, hb, ha, qdq rfl hc⟩
theorem uFn : Tryz.prog.underlying 64 = some (.struct (Tryz.prog.fieldsOf 64)) := by kernel_rfl
theorem iFn (F : Fnt) : (Tryz.prog.info? 64).map (·.size) = some F.cells.size := by kernel_rfl
theorem rdFn {a : Act} {w : World} {o : Oper} (x : Operand) (ho : o.op = .load 64 x) (p : Addr) (hx : a.eval x = .pointer (some p)) (F : Fnt) (hL : qar w p F.cells) : (execOp a.eval o).run Tryz.prog w = .ok (.value F.val) w := qat 64 x ho p hx F.cells _ hL uFn rfl (iFn F)
def Ai (w : World) (v : Value) (l : List Int) : Prop := Row (fun _ => False) w v (l.map (Value.int .i64))
theorem Ai.below {w w' : World} {v : Value} {l : List Int} (h : Ai w v l) (b : Below w.heap.size w w') : Ai w' v l := Row.below h b
theorem Ai.form {w : World} {v : Value} {l : List Int} (h : Ai w v l) : ∃ A c, v = .slice A l.length c := by
 have := Row.form h
 rwa [xao] at this
theorem bxM (A1 A2 A3 : Option Addr) (n1 n2 n3 c1 c2 c3 : Nat) (w : World) : (Instr.box 69 (.agg #[.slice A1 n1 c1, .slice A2 n2 c2, .slice A3 n3 c3])).run Tryz.prog w = .ok (.pointer (some ⟨w.heap.size, 0, none⟩)) (w.alloc (.cells #[.slice A1 n1 c1, .slice A2 n2 c2, .slice A3 n3 c3] 69)) := by kernel_rfl
theorem bxMV {ops : Array Oper} {Q : Exit -> Act -> World -> Prop} {a : Act} {w : World} {rest : List Oper} {o : Oper} (hg : o.guard = none) (x : Operand) (ho : o.op = .box 69 x) (A1 A2 A3 : Option Addr) (n1 n2 n3 c1 c2 c3 : Nat) (hx : a.eval x = .agg #[.slice A1 n1 c1, .slice A2 n2 c2, .slice A3 n3 c3])
 (h : ∀ w', Below w.heap.size w w' -> Blk w' w.heap.size 69 #[.slice A1 n1 c1, .slice A2 n2 c2, .slice A3 n3 c3] -> wpList Tryz.prog ops Q rest (a.put o.dst (.pointer (some ⟨w.heap.size, 0, none⟩))) w') : wpList Tryz.prog ops Q (o :: rest) a w :=
 qaq hg 69 x ho _ hx (bxM A1 A2 A3 n1 n2 n3 c1 c2 c3) h
structure Ms (w : World) (sv fv av : Value) (ss : List Sty) (fs : List Fnt) (at_ : List Int) : Prop where
 s : Ss w sv ss
 f : Fs w fv fs
 a : Ai w av at_
theorem Ms.below {w w' : World} {sv fv av : Value} {ss : List Sty} {fs : List Fnt} {at_ : List Int} (h : Ms w sv fv av ss fs at_) (b : Below w.heap.size w w') : Ms w' sv fv av ss fs at_ := ⟨h.s.below b, h.f.below b, h.a.below b⟩
def okS (nf : Nat) (s : Sty) : Bool := !decide (5 < s.a0) && (!decide (s.a5 < 0) && (!decide ((nf : Int) <= s.a5) && (!decide (s.a4 < 0) && !decide (64 < s.a4))))
def validB (ss : List Sty) (nf na n : Nat) : Bool := decide (ss.length = n) && (decide (na = n) && ss.all (okS nf))
theorem okS_is {nf : Nat} {s : Sty} (h : okS nf s = true) : s.a0 <= 5 /\ 0 <= s.a5 /\ s.a5 < nf /\ 0 <= s.a4 /\ s.a4 <= 64 := by
 unfold okS at h
 simp only [Bool.and_eq_true, Bool.not_eq_true', decide_eq_false_iff_not] at h
 omega
def qpi (ss : List Sty) (n : Int) : Sty := ss.getD n.toNat .zero
def zFnt : Fnt := ⟨0, 0, 0, 0, 0, .slice none 0 0, []⟩
def fntA (fs : List Fnt) (n : Int) : Fnt := fs.getD n.toNat zFnt
def goF (ss : List Sty) (fs : List Fnt) (n r : Int) : Int := atI (fnd (fntA fs (qpi ss n).a5).o r (fntA fs (qpi ss n).a5).rs) (qpi ss n).a6
def qpj (ss : List Sty) (fs : List Fnt) (at_ : List Int) (c : Cr) : Int :=
 if c.kind = 4 then goF ss fs c.node 32 * (qpi ss c.node).a4 else if c.kind = 5 then 0 else if c.kind = 6 then at_.getD c.node.toNat 0 else goF ss fs c.node c.r
theorem goF_bd (ss : List Sty) (fs : List Fnt) (n r : Int) : 0 <= goF ss fs n r /\ goF ss fs n r <= 8589934592 := qe9 _ _
theorem qe6 (sv fv av : Value) (ss : List Sty) (fs : List Fnt) (at_ : List Int) (n : Nat) (r : Int) (w : World) (hM : Ms w sv fv av ss fs at_) (hn : n < ss.length) (hf : ∀ s ∈ ss, 0 <= s.a5 /\ s.a5 < fs.length /\ W64 s.a6) :
 Calls Tryz.prog 99 #[.agg #[sv, fv, av], .int .i64 (n : Int), .int .i32 r] w fun e w' => e = .returned (.int .i64 (goF ss fs n r)) /\ Below w.heap.size w w' := by
 obtain ⟨s, hs⟩ : ∃ s, ss[n]? = some s := ⟨_, xac hn⟩
 obtain ⟨h1, h2, h3⟩ := hf s (xav hs)
 obtain ⟨j, hj⟩ : ∃ j : Nat, s.a5 = j := ⟨s.a5.toNat, by omega⟩
 have hjl : j < fs.length := by omega
 obtain ⟨F, hF⟩ : ∃ F, fs[j]? = some F := ⟨_, xac hjl⟩
 have hY : goF ss fs n r = atI (fnd F.o r F.rs) s.a6 := by
  have e1 : qpi ss (n : Int) = s := by unfold qpi; rw [xax, xal, hs]; rfl
  have e2 : fntA fs (j : Int) = F := by unfold fntA; rw [xax, xal, hF]; rfl
  unfold goF
  rw [e1, hj, e2]
 rw [hY]
 have HFE := hM.f.each F (xav hF)
 have CA : Hid (∀ W, Below w.heap.size w W -> Calls Tryz.prog 32 #[F.val, .int .i64 s.a6, .int .i32 r] W fun e w' => e = .returned (.int .i64 (atI (fnd F.o r F.rs) s.a6)) /\ Below W.heap.size W w') := xaa fun W b => Fo.qms F s.a6 r W (HFE.1.below b) HFE.2 h3
 obtain ⟨y, hy⟩ : ∃ y, atI (fnd F.o r F.rs) s.a6 = y := ⟨_, rfl⟩
 rw [hy] at CA |-
 obtain ⟨a1, cap1, o1, hv1, _, ha1, hL1⟩ := hM.s.get (xas) hs
 obtain ⟨A3, cap3, hv3⟩ := hM.a.form
 obtain ⟨n3, hn3⟩ : ∃ n3, at_.length = n3 := ⟨_, rfl⟩
 rw [hn3] at hv3
 have HQ2 : Hid (∃ a cap o, fv = .slice (some a) fs.length cap /\ a.add (j * 6) = ⟨a.block, o, none⟩ /\ ∀ W, Below w.heap.size w W -> qar W ⟨a.block, o, none⟩ F.cells) := xaa (by
  obtain ⟨a, cap, o, hv, _, ha, hL⟩ := hM.f.get (xas) hF
  exact ⟨a, cap, o, hv, ha, fun W hW => hL.below hW⟩)
 obtain ⟨a2, cap2, o2, hv2, ha2, hL2⟩ := HQ2.out
 clear HQ2
 have HL2 := xaa hL2
 obtain ⟨ns, hns⟩ : ∃ ns, ss.length = ns := ⟨_, rfl⟩
 obtain ⟨nf, hnf⟩ : ∃ nf, fs.length = nf := ⟨_, rfl⟩
 rw [hns] at hv1 hn
 rw [hnf] at hv2 hjl
 subst hv1 hv2 hv3
 have HA5 := xaa hj
 have HA6 : Hid (∃ z, s.a6 = z) := xaa ⟨_, rfl⟩
 obtain ⟨z6, hz6⟩ := HA6.out
 have HZ6 := xaa hz6
 rw [hz6] at CA
 have hnz : (n : Int) < ns := by omega
 have hjz : (j : Int) < nf := by omega
 have HL1 := xaa hL1
 clear hM hf hs hj hF hY HFE hy hL2 hns hnf hn3 hz6 HA6 h1 h2 h3 hL1
 go_enter Tryz.func99, Tryz.ntmps99
 go_wp2_with (refine bxMV rfl (.tmp 0) rfl _ _ _ _ _ _ _ _ _ rfl ?_; intro w1 b0 B0; refine Mk.out ?_)
 constructor
 have L1 := HL1.out.below b0
 have c0 := B0.cell 0
 go_wp2_with (first
  | (refine ldS (o := ⟨some 12, _, _, _, _, _⟩) rfl (.tmp 11) rfl _ rfl s (by first | exact L1 | exact ha1 ▸ L1) ?_)
  | (refine nwS rfl rfl 7 rfl rfl (.tmp 12) rfl rfl s (fun _ => rfl) (fun _ => rfl) ?_; intro w2 b2 B2; refine Mk.out ?_))
 constructor
 have K : Hid (∀ W, Below w2.heap.size w2 W -> W.cell? ⟨w.heap.size, 1, none⟩ = some (.slice (some a2) nf cap2) /\ W.cell? ⟨w1.heap.size, 5, none⟩ = some (.int .i64 (j : Int)) /\ W.cell? ⟨w1.heap.size, 6, none⟩ = some (.int .i64 z6) /\ qar W ⟨a2.block, o2, none⟩ F.cells) := xaa fun W hW => by
  have q1 := B0.kb ((xaq b2 hW))
  have q2 := B2.kb hW
  refine ⟨q1.cell 1, (q2.cell 5).trans ?_, (q2.cell 6).trans ?_, HL2.out W (xaq b0 (xaq b2 hW))⟩
  ·rw [<- HA5.out]; rfl
  ·rw [<- HZ6.out]; rfl
 have HB := xaa (xaq b0 b2)
 clear L1 ha1 c0 B0 b0 B2 b2 HL1
 go_wp2_with fail
 refine qd5 (by kernel_rfl) (fun R hR => ?_)
 refine AllS.start ?_
 refine AllS.t ?_
 refine AllS.f (fun W hSw => (K.out W hSw).1) ?_
 refine AllS.t ?_
 refine AllS.f (fun W hSw => (K.out W hSw).2.1) ?_
 refine AllS.t ?_
 refine AllS.r F.val (fun W hSw => ?_) ?_
 ·(try dsimp only at hSw)
  have q := (K.out W hSw).2.2.2
  first | exact rdFn (.tmp 17) rfl _ rfl F q | exact rdFn (.tmp 17) rfl _ rfl F (ha2 ▸ q)
 refine AllS.t ?_
 refine AllS.f (fun W hSw => (K.out W hSw).2.2.1) ?_
 refine AllS.t ?_
 refine AllS.c (.int .i64 y) 32 #[F.val, .int .i64 z6, .int .i32 r] (fun W hSw => ?_) ?_
 ·exact (CA.out W (xaq HB.out hSw)).mono fun e w' h => ⟨h.1, xaq hSw h.2⟩
 refine AllS.t ?_
 refine AllS.done (by kernel_rfl) (hR.out _ ?_) _
 clear hR R
 intro w3 b3
 have HB3 := xaa (xaq HB.out b3)
 clear b3 K ha2
 go_wp2_with fail
 go_ret
 exact ⟨rfl, HB3.out⟩
theorem qv2 (sv fv av : Value) (ss : List Sty) (fs : List Fnt) (at_ : List Int) (c : Cr) (w : World) (hM : Ms w sv fv av ss fs at_) (h0 : 0 <= c.node) (hn : c.node.toNat < ss.length) (hf : ∀ s ∈ ss, 0 <= s.a5 /\ s.a5 < fs.length /\ W64 s.a6) :
 Calls Tryz.prog 45 #[.agg #[sv, fv, av], .agg (chA c)] w fun e w' => e = .returned (.int .i64 (goF ss fs c.node c.r)) /\ Below w.heap.size w w' := by
 obtain ⟨n, hcn⟩ : ∃ n : Nat, c.node = n := ⟨c.node.toNat, by omega⟩
 rw [hcn] at hn |-
 rw [xax] at hn
 have CA := xaa fun W (b : Below w.heap.size w W) => qe6 sv fv av ss fs at_ n c.r W (hM.below b) hn hf
 obtain ⟨y, hy⟩ : ∃ y, goF ss fs n c.r = y := ⟨_, rfl⟩
 rw [hy] at CA |-
 obtain ⟨A1, c1', rfl⟩ := hM.s.form
 obtain ⟨A2, c2', rfl⟩ := hM.f.form
 obtain ⟨A3, c3', rfl⟩ := hM.a.form
 clear hM hn hf hy h0
 go_enter Tryz.func45, Tryz.ntmps45
 go_wp2_with (first
  | (refine bxMV rfl (.tmp 0) rfl _ _ _ _ _ _ _ _ _ rfl ?_; intro w1 b1 B1)
  | (refine bxCV rfl (.tmp 1) rfl c rfl ?_; intro w2 b2 B2; refine Mk.out ?_))
 constructor
 have B0 := B1.kb b2
 have b0 := xaq b1 b2
 have c0 := B0.cell 0
 have c1 := B0.cell 1
 have c2 := B0.cell 2
 have d0 : w2.cell? ⟨w1.heap.size, 0, none⟩ = some (.int .i32 c.r) := B2.cell 0
 have d1 : w2.cell? ⟨w1.heap.size, 1, none⟩ = some (.int .i64 (n : Int)) := (B2.cell 1).trans (by rw [<- hcn]; rfl)
 have HB := xaa b0
 clear B0 b0 B1 b1 B2 b2 hcn
 go_wp2_with fail
 refine (CA.out _ HB.out).mono ?_
 rintro e w3 ⟨rfl, b3⟩
 go_wp2_with fail
 go_ret
 exact ⟨rfl, xaq HB.out b3⟩
theorem qvy (sv fv av : Value) (ss : List Sty) (fs : List Fnt) (at_ : List Int) (c : Cr) (w : World) (hM : Ms w sv fv av ss fs at_) (h0 : 0 <= c.node) (hn : c.node.toNat < ss.length) (hf : ∀ s ∈ ss, 0 <= s.a5 /\ s.a5 < fs.length /\ W64 s.a6) (ht : ∀ s ∈ ss, 0 <= s.a4 /\ s.a4 <= 64) :
 Calls Tryz.prog 46 #[.agg #[sv, fv, av], .agg (chA c)] w fun e w' => e = .returned (.int .i64 (goF ss fs c.node 32 * (qpi ss c.node).a4)) /\ Below w.heap.size w w' := by
 obtain ⟨n, hcn⟩ : ∃ n : Nat, c.node = n := ⟨c.node.toNat, by omega⟩
 rw [hcn] at hn |-
 rw [xax] at hn
 obtain ⟨s, hs⟩ : ∃ s, ss[n]? = some s := ⟨_, xac hn⟩
 have hts := ht s (xav hs)
 have e1 : qpi ss (n : Int) = s := by unfold qpi; rw [xax, xal, hs]; rfl
 rw [e1]
 have CA := xaa fun W (b : Below w.heap.size w W) => qe6 sv fv av ss fs at_ n 32 W (hM.below b) hn hf
 have hbd := goF_bd ss fs n 32
 obtain ⟨y, hy⟩ : ∃ y, goF ss fs n 32 = y := ⟨_, rfl⟩
 rw [hy] at CA hbd |-
 obtain ⟨a1, cap1, o1, hv1, _, ha1, hL1⟩ := hM.s.get (xas) hs
 obtain ⟨ns, hns⟩ : ∃ ns, ss.length = ns := ⟨_, rfl⟩
 rw [hns] at hv1 hn
 obtain ⟨A2, c2', hv2⟩ := hM.f.form
 obtain ⟨A3, c3', hv3⟩ := hM.a.form
 obtain ⟨n2, hn2⟩ : ∃ n2, fs.length = n2 := ⟨_, rfl⟩
 obtain ⟨n3, hn3⟩ : ∃ n3, at_.length = n3 := ⟨_, rfl⟩
 rw [hn2] at hv2
 rw [hn3] at hv3
 subst hv1 hv2 hv3
 obtain ⟨t, ht4⟩ : ∃ t, s.a4 = t := ⟨_, rfl⟩
 rw [ht4] at hts |-
 have HW : Hid (-9223372036854775808 <= y * t /\ y * t <= 9223372036854775807) := xaa (by
  have h1 : 0 <= y * t := Int.mul_nonneg hbd.1 hts.1
  have h2 : y * t <= 8589934592 * 64 := Int.mul_le_mul hbd.2 hts.2 hts.1 (by omega)
  omega)
 have HL1 : Hid (∀ W, Below w.heap.size w W -> W.cell? ⟨a1.block, o1 + 4, none⟩ = some (.int .i64 t)) := xaa fun W b => by
  have := (hL1.below b) 4 (.int .i64 t) (by rw [<- ht4]; rfl)
  rwa [Addr.add_lit] at this
 have hnz : (n : Int) < ns := by omega
 clear hM hf hs hy ht hts e1 hbd hL1 hns ht4 h0 hn2 hn3
 go_enter Tryz.func46, Tryz.ntmps46
 go_wp2_with (first
  | (refine bxMV rfl (.tmp 0) rfl _ _ _ _ _ _ _ _ _ rfl ?_; intro w1 b1 B1)
  | (refine bxCV rfl (.tmp 1) rfl c rfl ?_; intro w2 b2 B2; refine Mk.out ?_))
 constructor
 have B0 := B1.kb b2
 have b0 := xaq b1 b2
 have K : Hid (∀ W, Below w2.heap.size w2 W -> (W.cell? ⟨w.heap.size, 0, none⟩ = some (.slice (some a1) ns cap1) /\ W.cell? ⟨w.heap.size, 1, none⟩ = some (.slice A2 n2 c2') /\ W.cell? ⟨w.heap.size, 2, none⟩ = some (.slice A3 n3 c3')) /\ W.cell? ⟨w1.heap.size, 1, none⟩ = some (.int .i64 (n : Int)) /\ W.cell? ⟨a1.block, o1 + 4, none⟩ = some (.int .i64 t)) := xaa fun W hW => by
  have q1 := B0.kb hW
  have q2 := B2.kb hW
  exact ⟨⟨q1.cell 0, q1.cell 1, q1.cell 2⟩, (q2.cell 1).trans (by rw [<- hcn]; rfl), HL1.out W (xaq b0 hW)⟩
 have HB := xaa b0
 clear B0 b0 B1 b1 B2 b2 hcn HL1
 go_wp2_with fail
 refine qd5 (by kernel_rfl) (fun R hR => ?_)
 refine AllS.start ?_
 refine AllS.f (fun W hSw => (K.out W hSw).1) ?_
 refine AllS.t ?_
 refine AllS.f (fun W hSw => (K.out W hSw).2.1) ?_
 refine AllS.c (.int .i64 y) 99 #[.agg #[.slice (some a1) ns cap1, .slice A2 n2 c2', .slice A3 n3 c3'], .int .i64 (n : Int), .int .i32 32] (fun W hSw => ?_) ?_
 ·exact (CA.out W (xaq HB.out hSw)).mono fun e w' h => ⟨h.1, xaq hSw h.2⟩
 refine AllS.t ?_
 refine AllS.f (fun W hSw => (K.out W hSw).1.1) ?_
 refine AllS.t ?_
 refine AllS.f (fun W hSw => (K.out W hSw).2.1) ?_
 iterate 2 refine AllS.t ?_
 refine AllS.f (fun W hSw => And.intro ((K.out W hSw).2.2) (ha1)) ?_
 refine AllS.r (.int .i64 (y * t)) (fun W hSw => ?_) ?_
 ·(try dsimp only at hSw)
  have hw := HW.out
  go_simp
  exact IntWalk.i64_in _ hw
 refine AllS.t ?_
 refine AllS.done (by kernel_rfl) (hR.out _ ?_) _
 clear hR R
 intro w3 b3
 have HB3 := xaa (xaq HB.out b3)
 clear b3 K ha1
 go_wp2_with fail
 go_ret
 exact ⟨rfl, HB3.out⟩
theorem qsa (c : Cr) (w : World) :
 Calls Tryz.prog 47 #[.agg (chA c)] w fun e w' => e = .returned (.int .i64 0) /\ Below w.heap.size w w' := by
 go_enter Tryz.func47, Tryz.ntmps47
 go_wp2_with (refine bxCV rfl (.tmp 0) rfl c rfl ?_; intro w2 b2 B2)
 go_ret
 exact ⟨rfl, b2⟩
theorem qso (P : Nat) (sv fv av : Value) (at_ : List Int) (c : Cr) (w : World) (hP : Blk w P 69 #[sv, fv, av]) (hA : Ai w av at_) (h0 : 0 <= c.node) (hn : c.node.toNat < at_.length) :
 Calls Tryz.prog 48 #[.agg (chA c), .pointer (some ⟨P, 0, none⟩)] w fun e w' => e = .returned (.int .i64 (at_.getD c.node.toNat 0)) /\ Below w.heap.size w w' := by
 obtain ⟨n, hcn⟩ : ∃ n : Nat, c.node = n := ⟨c.node.toNat, by omega⟩
 rw [hcn] at hn |-
 rw [xax] at hn |-
 obtain ⟨z, hz⟩ : ∃ z, at_[n]? = some z := ⟨_, xac hn⟩
 have hgz : at_.getD n 0 = z := by rw [xal, hz]; rfl
 rw [hgz]
 have HR := xaa hA
 obtain ⟨a, cap, hv, _, _, hcell⟩ := hA.at_ (by rw [xao]; omega)
 rw [xao] at hv
 obtain ⟨na, hna⟩ : ∃ na, at_.length = na := ⟨_, rfl⟩
 rw [hna] at hv hn
 have hcz := hcell n (.int .i64 z) (by rw [xan, hz]; rfl)
 subst hv
 have hnz : (n : Int) < na := by omega
 have hP2 := hP.cell 2
 have HP := xaa hP
 clear hA hcell hz hgz hna hP h0
 go_enter Tryz.func48, Tryz.ntmps48
 go_wp2_with (refine bxCV rfl (.tmp 0) rfl c rfl ?_; intro w2 b2 B2; refine Mk.out ?_)
 constructor
 have c2 : w2.cell? ⟨P, 2, none⟩ = some (.slice (some a) na cap) := (HP.out.kb b2).cell 2
 have d1 : w2.cell? ⟨w.heap.size, 1, none⟩ = some (.int .i64 (n : Int)) := (B2.cell 1).trans (by rw [<- hcn]; rfl)
 have hcz2 : w2.cell? (a.add n) = some (.int .i64 z) := (b2.cell (World.block_lt_of_cell? _ _ hcz)).trans hcz
 have HB := xaa b2
 clear B2 hP2 hcz hcn b2 HR HP
 go_wp2_with fail
 go_ret
 exact ⟨rfl, HB.out⟩
def bcA (A1 A2 A3 : Option Addr) (n1 n2 n3 c1 c2 c3 : Nat) (P : Nat) : Array Value :=
 #[.int .u8 0, .func (.func 45) #[.agg #[.slice A1 n1 c1, .slice A2 n2 c2, .slice A3 n3 c3]] #[],
  .int .u8 1, .func (.func 45) #[.agg #[.slice A1 n1 c1, .slice A2 n2 c2, .slice A3 n3 c3]] #[],
  .int .u8 2, .func (.func 45) #[.agg #[.slice A1 n1 c1, .slice A2 n2 c2, .slice A3 n3 c3]] #[],
  .int .u8 3, .func (.func 45) #[.agg #[.slice A1 n1 c1, .slice A2 n2 c2, .slice A3 n3 c3]] #[],
  .int .u8 4, .func (.func 46) #[.agg #[.slice A1 n1 c1, .slice A2 n2 c2, .slice A3 n3 c3]] #[],
  .int .u8 5, .func (.func 47) #[] #[],
  .int .u8 6, .func (.func 48) #[] #[.pointer (some ⟨P, 0, none⟩)]]
def bcZ : Array Value := #[.int .u8 0, .nilFunc, .int .u8 0, .nilFunc, .int .u8 0, .nilFunc, .int .u8 0, .nilFunc, .int .u8 0, .nilFunc, .int .u8 0, .nilFunc, .int .u8 0, .nilFunc]
theorem alBc (w : World) : (Instr.alloc 80 true (.tuple #[])).run Tryz.prog w = .ok (.pointer (some ⟨w.heap.size, 0, none⟩)) (w.alloc (.cells bcZ 80)) := by kernel_rfl
theorem iBc : (Tryz.prog.info? 80).map (·.size) = some 14 := by kernel_rfl
theorem oneBc (A1 A2 A3 : Option Addr) (n1 n2 n3 c1 c2 c3 : Nat) (P : Nat) : (bcA A1 A2 A3 n1 n2 n3 c1 c2 c3 P).all (·.oneCell') = true := by kernel_rfl
theorem alBcV {ops : Array Oper} {Q : Exit -> Act -> World -> Prop} {a : Act} {w : World} {rest : List Oper} {o : Oper} (hg : o.guard = none) (ho : o.op = .alloc 80) (h : ∀ w', Below w.heap.size w w' -> Blk w' w.heap.size 80 bcZ -> wpList Tryz.prog ops Q rest (a.put o.dst (.pointer (some ⟨w.heap.size, 0, none⟩))) w') : wpList Tryz.prog ops Q (o :: rest) a w :=
 qao hg 80 ho _ alBc h
theorem qg0 (A1 A2 A3 : Option Addr) (n1 n2 n3 c1' c2' c3' : Nat) (w : World) :
 Calls Tryz.prog 24 #[.agg #[.slice A1 n1 c1', .slice A2 n2 c2', .slice A3 n3 c3']] w fun e w' => ∃ P, e = .returned (.agg (bcA A1 A2 A3 n1 n2 n3 c1' c2' c3' P)) /\ w.heap.size <= P /\ Blk w' P 69 #[.slice A1 n1 c1', .slice A2 n2 c2', .slice A3 n3 c3'] /\ Below w.heap.size w w' := by
 go_enter Tryz.func24, Tryz.ntmps24
 go_wp2_with (first
  | (refine bxMV rfl (.tmp 0) rfl _ _ _ _ _ _ _ _ _ rfl ?_; intro w1 b1 B1)
  | (refine alBcV rfl rfl ?_; intro w2 b2 B2; refine Mk.out ?_))
 constructor
 have B0 := B1.kb b2
 have c0 := B0.cell 0
 have c1 := B0.cell 1
 have c2 := B0.cell 2
 have hne : w.heap.size ≠ w1.heap.size := by have := B1.lt; omega
 have HB := xaa (xaq b1 b2)
 have HB0 := xaa B0
 have hlt : w.heap.size <= w1.heap.size := b1.size
 have HNE := xaa hne
 have HLT := xaa hlt
 clear B1 b1 B0 b2 hne hlt
 go_wp2_with (refine qah rfl 80 (.tmp 2) (.tmp 21) rfl rfl _ rfl (bcA A1 A2 A3 n1 n2 n3 c1' c2' c3' w.heap.size) rfl _ bcZ B2 iBc rfl (oneBc _ _ _ _ _ _ _ _ _ _) ?_; intro w3 m3 B3)
 (try simp only [Exit.inBlock, Exit.then])
 refine ⟨rfl, _, qbf rfl _ _ w1.heap.size 80 _ _ rfl B3 Tryz.underlying80 rfl iBc, _, rfl, xat, HB0.out.keep m3 HNE.out, HB.out.trans (m3.below HB.out.size fun k hk => by have := HLT.out; omega)⟩
theorem qhp (sv fv av : Value) (ss : List Sty) (nf na : Nat) (n : Nat) (w : World) (hS : Ss w sv ss) (hlen : ss.length <= 1048576) (hf : ∃ A c, fv = .slice A nf c) (ha : ∃ A c, av = .slice A na c) :
 Calls Tryz.prog 20 #[.agg #[sv, fv, av], .int .i64 (n : Int)] w fun e w' => e = .returned (.bool (validB ss nf na n)) /\ Below w.heap.size w w' := by
 have HS := xaa hS
 obtain ⟨A1, cp1, rfl⟩ := hS.form
 obtain ⟨A2, cp2, rfl⟩ := hf
 obtain ⟨A3, cp3, rfl⟩ := ha
 obtain ⟨D, hD⟩ : ∃ D, validB ss nf na n = D := ⟨_, rfl⟩
 have HD := xaa hD
 rw [hD]
 obtain ⟨m, hm⟩ : ∃ m, ss.length = m := ⟨_, rfl⟩
 have HM := xaa hm
 rw [hm] at HS hlen |-
 clear hS hD hm
 go_enter Tryz.func20, Tryz.ntmps20
 go_wp2_with (refine bxMV rfl (.tmp 0) rfl _ _ _ _ _ _ _ _ _ rfl ?_; intro w1 b1 B1; refine Mk.out ?_)
 constructor
 have c0 := B1.cell 0
 have c2 := B1.cell 2
 have HB1 := xaa B1
 have Hb1 := xaa b1
 clear B1 b1
 by_cases e1 : m = n
 ·subst e1
  by_cases e2 : na = m
  ·subst e2
   have HD2 : Hid (D = ss.all (okS nf)) := xaa (by rw [<- HD.out]; unfold validB; rw [decide_eq_true HM.out]; simp)
   go_wp2_with fail
   go_loopg [22] (na + 1) (fun kx s22 wr => ∃ i : Nat, s22 = .int .i64 (i : Int) /\ i <= na /\ kx = na + 1 - i /\ Hid (Below w1.heap.size w1 wr) /\ Hid (D = (ss.drop i).all (okS nf)))
   case atStart => exact ⟨0, by go_num, Nat.zero_le _, by omega, xaa (xas), by simpa using HD2⟩
   case round =>
    obtain ⟨i, rfl, hi, rfl, JB, JD⟩ := hrel
    clear HD2 c0 c2
    by_cases h1 : i < na
    ·obtain ⟨s, hs⟩ : ∃ s, ss[i]? = some s := ⟨_, xac (by rw [HM.out]; exact h1)⟩
     obtain ⟨a, cap2, o, hv, _, ha, hLi⟩ := HS.out.get (Hb1.out.trans (JB.out.mono Hb1.out.size)) hs
     rw [HM.out] at hv
     injection hv with hv1 hv2 hv3
     subst hv1 hv3
     have hdr : ss.drop i = s :: ss.drop (i + 1) := by rw [List.drop_eq_getElem?_toList_append, hs]; rfl
     have HDR : Hid (D = (okS nf s && (ss.drop (i + 1)).all (okS nf))) := xaa (by rw [JD.out, hdr, List.all_cons])
     have B0 := HB1.out.kb JB.out
     have c1 := B0.cell 1
     have hiz : (i : Int) < na := by omega
     have HJB := xaa JB.out
     clear hv2 hdr B0 hs JD JB
     go_wp2_with (first
      | (refine ldS (o := ⟨some 25, _, _, _, _, _⟩) rfl (.tmp 24) rfl _ rfl s (by first | exact hLi | exact ha ▸ hLi) ?_)
      | (refine nwS rfl rfl 6 rfl rfl (.tmp 25) rfl rfl s (fun _ => rfl) (fun _ => rfl) ?_; intro w3 b3 B3; refine Mk.out ?_))
     constructor
     have d1 : w3.cell? ⟨w.heap.size, 1, none⟩ = some (.slice A2 nf cp2) := (b3.cell (World.block_lt_of_cell? _ _ c1)).trans c1
     have e0 : w3.cell? ⟨wr.heap.size, 0, none⟩ = some (.int .u8 s.a0) := B3.cell 0
     have e4 : w3.cell? ⟨wr.heap.size, 4, none⟩ = some (.int .i64 s.a4) := B3.cell 4
     have e5 : w3.cell? ⟨wr.heap.size, 5, none⟩ = some (.int .i64 s.a5) := B3.cell 5
     have HB3 := xaa (HJB.out.trans (b3.mono HJB.out.size))
     have hok : okS nf s = (!decide (5 < s.a0) && (!decide (s.a5 < 0) && (!decide ((nf : Int) <= s.a5) && (!decide (s.a4 < 0) && !decide (64 < s.a4))))) := rfl
     obtain ⟨z0, hz0⟩ : ∃ z, s.a0 = z := ⟨_, rfl⟩
     obtain ⟨z4, hz4⟩ : ∃ z, s.a4 = z := ⟨_, rfl⟩
     obtain ⟨z5, hz5⟩ : ∃ z, s.a5 = z := ⟨_, rfl⟩
     rw [hz0, hz4, hz5] at hok
     rw [hz0] at e0
     rw [hz4] at e4
     rw [hz5] at e5
     have HOK := xaa hok
     clear hLi ha c1 b3 B3 hok hz0 hz4 hz5 HJB
     have FIN : Hid (okS nf s = false -> D = false) := xaa fun h => by rw [HDR.out, h]; rfl
     have FINB : Hid (Below w.heap.size w w3) := xaa (Hb1.out.trans (HB3.out.mono Hb1.out.size))
     by_cases q1 : 5 < z0
     ·have g1 : decide (5 < z0) = true := decide_eq_true q1
      have hF := FIN.out (by rw [HOK.out, g1]; rfl)
      subst hF
      clear HDR FIN HOK e4 e5 d1 HB3
      go_wp2_with fail
      go_ret
      exact ⟨rfl, FINB.out⟩
     ·have g1 : decide (5 < z0) = false := decide_eq_false q1
      by_cases q2 : z5 < 0
      ·have g2 : decide (z5 < 0) = true := decide_eq_true q2
       have hF := FIN.out (by rw [HOK.out, g1, g2]; rfl)
       subst hF
       clear HDR FIN HOK e4 d1 HB3
       go_wp2_with fail
       go_ret
       exact ⟨rfl, FINB.out⟩
      ·have g2 : decide (z5 < 0) = false := decide_eq_false q2
       by_cases q3 : (nf : Int) <= z5
       ·have g3 : decide ((nf : Int) <= z5) = true := decide_eq_true q3
        have hF := FIN.out (by rw [HOK.out, g1, g2, g3]; rfl)
        subst hF
        clear HDR FIN HOK e4 HB3
        go_wp2_with fail
        go_ret
        exact ⟨rfl, FINB.out⟩
       ·have g3 : decide ((nf : Int) <= z5) = false := decide_eq_false q3
        by_cases q4 : z4 < 0
        ·have g4 : decide (z4 < 0) = true := decide_eq_true q4
         have hF := FIN.out (by rw [HOK.out, g1, g2, g3, g4]; rfl)
         subst hF
         clear HDR FIN HOK HB3
         go_wp2_with fail
         go_ret
         exact ⟨rfl, FINB.out⟩
        ·have g4 : decide (z4 < 0) = false := decide_eq_false q4
         by_cases q5 : 64 < z4
         ·have g5 : decide (64 < z4) = true := decide_eq_true q5
          have hF := FIN.out (by rw [HOK.out, g1, g2, g3, g4, g5]; rfl)
          subst hF
          clear HDR FIN HOK HB3
          go_wp2_with fail
          go_ret
          exact ⟨rfl, FINB.out⟩
         ·have g5 : decide (64 < z4) = false := decide_eq_false q5
          have HN : Hid (D = (ss.drop (i + 1)).all (okS nf)) := xaa (by rw [HDR.out, HOK.out, g1, g2, g3, g4, g5]; rfl)
          clear HDR FIN HOK FINB
          go_wp2_with fail
          go_roundg (na + 1 - (i + 1))
          case rel => exact ⟨i + 1, by go_num, by omega, rfl, HB3, HN⟩
          case measure => omega
    ·obtain rfl : i = na := by omega
     have hF : D = true := by rw [JD.out, List.drop_eq_nil_of_le (by rw [HM.out]; exact xat)]; rfl
     have FINB : Hid (Below w.heap.size w wr) := xaa (Hb1.out.trans (JB.out.mono Hb1.out.size))
     subst hF
     clear JD JB
     go_wp2_with fail
     go_ret
     exact ⟨rfl, FINB.out⟩
  ·have hF : D = false := by rw [<- HD.out]; unfold validB; rw [decide_eq_false e2]; simp
   subst hF
   have g2 : ((na : Int) == (m : Int)) = false := by simp; omega
   have g3 : decide ((na : Int) = (m : Int)) = false := decide_eq_false (by omega)
   have e2z : ¬ (na : Int) = (m : Int) := by omega
   clear HD
   go_wp2_with fail
   go_ret
   exact ⟨rfl, Hb1.out⟩
 ·have hF : D = false := by rw [<- HD.out]; unfold validB; rw [HM.out, decide_eq_false e1]; rfl
  subst hF
  have g2 : ((m : Int) == (n : Int)) = false := by simp; omega
  have e1z : ¬ (m : Int) = (n : Int) := by omega
  clear HD c2
  go_wp2_with fail
  go_ret
  exact ⟨rfl, Hb1.out⟩
end Ce
namespace Ce
open Go.Shelf
open Ar
open Wh (Cr)
def comF (ps : List Int) : Nat -> Nat -> Nat -> Nat
 | 0, a, _ => a
 | f + 1, a, b => if a = b then a else if a < b then comF ps f a (pr ps b).toNat else comF ps f (pr ps a).toNat b
theorem qsd {ps : List Int} (h : Tre ps) : ∀ f a b, a < ps.length -> b < ps.length -> a + b <= f -> Com ps a b (comF ps f a b) := by
 intro f
 induction f with
 | zero =>
   intro a b _ _ hf
   obtain rfl : a = b := by omega
   exact Com.self .refl
 | succ f ih =>
   intro a b ha hb hf
   show Com ps a b (if a = b then a else if a < b then comF ps f a (pr ps b).toNat else comF ps f (pr ps a).toNat b)
   by_cases e : a = b
   ·subst e
    rw [if_pos rfl]
    exact Com.self .refl
   ·rw [if_neg e]
    by_cases hlt : a < b
    ·rw [if_pos hlt]
     obtain ⟨q1, q2, _⟩ := h.par b (by omega) hb
     have := ih a (pr ps b).toNat ha (by omega) (by omega)
     exact (Com.up q1 (fun hab => by have := hab.le h; omega) this.symm).symm
    ·rw [if_neg hlt]
     obtain ⟨q1, q2, _⟩ := h.par a (by omega) ha
     have := ih (pr ps a).toNat b (by omega) hb (by omega)
     exact Com.up q1 (fun hab => by have := hab.le h; omega) this
def qyz (ps : List Int) (l : List Cr) (i : Nat) : Int := if i = 0 then 0 else (comF ps ((l.getD (i - 1) zCr).node.toNat + (l.getD i zCr).node.toNat) (l.getD (i - 1) zCr).node.toNat (l.getD i zCr).node.toNat : Nat)
def qnk (ps : List Int) (l : List Cr) : List Int := (List.range l.length).map (qyz ps l)
theorem qfj (ps : List Int) (l : List Cr) : (qnk ps l).length = l.length := by simp [qnk]
theorem qom (l : List Nod) (v : Value) (cs : List Cr) (cv : Value) (w : World) (h : Tr w v l) (hT : Tre (psOf l)) (hR : RwC w cv cs) (hpos : 0 < l.length) (hlen : cs.length <= 100000) (hnd : ∀ c ∈ cs, 0 <= c.node /\ c.node < (l.length : Int)) :
 Calls Tryz.prog 14 #[v, cv] w fun e w' => ∃ u, e = .returned (.tuple #[u, .int .i64 0]) /\ Row (fun _ => False) w' u ((qnk (psOf l) cs).map (Value.int .i64)) /\ Below w.heap.size w w' := by
 have CL := xaa (qfo v l.length w h.len)
 have HC : Hid (∀ (a b : Nat) (W : World), a < l.length -> b < l.length -> Below w.heap.size w W -> Calls Tryz.prog 30 #[v, .int .i64 (a : Int), .int .i64 (b : Int)] W fun e w' => e = .returned (.tuple #[.int .i64 (comF (psOf l) (a + b) a b : Nat), .int .i64 0]) /\ Below W.heap.size W w') := xaa fun a b W ha hb hW =>
  (qlq v l a b W (h.below hW) hT ha hb).mono fun e w' ⟨c, he, hc, hb'⟩ => by
   have := Com.uniq hT hc (qsd hT (a + b) a b (by rw [qad]; exact ha) (by rw [qad]; exact hb) (xat))
   subst this
   exact ⟨he, hb'⟩
 have HR := xaa hR
 have HND := xaa hnd
 obtain ⟨A, cap, rfl⟩ := hR.form
 obtain ⟨nl, hnl⟩ : ∃ nl, l.length = nl := ⟨_, rfl⟩
 have HNL := xaa hnl
 rw [hnl] at CL hpos
 obtain ⟨m, hm⟩ : ∃ m, cs.length = m := ⟨_, rfl⟩
 have HM := xaa hm
 rw [hm] at hlen |-
 have hmk1 : ∀ W : World, _ := fun W => qdh (P := Tryz.prog) 37 3 (.int .i64 0) 8 Tryz.underlying37 (by kernel_rfl) (by decide) rfl m (by omega) W
 obtain ⟨gR, hgR⟩ : ∃ gR : Nat -> Value, gR = fun j => .int .i64 (qyz (psOf l) cs j) := ⟨_, rfl⟩
 have HG := xaa hgR
 have hg0 : gR 0 = .int .i64 0 := by rw [hgR]; rfl
 have HG0 := xaa hg0
 have hnz : ¬ (nl : Int) = 0 := by omega
 clear h hT hR hnd hnl hm hgR hg0
 go_enter Tryz.func14, Tryz.ntmps14
 go_wp2_with fail
 refine CL.out.mono ?_
 rintro e w1 ⟨rfl, rfl⟩
 go_wp2_with fail
 have R0 := Blk.new w 3 (qa0 m (fun _ => .int .i64 0))
 have b0 := xar w (.cells (qa0 m (fun _ => .int .i64 0)) 3)
 obtain ⟨w2, hw2⟩ : ∃ w2, w.alloc (.cells (qa0 m (fun _ => .int .i64 0)) 3) = w2 := ⟨_, rfl⟩
 rw [hw2] at R0 b0 |-
 rw [<- qfe (.int .i64 0) gR] at R0
 have hs2 : w.heap.size < w2.heap.size := R0.lt
 clear hw2 hmk1 CL
 have hnq : ((nl : Int) == 0) = false := by simp; omega
 rw [hnq]
 go_loopg [19] (m + 1) (fun kx s19 wr => ∃ i : Nat, s19 = .int .i64 (i : Int) /\ i <= m /\ kx = m + 1 - i /\ Hid (Below w.heap.size w wr) /\ Hid (Blk wr w.heap.size 3 (qa0 m (upF (.int .i64 0) gR i))))
 case atStart => exact ⟨0, by go_num, Nat.zero_le _, by omega, xaa b0, xaa R0⟩
 case round =>
  obtain ⟨i, rfl, hi, rfl, JB, JR⟩ := hrel
  clear R0 b0 hs2
  by_cases h1 : i < m
  ·obtain ⟨c, hc⟩ : ∃ c, cs[i]? = some c := ⟨_, xac (by rw [HM.out]; exact h1)⟩
   obtain ⟨p, hp⟩ : ∃ p, i - 1 = p := ⟨_, rfl⟩
   have hpm : p < m := by omega
   obtain ⟨d, hd⟩ : ∃ d, cs[p]? = some d := ⟨_, xac (by rw [HM.out]; exact hpm)⟩
   obtain ⟨n1, n2⟩ := HND.out c (xav hc)
   obtain ⟨n3, n4⟩ := HND.out d (xav hd)
   obtain ⟨nc, hnc⟩ : ∃ nc : Nat, c.node = nc := ⟨c.node.toNat, by omega⟩
   obtain ⟨np, hnp⟩ : ∃ np : Nat, d.node = np := ⟨d.node.toNat, by omega⟩
   have CC := xaa fun W b => HC.out np nc W (by omega) (by omega) b
   obtain ⟨cm, hcm⟩ : ∃ cm, comF (psOf l) (np + nc) np nc = cm := ⟨_, rfl⟩
   rw [hcm] at CC
   have HGI : Hid (0 < i -> gR i = .int .i64 (cm : Int)) := xaa fun h0 => by
    have e1 : cs.getD (i - 1) zCr = d := by rw [hp, xal, hd]; rfl
    have e2 : cs.getD i zCr = c := by rw [xal, hc]; rfl
    rw [HG.out]
    show Value.int .i64 (qyz (psOf l) cs i) = _
    unfold qyz
    rw [if_neg (by omega), e1, e2, hnc, hnp, xax, xax, hcm]
   obtain ⟨a, cap2, o, hv, _, ha, hLi⟩ := HR.out.get JB.out hc
   rw [HM.out] at hv
   injection hv with hv1 hv2 hv3
   subst hv1 hv3
   have HA1 : Hid (∃ o1, a.add (p * 5) = ⟨a.block, o1, none⟩ /\ ∀ W, Below w.heap.size w W -> W.cell? ⟨a.block, o1 + 1, none⟩ = some (.int .i64 (np : Int))) := xaa (by
    obtain ⟨a', cap', o1, hv', _, ha', hL'⟩ := HR.out.get (xas) hd
    injection hv' with e1
    injection e1 with e1
    subst e1
    refine ⟨o1, ha', fun W hW => ?_⟩
    have := (hL'.below hW) 1 (.int .i64 (np : Int)) (by rw [<- hnp]; rfl)
    rwa [Addr.add_lit] at this)
   obtain ⟨o1, ha1, hL1⟩ := HA1.out
   clear HA1
   have HA1 : Hid (a.add (p * 5) = ⟨a.block, o1, none⟩ /\ (p : Int) < m) := xaa ⟨ha1, by omega⟩
   have HL1 := xaa hL1
   have HP : Hid (max 0 ((i : Int) - 1) = (p : Int)) := xaa (by omega)
   have hiz : (i : Int) < m := by omega
   have HNC := xaa hnc
   clear hv2 hc hd hnp hnc hcm n1 n2 n3 n4 ha1 hL1
   go_wp2_with (first
    | (refine ldC (o := ⟨some 23, _, _, _, _, _⟩) rfl (.tmp 22) rfl _ rfl c (by first | exact hLi | exact ha ▸ hLi) ?_)
    | (refine alCV rfl rfl ?_; intro w3' b3' B3')
    | (refine stC rfl (.tmp 8) (.tmp 23) rfl rfl _ rfl c rfl zCr B3' ?_; intro w3 m3 B3; refine Mk.out ?_))
   constructor
   have b3 : Below wr.heap.size wr w3 := b3'.trans (m3.below b3'.size fun k hk => by omega)
   have HB3 := xaa (JB.out.trans (b3.mono JB.out.size))
   have R3 := JR.out.kb b3
   have K : Hid (∀ W, Below w3.heap.size w3 W -> W.cell? ⟨a.block, o1 + 1, none⟩ = some (.int .i64 (np : Int)) /\ W.cell? ⟨wr.heap.size, 1, none⟩ = some (.int .i64 (nc : Int))) := xaa fun W hW => by
    have q := B3.kb hW
    refine ⟨HL1.out W (xaq HB3.out hW), (q.cell 1).trans ?_⟩
    rw [<- HNC.out]; rfl
   have HR3 := xaa R3
   clear hLi ha b3 B3 R3 JR JB b3' B3' m3
   go_wp2_with fail
   refine qd5 (by kernel_rfl) (fun R hR => ?_)
   refine AllS.start ?_
   iterate 3 refine AllS.t ?_
   refine AllS.r (.int .i64 ((i : Int) - 1)) (fun W hSw => ?_) ?_
   ·(try dsimp only at hSw)
    go_simp
    exact IntWalk.i64_in _ (by omega)
   refine AllS.r (.int .i64 (p : Int)) (fun W hSw => ?_) ?_
   ·(try dsimp only at hSw)
    have hp := HP.out
    go_simp
    (try simp [hp])
    (try omega)
   refine AllS.f (fun W hSw => And.intro (HA1.out.1) (HA1.out.2)) ?_
   refine AllS.t ?_
   refine AllS.f (fun W hSw => (K.out W hSw).1) ?_
   refine AllS.t ?_
   refine AllS.f (fun W hSw => (K.out W hSw).2) ?_
   refine AllS.c (.tuple #[.int .i64 (cm : Int), .int .i64 0]) 30 #[v, .int .i64 (np : Int), .int .i64 (nc : Int)] (fun W hSw => ?_) ?_
   ·exact (CC.out W (xaq HB3.out hSw)).mono fun e w' h => ⟨h.1, xaq hSw h.2⟩
   iterate 5 refine AllS.t ?_
   refine AllS.done (by kernel_rfl) (hR.out _ ?_) _
   clear hR R
   intro w4 b4
   have R4 := HR3.out.kb b4
   have HB4 := xaa (xaq HB3.out b4)
   clear b4 K HR3 HB3 CC
   by_cases h0 : 0 < i
   ·have h0z : (0 : Int) < (i : Int) := by omega
    have hszR : i < (qa0 m (upF (.int .i64 0) gR i)).size := by rw [qa1]; exact h1
    go_wp2_with (refine qbr rfl 3 (.tmp 46) (.tmp 45) rfl rfl w.heap.size i (by first | rfl | (simp [go_sem])) (.int .i64 (cm : Int)) rfl rfl rfl (by kernel_rfl) _ _ R4 hszR ?_; intro w5 m5 R5; refine Mk.out ?_)
    constructor
    have HR5 : Hid (Blk w5 w.heap.size 3 (qa0 m (upF (.int .i64 0) gR (i + 1)))) := xaa (by rw [<- HGI.out h0, qdb, qd1] at R5; exact R5)
    have HB5 := xaa (HB4.out.trans (m5.below HB4.out.size fun k hk => by omega))
    clear R4 R5 m5 HB4
    go_wp2_with fail
    go_roundg (m + 1 - (i + 1))
    case rel => exact ⟨i + 1, by go_num, by omega, rfl, HB5, HR5⟩
    case measure => omega
   ·obtain rfl : i = 0 := by omega
    have HR5 : Hid (Blk w4 w.heap.size 3 (qa0 m (upF (.int .i64 0) gR (0 + 1)))) := xaa (by
     have e : qa0 m (upF (.int .i64 0) gR (0 + 1)) = qa0 m (upF (.int .i64 0) gR 0) := qdc fun j _ => by
      unfold upF
      by_cases hj : j < 0 + 1
      ·rw [if_pos hj, if_neg (by omega), show j = 0 by omega, HG0.out]
      ·rw [if_neg hj, if_neg (by omega)]
     rw [e]; exact R4)
    clear R4
    go_wp2_with fail
    go_roundg (m + 1 - (0 + 1))
    case rel => exact ⟨0 + 1, by go_num, by omega, rfl, HB4, HR5⟩
    case measure => omega
  ·obtain rfl : i = m := by omega
   have HF : Hid (Row (fun _ => False) wr (.slice (some ⟨w.heap.size, 0, none⟩) i i) ((qnk (psOf l) cs).map (Value.int .i64))) := xaa (by
    have e := JR.out
    have e2 : qa0 i (upF (.int .i64 0) gR i) = qa0 i gR := qdc fun j hj => by unfold upF; rw [if_pos hj]
    rw [e2] at e
    refine qb4 e (by rw [xao, qfj]; exact HM.out) fun j x hx => ?_
    unfold qnk at hx
    rw [xan, xan] at hx
    cases hj : (List.range cs.length)[j]? with
    | none => rw [hj] at hx; cases hx
    | some q =>
      rw [hj] at hx
      have hq : q = j := by
       have := xah hj
       obtain ⟨_, hq⟩ := this
       rw [List.getElem_range] at hq
       exact hq.symm
      subst hq
      injection hx with hx
      rw [<- hx, HG.out])
   have HB := xaa JB.out
   clear JR JB
   go_wp2_with fail
   go_ret2
   exact ⟨_, rfl, HF.out, HB.out⟩
end Ce
end Go.Proofs.YtmceblkjbpbcoaaGreatDoor
