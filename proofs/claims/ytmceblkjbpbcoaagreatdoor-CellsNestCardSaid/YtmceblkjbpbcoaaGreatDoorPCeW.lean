/- Contracts of layers below. -/
import Derived.Test.YtmceblkjbpbcoaaGreatDoorPBase
import Derived.Test.YtmceblkjbpbcoaaGreatDoorPCeChars
import Derived.Test.YtmceblkjbpbcoaaGreatDoorPCePutC
import Derived.Test.YtmceblkjbpbcoaaGreatDoorPRegJ
import Derived.Test.YtmceblkjbpbcoaaGreatDoorPCh8
import Derived.Test.YtmceblkjbpbcoaaGreatDoorPWhD
namespace Go.Proofs.YtmceblkjbpbcoaaGreatDoor
set_option maxRecDepth 100000
set_option maxHeartbeats 4000000
open Go.ChangeShapes Go.WideShapes Go.ChangeAt Go.RowKit
namespace Ce
open Go.Shelf
open Ar
open Wh (Cr)
open Fo (Fnt W64)
attribute [local go_sem] Oper.semAt_some
theorem alM (w : World) : (Instr.alloc 69 true (.tuple #[])).run Tryz.prog w = .ok (.pointer (some ⟨w.heap.size, 0, none⟩)) (w.alloc (.cells #[.slice none 0 0, .slice none 0 0, .slice none 0 0] 69)) := by kernel_rfl
theorem iM (a b c : Value) : (Tryz.prog.info? 69).map (·.size) = some (#[a, b, c] : Array Value).size := by kernel_rfl
def mzA (A1 A2 A3 : Option Addr) (n1 n2 n3 c1 c2 c3 : Nat) : Array Value := #[.slice A1 n1 c1, .slice A2 n2 c2, .slice A3 n3 c3]
theorem oneM (A1 A2 A3 : Option Addr) (n1 n2 n3 c1 c2 c3 : Nat) : (mzA A1 A2 A3 n1 n2 n3 c1 c2 c3).all (·.oneCell') = true := by kernel_rfl
def bcF (A1 A2 A3 : Option Addr) (n1 n2 n3 c1 c2 c3 : Nat) (P : Nat) (i : Nat) : Value := ((bcA A1 A2 A3 n1 n2 n3 c1 c2 c3 P)[i]?).getD undef
def rowZ : Array Value := #[.slice none 0 0, .slice none 0 0, .int .u8 0, .nilFunc, .int .u8 0, .nilFunc, .int .u8 0, .nilFunc, .int .u8 0, .nilFunc, .int .u8 0, .nilFunc, .int .u8 0, .nilFunc, .int .u8 0, .nilFunc, .int .i64 0, .int .u8 0, .slice none 0 0]
theorem alRw (w : World) : (Instr.alloc 83 true (.tuple #[])).run Tryz.prog w = .ok (.pointer (some ⟨w.heap.size, 0, none⟩)) (w.alloc (.cells rowZ 83)) := by kernel_rfl
theorem iRw (c h : Value) (f : Nat -> Value) (nx : Nat) (wt : Int) (o : Value) : (Tryz.prog.info? 83).map (·.size) = some (qde c h f nx wt o).size := by kernel_rfl
theorem oneRw (B1 B2 : Option Addr) (m1 m2 d1 d2 : Nat) (A1 A2 A3 : Option Addr) (n1 n2 n3 c1 c2 c3 : Nat) (P : Nat) : (qde (.slice B1 m1 d1) (.slice B2 m2 d2) (bcF A1 A2 A3 n1 n2 n3 c1 c2 c3 P) 0 0 (.slice none 0 0)).all (·.oneCell') = true := by kernel_rfl
theorem bdRw (B1 B2 : Option Addr) (m1 m2 d1 d2 : Nat) (A1 A2 A3 : Option Addr) (n1 n2 n3 c1 c2 c3 : Nat) (P : Nat) (w : World) : (Instr.build 83 #[(0, .slice B1 m1 d1), (1, .slice B2 m2 d2), (2, .agg (bcA A1 A2 A3 n1 n2 n3 c1 c2 c3 P))]).run Tryz.prog w = .ok (.agg (qde (.slice B1 m1 d1) (.slice B2 m2 d2) (bcF A1 A2 A3 n1 n2 n3 c1 c2 c3 P) 0 0 (.slice none 0 0))) w := by kernel_rfl
theorem qjg {P : Program} {o : Oper} {a : Act} {w : World} {ty : TypeId} {x y z : Operand} {vx vy vz u : Value} (ho : o.op = .build ty #[(0, x), (1, y), (2, z)]) (hx : a.eval x = vx) (hy : a.eval y = vy) (hz : a.eval z = vz) (h : (Instr.build ty #[(0, vx), (1, vy), (2, vz)]).run P w = .ok u w) : (execOp a.eval o).run P w = .ok (.value u) w := by
 unfold execOp
 simp only [ho, List.map_toArray, List.map_cons, List.map_nil, hx, hy, hz, Sem.run_bind, h, Sem.run_pure, Result.andThen_ok]
structure Sel (P : Prop) : Prop where
 out : P
theorem selOI {F : Fence} {n : Nat} {P : Program} {ops : Array Oper} {Q : Exit -> Act -> World -> Prop} {a : Act} {w : World} {rest : List Oper} {o : Oper} (h : Sel (wpListIn F n P ops Q (o :: rest) a w)) : wpListIn F n P ops Q (o :: rest) a w := h.out
theorem JR.sta {n0 base R : Nat} (h1 : n0 <= R) (h2 : n0 <= base) (cv hv : Value) (f : Nat -> Value) (g : Gv) : Sta (fun pre W => RowSt base R cv hv f (qfb g pre) W) (SR R) n0 :=
 ⟨fun pre W W' T h m hT => by
  obtain ⟨o, hB, hO⟩ := h
  have hB' := hB.keep m (hT R ((SR.of hB).2 (.inl rfl)))
  refine ⟨⟨o, hB', hO.keep m fun k hk => hT k ((SR.of hB).2 (.inr hk))⟩, fun k hk => ?_⟩
  rw [SR.of hB'] at hk
  exact (SR.of hB).2 hk,
  fun pre W k h hk => by
   obtain ⟨o, hB, hO⟩ := h
   rw [SR.of hB] at hk
   rcases hk with rfl | hk
   ·exact ⟨h1, _, hB, rfl⟩
   ·obtain ⟨h3, cs, fz, h4⟩ := qf6 hO hk
    exact ⟨xau h2 h3, _, h4, rfl⟩⟩
theorem qgo (V : Value) (k : Int) (sv fv av : Value) (err : Int) (he : err ≠ 0) (w : World) (hC : Calls Tryz.prog 13 #[V, .int .i64 k] w fun e w' => e = .returned (.tuple #[.slice none 0 0, .int .i64 err]) /\ Below w.heap.size w w') :
 Calls Tryz.prog 10 #[V, .int .i64 k, sv, fv, av] w fun e w' => e = .returned (.tuple #[.slice none 0 0, .slice none 0 0, .int .i64 err]) /\ Below w.heap.size w w' := by
 have HC := xaa hC
 have hf2 : (err == 0) = false := by simpa using he
 have hf3 : (!(err == 0)) = true := by rw [hf2]; rfl
 clear hC
 go_enter Tryz.func10, Tryz.ntmps10
 go_wp2_with fail
 refine HC.out.mono ?_
 rintro e w1 ⟨rfl, b1⟩
 go_wp2_with fail
 refine ⟨rfl, _, results_tmp3 rfl _ _ _, rfl, b1⟩
theorem qox (V : Value) (l : List Nod) (k : Nat) (A1 A2 A3 : Option Addr) (n1 n2 n3 c1 c2 c3 : Nat) (ss : List Sty) (w : World) (h : qi2 w V l.length) (hS : Ss w (.slice A1 n1 c1) ss) (hn1 : ss.length <= 1048576)
 (hC : Calls Tryz.prog 13 #[V, .int .i64 (k : Int)] w fun e w' => ∃ u, e = .returned (.tuple #[u, .int .i64 0]) /\ Below w.heap.size w w') (hv : validB ss n2 n3 l.length = false) :
 Calls Tryz.prog 10 #[V, .int .i64 (k : Int), .slice A1 n1 c1, .slice A2 n2 c2, .slice A3 n3 c3] w fun e w' => e = .returned (.tuple #[.slice none 0 0, .slice none 0 0, .int .i64 2]) /\ Below w.heap.size w w' := by
 have HC := xaa hC
 obtain ⟨nl, hnl⟩ : ∃ nl, l.length = nl := ⟨_, rfl⟩
 rw [hnl] at h hv
 have LN : Hid (∀ W, Below w.heap.size w W -> Calls Tryz.prog 21 #[V] W fun e w' => e = .returned (.int .i64 (nl : Int)) /\ W = w') := xaa fun W b => qfo V nl W (h.below b)
 have VL : Hid (∀ W, Below w.heap.size w W -> Calls Tryz.prog 20 #[.agg #[.slice A1 n1 c1, .slice A2 n2 c2, .slice A3 n3 c3], .int .i64 (nl : Int)] W fun e w' => e = .returned (.bool false) /\ Below W.heap.size W w') := xaa fun W b => by
  have := qhp (.slice A1 n1 c1) (.slice A2 n2 c2) (.slice A3 n3 c3) ss n2 n3 nl W (hS.below b) hn1 ⟨_, _, rfl⟩ ⟨_, _, rfl⟩
  rwa [hv] at this
 obtain ⟨vb, hvb⟩ : ∃ vb, false = vb := ⟨_, rfl⟩
 rw [hvb] at VL
 have HVB := xaa hvb
 clear hC h hS hv hnl hn1 hvb
 go_enter Tryz.func10, Tryz.ntmps10
 go_wp2_with fail
 refine HC.out.mono ?_
 rintro e w1 ⟨u, rfl, b1⟩
 go_wp2_with (refine qab rfl rfl 69 15 rfl rfl (.tmp 37) rfl rfl _ alM (mzA A1 A2 A3 n1 n2 n3 c1 c2 c3) (fun _ => rfl) (fun _ => rfl) (iM _ _ _) rfl (oneM _ _ _ _ _ _ _ _ _) ?_; intro w2 b2 B2; refine Mk.out ?_)
 constructor
 have KM : Hid (∀ W, Below w2.heap.size w2 W -> W.cell? ⟨w1.heap.size, 0, none⟩ = some (.slice A1 n1 c1) /\ W.cell? ⟨w1.heap.size, 1, none⟩ = some (.slice A2 n2 c2) /\ W.cell? ⟨w1.heap.size, 2, none⟩ = some (.slice A3 n3 c3)) := xaa fun W hW => by
  have q := B2.kb hW
  exact ⟨q.cell 0, q.cell 1, q.cell 2⟩
 have HB2 := xaa (xaq b1 b2)
 clear b1 b2 B2
 go_wp2_with fail
 refine qd5 (by kernel_rfl) (fun R hR => ?_)
 refine AllS.start ?_
 refine AllS.f KM.out ?_
 refine AllS.t ?_
 refine AllS.c (.int .i64 (nl : Int)) 21 #[V] (fun W hSw => ?_) ?_
 ·exact (LN.out W (HB2.out.trans (hSw.mono HB2.out.size))).mono fun e w' h => ⟨h.1, h.2 ▸ hSw⟩
 refine AllS.c (.bool vb) 20 #[.agg #[.slice A1 n1 c1, .slice A2 n2 c2, .slice A3 n3 c3], .int .i64 (nl : Int)] (fun W hSw => ?_) ?_
 ·exact (VL.out W (HB2.out.trans (hSw.mono HB2.out.size))).mono fun e w' h => ⟨h.1, xaq hSw h.2⟩
 refine AllS.t ?_
 refine AllS.done (by kernel_rfl) (hR.out _ ?_) _
 clear hR R
 intro w3 b3
 have HB3 := xaa (xaq HB2.out b3)
 have hvb := HVB.out
 subst hvb
 clear b3 KM
 go_wp2_with fail
 refine ⟨rfl, _, results_tmp3 rfl _ _ _, rfl, HB3.out⟩
theorem qkh (V : Value) (l : List Nod) (k : Nat) (x : Nod) (mt : Nat) (A1 A2 A3 : Option Addr) (c1 c2 c3 : Nat) (ss : List Sty) (fs : List Fnt) (at_ : List Int) (w : World) (h : Tr w V l) (hT : Tre (psOf l)) (hlen : l.length <= 1000) (hmt : ∀ x ∈ l, x.t.size <= mt) (hmb : mt <= 100000) (hmm : 2 * l.length * (mt + 1) <= 100000) (hk : l[k]? = some x) (hi : inl x.k = true) (hU : Ut.Tab w) (hTb : Tab w)
 (hM : Ms w (.slice A1 ss.length c1) (.slice A2 fs.length c2) (.slice A3 at_.length c3) ss fs at_) (hv : validB ss fs.length at_.length l.length = true) (h64 : ∀ s ∈ ss, W64 s.a6) :
 Calls Tryz.prog 10 #[V, .int .i64 (k : Int), .slice A1 ss.length c1, .slice A2 fs.length c2, .slice A3 at_.length c3] w fun e w' => ∃ u1 u2, e = .returned (.tuple #[u1, u2, .int .i64 0]) /\ RwC w' u1 (csL ss l k) /\ qkj w' u2 (cellL ss fs at_ l k) /\ Below w.heap.size w w' := by
 have hkl : k < l.length := (xah hk).1
 obtain ⟨v1, v2, v3⟩ := qja hv
 have CC := xaa (qhu V l k x mt w h hT hlen hmt hmb (by omega) hk hi hU)
 have HVL : (visL (psOf l) (bxL l) k).length <= 2 * l.length := by have := qlx hT (bxL l) (n := k) (by rw [qad]; exact hkl); rwa [qad] at this
 have HAL : Hid ((qo7 l k).length <= 100000) := xaa (by
  have h1 := qix l mt hmt (visL (psOf l) (bxL l) k)
  have h2 : (visL (psOf l) (bxL l) k).length * (mt + 1) <= 2 * l.length * (mt + 1) := Nat.mul_le_mul_right _ HVL
  show (chV l (visL (psOf l) (bxL l) k)).length <= 100000
  omega)
 have HCL : Hid ((csL ss l k).length <= 100000) := xaa (xau qlg HAL.out)
 have LN : Hid (∀ W, Below w.heap.size w W -> Calls Tryz.prog 21 #[V] W fun e w' => e = .returned (.int .i64 (l.length : Int)) /\ W = w') := xaa fun W b => qfo V _ W (h.len.below b)
 have VL : Hid (∀ W, Below w.heap.size w W -> Calls Tryz.prog 20 #[.agg #[.slice A1 ss.length c1, .slice A2 fs.length c2, .slice A3 at_.length c3], .int .i64 (l.length : Int)] W fun e w' => e = .returned (.bool true) /\ Below W.heap.size W w') := xaa fun W b => by
  have := qhp (.slice A1 ss.length c1) (.slice A2 fs.length c2) (.slice A3 at_.length c3) ss fs.length at_.length l.length W (hM.s.below b) (by omega) ⟨_, _, rfl⟩ ⟨_, _, rfl⟩
  rwa [hv] at this
 have CW : Hid (∀ (W : World) (u : Value), Below w.heap.size w W -> RwC W u (qo7 l k) -> Calls Tryz.prog 22 #[u, .slice A1 ss.length c1] W fun e w' => ∃ u, e = .returned (.tuple #[u, .int .i64 0]) /\ RwC w' u (csL ss l k) /\ Below W.heap.size W w') := xaa fun W u b hu => by
  refine (Wl.qh0 (qo7 l k) u ss (.slice A1 ss.length c1) W hu (hM.s.below b) (by have := HAL.out; omega) (hTb.below b)).mono fun e w' hp => ?_
  rcases hp with ⟨_, u', h1, h2, h3⟩ | ⟨h1, _⟩
  ·exact ⟨u', h1, h2.rw_, h3⟩
  ·rw [qwq hT hkl v1 fun s hs => (v3 s hs).1] at h1
   cases h1
 have CR : Hid (∀ (W : World) (u : Value), Below w.heap.size w W -> RwC W u (csL ss l k) -> Calls Tryz.prog 14 #[V, u] W fun e w' => ∃ u, e = .returned (.tuple #[u, .int .i64 0]) /\ RI w' u (qnk (psOf l) (csL ss l k)) /\ Below W.heap.size W w') := xaa fun W u b hu =>
  qom l V (csL ss l k) u W (h.below b) hT hu (by omega) HCL.out (qeb hT hkl)
 have CH : Hid (∀ (W : World) (u r : Value), Below w.heap.size w W -> RwC W u (csL ss l k) -> RI W r (qnk (psOf l) (csL ss l k)) -> Calls Tryz.prog 23 #[u, .slice A1 ss.length c1, r] W fun e w' => ∃ G, e = .returned (.tuple #[.slice (some ⟨G, 0, none⟩) (csL ss l k).length (csL ss l k).length, .int .i64 0]) /\ W.heap.size <= G /\ R8 w' (.slice (some ⟨G, 0, none⟩) (csL ss l k).length (csL ss l k).length) (hsL ss l k) /\ Below W.heap.size W w') := xaa fun W u r b hu hr =>
  qou ss (csL ss l k) (qnk (psOf l) (csL ss l k)) u (.slice A1 ss.length c1) r W hu (hM.s.below b) hr HCL.out (by rw [v1]; exact qvz hT hkl)
 have HTR := xaa h
 obtain ⟨g, gn, ge, cn, ce, rfl, _⟩ := h
 have HT := xaa hT
 have HMM := xaa hM
 have HV1 : Hid (ss.length = l.length /\ at_.length = l.length) := xaa ⟨v1, v2⟩
 have HF5 : Hid (∀ s ∈ ss, 0 <= s.a5 /\ s.a5 < fs.length /\ W64 s.a6) := xaa fun s hs => ⟨(v3 s hs).2.1, (v3 s hs).2.2.1, h64 s hs⟩
 have HF4 : Hid (∀ s ∈ ss, 0 <= s.a4 /\ s.a4 <= 64) := xaa fun s hs => (v3 s hs).2.2.2
 have HGL : Hid (∀ i, (l.getD i .zero).k = (l.getD i .zero).k) := xaa fun _ => rfl
 have HNX : Hid (∀ pre, (qfb (givL ss fs at_ l k) pre).nx <= (csL ss l k).length /\ (qfb (givL ss fs at_ l k) pre).out.length <= pre.length + (csL ss l k).length) := xaa fun pre => by
  have hk6 : ∀ c ∈ (givL ss fs at_ l k).cs, c.kind <= 6 := fun c hc => (qe4 hT hkl c hc).2.2
  have q1 := (qiz hk6 pre).2
  have q2 := qlp hk6 pre
  exact ⟨q1, xau q2 (by show _ <= pre.length + (givL ss fs at_ l k).cs.length; omega)⟩
 have HVL := xaa HVL
 obtain ⟨CS, hCS⟩ : ∃ CS, csL ss l k = CS := ⟨_, rfl⟩
 have HMEM : Hid (∀ (W0 : World) (cv hv : Value) (P : Nat), Below w.heap.size w W0 -> RwC W0 cv CS -> R8 W0 hv (hsL ss l k) -> Blk W0 P 69 #[.slice A1 ss.length c1, .slice A2 fs.length c2, .slice A3 at_.length c3] -> Mem W0.heap.size W0 cv hv (bcF A1 A2 A3 ss.length fs.length at_.length c1 c2 c3 P) (.agg #[.slice A1 ss.length c1, .slice A2 fs.length c2, .slice A3 at_.length c3]) P (givL ss fs at_ l k)) := xaa fun W0 cv hv P b hcv hhv hP => by
  refine ⟨fun W hW => by show RwC W cv (csL ss l k); rw [hCS]; exact hcv.below hW, fun W hW => Row.below hhv hW, qk9, HCL.out, fun c hc => (qe4 hT hkl c hc).2, fun j hj => ?_, fun c j F B1 L1 hc hcj hF W hW => ?_⟩
  ·match j, hj with
   | 0, _ => exact ⟨rfl, _, _, _, rfl, .inl ⟨by decide, rfl, rfl, rfl⟩⟩
   | 1, _ => exact ⟨rfl, _, _, _, rfl, .inl ⟨by decide, rfl, rfl, rfl⟩⟩
   | 2, _ => exact ⟨rfl, _, _, _, rfl, .inl ⟨by decide, rfl, rfl, rfl⟩⟩
   | 3, _ => exact ⟨rfl, _, _, _, rfl, .inl ⟨by decide, rfl, rfl, rfl⟩⟩
   | 4, _ => exact ⟨rfl, _, _, _, rfl, .inr (.inl ⟨rfl, rfl, rfl, rfl⟩)⟩
   | 5, _ => exact ⟨rfl, _, _, _, rfl, .inr (.inr (.inl ⟨rfl, rfl, rfl, rfl⟩))⟩
   | 6, _ => exact ⟨rfl, _, _, _, rfl, .inr (.inr (.inr ⟨rfl, rfl, rfl, rfl⟩))⟩
  ·obtain ⟨n1, n2⟩ := qeb hT hkl c hc
   have hMW := hM.below (b.trans (hW.mono b.size))
   have hn : c.node.toNat < ss.length := by omega
   have hna : c.node.toNat < at_.length := by omega
   show Calls _ F _ W fun e w' => e = .returned (.int .i64 (qpj ss fs at_ c)) /\ _
   rcases hF with ⟨h1, rfl, rfl, rfl⟩ | ⟨h1, rfl, rfl, rfl⟩ | ⟨h1, rfl, rfl, rfl⟩ | ⟨h1, rfl, rfl, rfl⟩
   ·have e : qpj ss fs at_ c = goF ss fs c.node c.r := by unfold qpj; rw [if_neg (by omega), if_neg (by omega), if_neg (by omega)]
    rw [e]
    exact qv2 _ _ _ ss fs at_ c W hMW n1 hn HF5.out
   ·have e : qpj ss fs at_ c = goF ss fs c.node 32 * (qpi ss c.node).a4 := by unfold qpj; rw [if_pos (by omega)]
    rw [e]
    exact qvy _ _ _ ss fs at_ c W hMW n1 hn HF5.out HF4.out
   ·have e : qpj ss fs at_ c = 0 := by unfold qpj; rw [if_neg (by omega), if_pos (by omega)]
    rw [e]
    exact qsa c W
   ·have e : qpj ss fs at_ c = at_.getD c.node.toNat 0 := by unfold qpj; rw [if_neg (by omega), if_neg (by omega), if_pos (by omega)]
    rw [e]
    exact qso P _ _ _ at_ c W (hP.kb hW) hMW.a n1 hna
 rw [hCS] at CW CR CH HNX |-
 have HCLL : Hid (CS.length <= 100000) := xaa (by rw [<- hCS]; exact HCL.out)
 obtain ⟨HS, hHS⟩ : ∃ HS, hsL ss l k = HS := ⟨_, rfl⟩
 rw [hHS] at CH HMEM
 have HCLN : Hid (HS.length = CS.length) := xaa (by rw [<- hHS, <- hCS]; exact qk9)
 have HGV : Hid ((givL ss fs at_ l k).cs = CS) := xaa hCS
 obtain ⟨GV, hGV⟩ : ∃ GV, givL ss fs at_ l k = GV := ⟨_, rfl⟩
 have HGB : Hid (∀ n, GV.bx n = decide ((l.getD n .zero).k = 2) /\ GV.st n = (l.getD n .zero).st /\ GV.en n = (l.getD n .zero).en) := xaa fun n => by rw [<- hGV]; exact ⟨rfl, rfl, rfl⟩
 rw [hGV] at HMEM HNX HGV
 obtain ⟨VS, hVS⟩ : ∃ VS, visL (psOf l) (bxL l) k = VS := ⟨_, rfl⟩
 have HVS := xaa hVS
 have HFIN : Hid (cellL ss fs at_ l k = (qfb GV VS).out) := xaa (by unfold cellL; rw [hGV, hVS])
 obtain ⟨n1, hn1⟩ : ∃ n1, ss.length = n1 := ⟨_, rfl⟩
 obtain ⟨n2, hn2⟩ : ∃ n2, fs.length = n2 := ⟨_, rfl⟩
 obtain ⟨n3, hn3⟩ : ∃ n3, at_.length = n3 := ⟨_, rfl⟩
 obtain ⟨nl, hnl⟩ : ∃ nl, l.length = nl := ⟨_, rfl⟩
 obtain ⟨nc, hnc⟩ : ∃ nc, CS.length = nc := ⟨_, rfl⟩
 rw [hn1] at VL CW CH HMEM |-
 rw [hn2, hn3] at VL HMEM |-
 rw [hnl] at LN VL
 rw [hnc] at CH HNX HCLL
 rw [hVS] at HVL
 have HNL := xaa hnl
 have HNC := xaa hnc
 obtain ⟨CEL, hCEL⟩ : ∃ CEL, cellL ss fs at_ l k = CEL := ⟨_, rfl⟩
 rw [hCEL] at HFIN |-
 obtain ⟨vb, hvb⟩ : ∃ vb, true = vb := ⟨_, rfl⟩
 rw [hvb] at VL
 have HVB := xaa hvb
 have hlen1 := hlen
 clear hT hk hi hU hTb hM hv h64 hmt hmb hmm v1 v2 v3 hCS hHS hGV hVS hn1 hn2 hn3 hnl hnc hCEL hvb HAL HCL HF5 HF4 HV1 HMM HGL
 refine (callsIn_wide (n := 7)).1 ?_
 refine callsIn_of_wp_marks Tryz.func10 rfl trivial ?_ rfl
 simp only [Tryz.ntmps10, List.size_toArray, List.length_cons, List.length_nil, Nat.reduceAdd, Nat.reduceSub, Array.replicate_succ, Array.replicate_zero, List.push_toArray, List.append_toArray, List.nil_append, List.cons_append]
 gi_wp2_with fail
 refine ⟨trivial, (callsIn_wide.2 CC.out).mono ?_⟩
 rintro e w1 ⟨u1, rfl, hO1, b1⟩
 have HR1 : Hid (RwC w1 u1 (qo7 l k)) := xaa hO1.rw_
 clear hO1
 gi_wp2_with (refine wpListIn_newS (fun _ => trivial) rfl rfl 69 15 rfl rfl (.tmp 37) rfl rfl _ alM (mzA A1 A2 A3 n1 n2 n3 c1 c2 c3) (fun _ => rfl) (fun _ => rfl) (iM _ _ _) rfl (oneM _ _ _ _ _ _ _ _ _) ?_; intro w2 b2 k2 B2; refine Mk.out ?_)
 constructor
 have KM : Hid (∀ W, Below w2.heap.size w2 W -> W.cell? ⟨w1.heap.size, 0, none⟩ = some (.slice A1 n1 c1) /\ W.cell? ⟨w1.heap.size, 1, none⟩ = some (.slice A2 n2 c2) /\ W.cell? ⟨w1.heap.size, 2, none⟩ = some (.slice A3 n3 c3)) := xaa fun W hW => by
  have q := B2.kb hW
  exact ⟨q.cell 0, q.cell 1, q.cell 2⟩
 have HR2 := xaa (HR1.out.below b2)
 have HB2 := xaa (xaq b1 b2)
 clear b1 b2 B2 k2 HR1
 gi_wp2_with fail
 refine qf3 (by kernel_rfl) (fun W => Below w2.heap.size w2 W) (below_drewN (xas) 1) (by kernel_rfl) (fun R hR => ?_)
 refine AllS.start ?_
 refine AllS.f KM.out ?_
 refine AllS.t ?_
 refine AllS.c (.int .i64 (nl : Int)) 21 #[.pointer (some ⟨g, 0, none⟩)] (fun W hSw => ?_) ?_
 ·exact (LN.out W (HB2.out.trans (hSw.mono HB2.out.size))).mono fun e w' h => ⟨h.1, h.2 ▸ hSw⟩
 refine AllS.c (.bool vb) 20 #[.agg #[.slice A1 n1 c1, .slice A2 n2 c2, .slice A3 n3 c3], .int .i64 (nl : Int)] (fun W hSw => ?_) ?_
 ·exact (VL.out W (HB2.out.trans (hSw.mono HB2.out.size))).mono fun e w' h => ⟨h.1, xaq hSw h.2⟩
 refine AllS.t ?_
 refine AllS.done (by kernel_rfl) (hR.out _ ?_) _
 clear hR R
 intro w3 b3
 have HB3 := xaa (xaq HB2.out b3)
 have HR3 := xaa (HR2.out.below b3)
 have Hb3 := xaa b3
 have hvb := HVB.out
 subst hvb
 clear b3 HR2
 gi_wp2_with fail
 refine ⟨trivial, (callsIn_wide.2 (CW.out _ _ HB3.out HR3.out)).mono ?_⟩
 rintro e w4 ⟨cv, rfl, hcv, b4⟩
 have HB4 := xaa (xaq HB3.out b4)
 have HCV4 := xaa hcv
 have Hb4 := xaa (xaq Hb3.out b4)
 clear hcv b4 HR3
 gi_wp2_with fail
 refine ⟨trivial, (callsIn_wide.2 (CR.out _ _ HB4.out HCV4.out)).mono ?_⟩
 rintro e w5 ⟨rv, rfl, hrv, b5⟩
 have HB5 := xaa (xaq HB4.out b5)
 have HCV5 := xaa (HCV4.out.below b5)
 have Hb5 := xaa (xaq Hb4.out b5)
 have HRV := xaa hrv
 clear hrv b5
 gi_wp2_with fail
 refine ⟨trivial, (callsIn_wide.2 (CH.out _ _ _ HB5.out HCV5.out HRV.out)).mono ?_⟩
 rintro e w6 ⟨G, rfl, hG, hh, b6⟩
 have HB6 := xaa (xaq HB5.out b6)
 have HCV6 := xaa (HCV5.out.below b6)
 have Hb6 := xaa (xaq Hb5.out b6)
 have HHV := xaa hh
 obtain ⟨A4, c4, hcv4⟩ := HCV6.out.form
 rw [HNC.out] at hcv4
 subst hcv4
 obtain ⟨q0, q1, q2⟩ := KM.out w6 Hb6.out
 clear hG hh b6 HRV HCV4 HCV5
 gi_wp2_with fail
 refine ⟨trivial, (callsIn_wide.2 (qg0 A1 A2 A3 n1 n2 n3 c1 c2 c3 w6)).mono ?_⟩
 rintro e w7 ⟨P, rfl, hP, hPB, b7⟩
 have HB7 := xaa (xaq HB6.out b7)
 have HCV7 := xaa (HCV6.out.below b7)
 have HHV7 : Hid (R8 w7 (.slice (some ⟨G, 0, none⟩) nc nc) HS) := xaa (Row.below HHV.out b7)
 have HME := xaa (HMEM.out w7 _ _ P HB7.out HCV7.out HHV7.out hPB)
 clear q0 q1 q2 hP hPB b7 HHV HCV6 HMEM KM
 gi_wp2_with (refine selOI (o := ⟨some 66, _, _, _, _, _⟩) ?_)
 constructor
 refine wpListIn_val (o := ⟨some 66, _, _, _, _, _⟩) (fun _ => trivial) (fun c hc => by cases hc) rfl _ rfl _ _ (qjg rfl rfl rfl rfl (bdRw A4 (some ⟨G, 0, none⟩) nc nc c4 nc A1 A2 A3 n1 n2 n3 c1 c2 c3 P _)) ?_
 refine wpListIn_newS (fun _ => trivial) rfl rfl 83 22 rfl rfl (.tmp 66) rfl rfl _ alRw (qde (.slice A4 nc c4) (.slice (some ⟨G, 0, none⟩) nc nc) (bcF A1 A2 A3 n1 n2 n3 c1 c2 c3 P) 0 0 (.slice none 0 0)) (fun _ => rfl) (fun _ => rfl) (iRw _ _ _ _ _ _) rfl (oneRw _ _ _ _ _ _ _ _ _ _ _ _ _ _ _ _) ?_
 intro w8 b8 k8 B8
 have HB8 := xaa b8
 have HBB8 := xaa B8
 have HCV8 := xaa (HCV7.out.below b8)
 clear b8 k8 B8
 gi_wp2_with fail
 refine ⟨trivial, (qkb _ _ _ _).mono ?_⟩
 rintro e w9 ⟨rfl, rfl⟩
 gi_wp2_with fail
 have XT := Boxed.new w8 28 (.pointer (some ⟨g, 0, none⟩))
 have XN := Boxed.new (w8.alloc (.cells #[.pointer (some ⟨g, 0, none⟩)] 28)) 3 (.int .i64 (k : Int))
 simp only [World.size_alloc] at XN
 have XT4 := XT.alloc (.cells #[.int .i64 (k : Int)] 3)
 have hs8 : w7.heap.size <= w8.heap.size := HB8.out.size
 have R9 : Blk ((w8.alloc (.cells #[.pointer (some ⟨g, 0, none⟩)] 28)).alloc (.cells #[.int .i64 (k : Int)] 3)) w7.heap.size 83 (qde (.slice A4 nc c4) (.slice (some ⟨G, 0, none⟩) nc nc) (bcF A1 A2 A3 n1 n2 n3 c1 c2 c3 P) 0 0 (.slice none 0 0)) := (HBB8.out.alloc _).alloc _
 have b4 : Below w7.heap.size w7 ((w8.alloc (.cells #[.pointer (some ⟨g, 0, none⟩)] 28)).alloc (.cells #[.int .i64 (k : Int)] 3)) := (HB8.out.alloc hs8 _).alloc (by simp; omega) _
 obtain ⟨B, hB⟩ : ∃ B, w8.heap.size = B := ⟨_, rfl⟩
 rw [hB] at XT4 XN hs8 |-
 obtain ⟨Wm, hWm⟩ : ∃ Wm, (w8.alloc (.cells #[.pointer (some ⟨g, 0, none⟩)] 28)).alloc (.cells #[.int .i64 (k : Int)] 3) = Wm := ⟨_, rfl⟩
 rw [hWm] at XT4 XN b4 R9 |-
 have hsm : w7.heap.size < Wm.heap.size := R9.lt
 clear hWm XT hB
 have STA := xaa (JR.sta (n0 := w7.heap.size) (base := w7.heap.size) (R := w7.heap.size) (xat) (xat) (.slice A4 nc c4) (.slice (some ⟨G, 0, none⟩) nc nc) (bcF A1 A2 A3 n1 n2 n3 c1 c2 c3 P) GV)
 have HTR7 := xaa (HTR.out.below HB7.out)
 obtain ⟨FB, hFB⟩ : ∃ FB, bcF A1 A2 A3 n1 n2 n3 c1 c2 c3 P = FB := ⟨_, rfl⟩
 rw [hFB] at HME R9 STA HBB8
 clear hFB
 refine qbk rfl (by omega) (gf := 49) (lb := #[.pointer (some ⟨B, 0, none⟩), .pointer (some ⟨B + 1, 0, none⟩)]) rfl trivial (enters_of Tryz.func49 (by kernel_rfl) rfl)
  (encs := qs7 l) (fun _ => rfl) (fun rdy pre X => Ist (fun pre W => RowSt w7.heap.size w7.heap.size (.slice A4 nc c4) (.slice (some ⟨G, 0, none⟩) nc nc) FB (qfb GV pre) W) w7 (Wm.heap.size + 1) (.deferred (some [])) rdy pre X) (Kps (SL (SR w7.heap.size) (Wm.heap.size + 1))) (fun xs => xs = VS) VS.length
  (fun _ _ _ h => h.loop) ?round ?iter ?done
 case iter =>
  intro rdy hrd HY
  have bd : Below Wm.heap.size Wm ((Wm.alloc (.deferred (some []))).alloc rdy) := ((Below.refl _ Wm).alloc (xat) _).alloc (by simp) _
  have hL : ((Wm.alloc (.deferred (some []))).alloc rdy).heap[Wm.heap.size + 1]? = some rdy := by
   have := World.alloc_heap_new (Wm.alloc (.deferred (some []))) rdy
   rwa [World.size_alloc] at this
  have hD : ((Wm.alloc (.deferred (some []))).alloc rdy).heap[Wm.heap.size]? = some (.deferred (some [])) := (Below.heap_alloc _ _ _ (by simp)).trans (World.alloc_heap_new Wm _)
  have hI0 : Ist (fun pre W => RowSt w7.heap.size w7.heap.size (.slice A4 nc c4) (.slice (some ⟨G, 0, none⟩) nc nc) FB (qfb GV pre) W) w7 (Wm.heap.size + 1) (.deferred (some [])) rdy [] ((Wm.alloc (.deferred (some []))).alloc rdy) :=
   ⟨⟨.slice none 0 0, R9.kb bd, World.ownsRow_nil _ _ _ _⟩, hL, hD, b4.trans (bd.mono b4.size)⟩
  have hV := qho l (.pointer (some ⟨g, 0, none⟩)) (Ist.frm STA.out HTR7.out) HT.out hlen1 HY l.length k [] ((Wm.alloc (.deferred (some []))).alloc rdy) (by omega) hkl hI0 (by rw [HVS.out]; simp)
  rw [HVS.out] at hV
  exact (qkc _ B (B + 1) (Wm.heap.size + 1) g (k : Int) ((Wm.alloc (.deferred (some []))).alloc rdy) (fun X => Ist (fun pre W => RowSt w7.heap.size w7.heap.size (.slice A4 nc c4) (.slice (some ⟨G, 0, none⟩) nc nc) FB (qfb GV pre) W) w7 (Wm.heap.size + 1) (.deferred (some [])) rdy VS X)
   ((bd.cell (p := ⟨B, 0, none⟩) XT4.lt).trans XT4.cell) ((bd.cell (p := ⟨B + 1, 0, none⟩) XN.lt).trans XN.cell) (hV.mono fun e X h => ⟨h.1, by simpa using h.2.1⟩)).mono fun e X h => ⟨h.1, _, rfl, h.2⟩
 case round =>
  rintro rdy bsy m pre ⟨xn, xb⟩ X hr hb hI hN
  obtain ⟨y, hy⟩ : ∃ y, l.getD xn .zero = y := ⟨_, rfl⟩
  have hen : qs7 l (xn, xb) = #[.agg #[.int .i64 (xn : Int), .bool xb], .agg y.cells] := by unfold qs7; rw [hy]
  have HSN := xaa (qgu GV pre (xn, xb))
  have HYG : Hid (GV.bx xn = decide (y.k = 2) /\ GV.st xn = y.st /\ GV.en xn = y.en) := xaa (by rw [<- hy]; exact HGB.out xn)
  rw [hen]
  clear hen hy
  gi_wp2_with (refine nwNIn (fun _ => trivial) rfl rfl 24 rfl rfl (.tmp 71) rfl rfl y (fun _ => rfl) (fun _ => rfl) ?_; intro w_5 b5 k5 B5; refine Mk.out ?_)
  constructor
  have bS := xar X (.cells #[.int .i64 (xn : Int), .bool xb] 88)
  have BS := (Blk.new X 88 #[.int .i64 (xn : Int), .bool xb]).kb b5
  have b05 := xaq bS b5
  rw [World.size_alloc] at B5
  have HLX := hI.lt
  gi_wp2_with fail
  refine ⟨(b05.block _ HLX).trans hI.loop, ?_⟩
  obtain ⟨j6, s6, z6, o6, m6⟩ := hI.ahead STA.out hr b05 bsy
  have S6 : Blk (w_5.putObj (Wm.heap.size + 1) bsy) X.heap.size 88 #[.int .i64 (xn : Int), .bool xb] := (o6 _ (by omega)).trans BS
  have N6 : Blk (w_5.putObj (Wm.heap.size + 1) bsy) (X.heap.size + 1) 50 y.cells := (o6 _ (by omega)).trans B5
  have B6 : Below w7.heap.size w7 (w_5.putObj (Wm.heap.size + 1) bsy) := hI.below.trans ((b05.mono hI.below.size).trans (m6.below (xau hI.below.size b05.size) fun k hk => by rw [hk]; omega))
  have HBEH := xaa (fun (pre' : List (Nat × Bool)) (w8 : World) (h8 : RowSt w7.heap.size w7.heap.size (.slice A4 nc c4) (.slice (some ⟨G, 0, none⟩) nc nc) FB (qfb GV pre') w8) (k8 : Kps (SR w7.heap.size) (w_5.putObj (Wm.heap.size + 1) bsy) w8) => hI.behind STA.out (by omega) (by omega) hr rfl b05 hb h8 k8)
  obtain ⟨W6, hW6⟩ : ∃ W6, w_5.putObj (Wm.heap.size + 1) bsy = W6 := ⟨_, rfl⟩
  rw [hW6] at j6 S6 N6 B6 HBEH |-
  have s0 : W6.cell? ⟨X.heap.size, 0, none⟩ = some (.int .i64 (xn : Int)) := S6.cell 0
  have s1 : W6.cell? ⟨X.heap.size, 1, none⟩ = some (.bool xb) := S6.cell 1
  have L6 := N6.lies
  have CST := xaa (qsb w7.heap.size w7.heap.size w7.heap.size (.slice A4 nc c4) (.slice (some ⟨G, 0, none⟩) nc nc) FB _ P GV xn xb y (qfb GV pre) W6 j6 (xat) (xat) B6.size B6.size (HME.out.below B6) (by rw [HGV.out, HNC.out]; exact (HNX.out pre).1) (by
   have h1 := (HNX.out pre).2
   have h2 := HVL.out
   have h3 := HCLL.out
   have h4 : GV.cs.length = nc := by rw [HGV.out, HNC.out]
   rw [h4]
   have : pre.length < 2000 := by have := HNL.out; omega
   omega) HYG.out.1 HYG.out.2.1 HYG.out.2.2)
  clear bS BS b05 b5 k5 B5 hI s6 z6 o6 m6 hW6 S6 N6 j6 B6
  gi_wp2_with (refine ldNIn (fun _ => trivial) rfl (.tmp 24) rfl _ rfl y L6 ?_)
  refine ⟨trivial, fun h => (by cases h), (CallsIn.inRound _ (callsIn_wide.2 CST.out)).mono ?_⟩
  rintro e w_7 ⟨rfl, hR7, k7⟩
  have HRE := xaa (HBEH.out (pre ++ [(xn, xb)]) w_7 (by rw [HSN.out]; exact hR7) k7)
  clear CST hR7 k7 s0 s1 L6 HBEH
  gi_wp2
  first | exact HRE.out | exact ⟨rfl, HRE.out⟩
 case done =>
  intro rdy exh xs X hr he hxs hI
  subst hxs
  obtain ⟨o, hBo, hOo⟩ := hI.st
  have hLX := hI.lt
  have g9 := grownBy_putObj' X (Wm.heap.size + 1) exh
  have nR : ¬ w7.heap.size = Wm.heap.size + 1 := by omega
  have hB9 : Blk (X.putObj (Wm.heap.size + 1) exh) w7.heap.size 83 _ := (World.putObj_heap_other nR).trans hBo
  have nL : ¬ o.ownBlock = some (Wm.heap.size + 1) := fun e => by
   obtain ⟨_, cs, fz, h2⟩ := qf6 hOo e
   rw [hI.loop] at h2
   injection h2 with h2
   rw [h2] at hr
   cases hr
  have own9 := hOo.kept g9 (.inr fun e => nL e)
  have hD9 : (X.putObj (Wm.heap.size + 1) exh).heap[Wm.heap.size]? = some (.deferred (some [])) := (World.putObj_heap_other (by omega)).trans hI.defd
  have b9 : Below w7.heap.size w7 (X.putObj (Wm.heap.size + 1) exh) := hI.below.grown g9 (by have := hI.below.size; omega) (fun k e => by injection e with e; omega)
  obtain ⟨X9, hX9⟩ : ∃ X9, X.putObj (Wm.heap.size + 1) exh = X9 := ⟨_, rfl⟩
  rw [hX9] at hB9 own9 hD9 b9 |-
  have HOWN9 := xaa own9
  have HD9 := xaa hD9
  have HBX9 := xaa b9
  have KO : Hid (∀ W, Below X9.heap.size X9 W -> W.cell? ⟨w7.heap.size, 18, none⟩ = some o) := xaa fun W hW => (hB9.kb hW).cell 18
  clear hX9 g9 hBo hOo own9 hI hB9 hD9 b9
  gi_wp2_with fail
  refine qf3 (by kernel_rfl) (fun W => Below X9.heap.size X9 W) (below_drewN (xas) 1) (by kernel_rfl) (fun R hR => ?_)
  refine AllS.start ?_
  iterate 2 refine AllS.t ?_
  refine AllS.f KO.out ?_
  iterate 3 refine AllS.t ?_
  refine AllS.done (by kernel_rfl) (hR.out _ ?_) _
  clear hR R
  intro w10 b10
  have hD10 : w10.heap[Wm.heap.size]? = some (.deferred (some [])) := (b10.block _ (xag HD9.out).1).trans HD9.out
  have own10 := qcd (S := fun _ => False) HOWN9.out (xap b10) fun _ _ => id
  have HB10 := xaa (HBX9.out.trans (b10.mono HBX9.out.size))
  clear b10 KO
  gi_wp2_with fail
  refine ⟨by simp, .inl ⟨_, _, rfl, run_takeDeferred hD10, ?_⟩⟩
  have ga := grownBy_putObj' w10 Wm.heap.size (.deferred none)
  have bF : Below w7.heap.size w7 (w10.putObj Wm.heap.size (.deferred none)) := HB10.out.grown ga (by have := HB10.out.size; omega) (fun k e => by injection e with e; omega)
  refine ⟨_, results_tmp3 rfl _ _ _, _, _, rfl, HCV7.out.below bF, ?_, HB7.out.trans (bF.mono HB7.out.size)⟩
  rw [HFIN.out]
  have own11 := own10.kept ga (.inr fun e => by
   obtain ⟨_, cs, fz, h2⟩ := qf6 own10 e
   rw [hD10] at h2
   cases h2)
  exact qut own11
end Ce
namespace Ce
open Go.Shelf
theorem qr7 {l m : List Cl} {k : Nat} (h : ∀ i, i < k -> l[i]? = m[i]?) (hl : l.length = k) (hm : m.length = k) : l = m := by
 apply List.ext_getElem?
 intro i
 by_cases hi : i < k
 ·exact h i hi
 ·rw [List.getElem?_eq_none_iff.2 (by omega), List.getElem?_eq_none_iff.2 (by omega)]
theorem qey {l : List Cl} {i : Nat} (h : i < l.length) : ∃ x, l[i]? = some x := ⟨_, xac h⟩
theorem cl_eq (c d : Cl) : c = d ↔ c.k = d.k /\ c.node = d.node /\ c.ch = d.ch /\ c.adv = d.adv /\ c.sf = d.sf /\ c.em = d.em := by cases c; cases d; simp
theorem cl_dec (c d : Cl) : decide (c = d) = (decide (c.k = d.k) && (decide (c.node = d.node) && (decide (c.ch = d.ch) && (decide (c.adv = d.adv) && (decide (c.sf = d.sf) && decide (c.em = d.em)))))) := by
 simp only [<- qgk]
 rw [decide_eq_decide]
 exact cl_eq c d
theorem neCl (c d : Cl) (w : World) (b : Bool) (hb : decide (c = d) = b) : (binOp .neq 39 (.agg (clA c)) (.agg (clA d))).run Tryz.prog w = .ok (.bool (!b)) w := by
 subst hb
 have u1 := Tryz.underlying5
 have u2 := Tryz.underlying3
 have u3 := Tryz.underlying2
 have u4 := Tryz.underlying4
 rw [cl_dec]
 unfold clA
 rw [run_neq_struct, show (10000 : Nat) = 9999 + 1 from rfl, run_equalIn_agg w 9999 39 _ _ uCl (by kernel_rfl)]
 simp only [Program.fieldsOf, Tryz.underlying39]
 go_simp
 simp only [qxl, Bool.or_false]
theorem neClb (c d : Cl) (b : Bool) (hb : decide (c = d) = b) : ∀ w, (binOp .neq 39 (.agg (clA c)) (.agg (clA d))).run Tryz.prog w = .ok (.bool (!b)) w := fun w => neCl c d w b hb
theorem qsc (v1 v2 : Value) (l m : List Cl) (w : World) (h1 : qkj w v1 l) (h2 : qkj w v2 m) (hn : l.length <= 1048576) :
 Calls Tryz.prog 16 #[v1, v2] w fun e w' => e = .returned (.bool (decide (l = m))) /\ Below w.heap.size w w' := by
 have H1 := xaa h1
 have H2 := xaa h2
 obtain ⟨A, c, rfl⟩ := h1.form
 obtain ⟨B, c2, rfl⟩ := h2.form
 by_cases hlm : l.length = m.length
 ·obtain ⟨b0, hb0⟩ : ∃ b, decide (l = m) = b := ⟨_, rfl⟩
  have HBB := xaa hb0
  rw [hb0]
  obtain ⟨n, hl⟩ : ∃ n, l.length = n := ⟨_, rfl⟩
  have HL := xaa hl
  have HM : Hid (m.length = n) := xaa (hlm.symm.trans hl)
  rw [hl] at hn H1 hlm |-
  rw [<- hlm] at H2 |-
  clear h1 h2 hl hlm hb0
  go_enter Tryz.func16, Tryz.ntmps16
  go_wp2_with fail
  go_loopg [5] n (fun kx s5 wr => ∃ k : Nat, s5 = .int .i64 k /\ k <= n /\ kx = n - k /\ Below w.heap.size w wr /\ Hid (∀ i, i < k -> l[i]? = m[i]?))
  case atStart => exact ⟨0, rfl, by omega, rfl, xas, xaa fun i hi => by omega⟩
  case round =>
   obtain ⟨k, rfl, hk, rfl, bel, HI⟩ := hrel
   by_cases hlt : k < n
   ·have hz : (k : Int) < n := by omega
    obtain ⟨x, hx⟩ := qey (l := l) (i := k) (by rw [HL.out]; exact hlt)
    obtain ⟨y, hy⟩ := qey (l := m) (i := k) (by rw [HM.out]; exact hlt)
    obtain ⟨a1, cap1, o1, hv, _, ha1, hL1⟩ := H1.out.get bel hx
    rw [HL.out] at hv
    injection hv with hv1 hv2 hv3
    subst hv1 hv3
    obtain ⟨a2, cap2, o2, hv, _, ha2, hL2⟩ := H2.out.get bel hy
    rw [HM.out] at hv
    injection hv with hv1 hv4 hv3
    subst hv1 hv3
    obtain ⟨b, hb⟩ : ∃ b, decide (x = y) = b := ⟨_, rfl⟩
    have HNE := xaa (neClb x y b hb)
    have HX := xaa hx
    have HY := xaa hy
    have HB := xaa hb
    clear hv2 hv4 hx hy hb
    go_wp2_with fail
    refine qax (by kernel_rfl) (fun W => Below wr.heap.size wr W) (below_drewN (xas) 1) (fun R hR => ?_)
    refine AllS.start ?_
    iterate 3 refine AllS.t ?_
    refine AllS.r (.agg (clA x)) (fun W hSw => ?_) ?_
    ·(try dsimp only at hSw)
     exact rdCl (.tmp 19) rfl _ rfl x (ha1 ▸ hL1.below hSw)
    iterate 3 refine AllS.t ?_
    refine AllS.r (.agg (clA y)) (fun W hSw => ?_) ?_
    ·(try dsimp only at hSw)
     exact rdCl (.tmp 23) rfl _ rfl y (ha2 ▸ hL2.below hSw)
    refine AllS.r (.bool (!b)) (fun W hSw => ?_) ?_
    ·(try dsimp only at hSw)
     have hne := HNE.out
     go_simp
    refine AllS.done (by kernel_rfl) (hR.out _ ?_) _
    clear hR R
    intro w2 b2
    cases b with
    | true =>
      have hxy : x = y := of_decide_eq_true HB.out
      have HI2 : Hid (∀ i, i < k + 1 -> l[i]? = m[i]?) := xaa fun i hi => by
       by_cases e : i = k
       ·rw [e, HX.out, HY.out, hxy]
       ·exact HI.out i (by omega)
      clear hxy hL1 hL2 ha1 ha2
      go_wp2_with fail
      go_roundg (n - (k + 1))
      case measure => omega
      case rel => exact ⟨k + 1, by go_num, by omega, rfl, bel.trans (b2.mono bel.size), HI2⟩
    | false =>
      have HF : Hid (b0 = false) := xaa (by
       rw [<- HBB.out]
       refine decide_eq_false fun h => ?_
       rw [h, HY.out] at HX
       have := xaw HX.out
       exact absurd this.symm (of_decide_eq_false HB.out))
      clear hL1 hL2 ha1 ha2
      go_wp2_with fail
      go_ret
      exact ⟨qak HF.out.symm, bel.trans (b2.mono bel.size)⟩
   ·obtain rfl : k = n := by omega
    have HT : Hid (b0 = true) := xaa (by
     rw [<- HBB.out]
     exact decide_eq_true (qr7 HI.out HL.out HM.out))
    go_wp2_with fail
    go_ret
    exact ⟨qak HT.out.symm, bel⟩
 ·rw [decide_eq_false (fun h => hlm (by rw [h]))]
  obtain ⟨n, hl⟩ : ∃ n, l.length = n := ⟨_, rfl⟩
  obtain ⟨p, hp⟩ : ∃ n, m.length = n := ⟨_, rfl⟩
  rw [hl, hp] at hlm
  rw [hl, hp]
  rw [hl] at hn
  have hne : ((n : Int) == (p : Int)) = false := by simpa using (by omega : ¬ (n : Int) = p)
  clear H1 H2 h1 h2 hl hp
  go_enter Tryz.func16, Tryz.ntmps16
  go_wp2_with fail
  go_ret
  exact ⟨rfl, xas⟩
end Ce
end Go.Proofs.YtmceblkjbpbcoaaGreatDoor
