/- Contracts of layers below. -/
import Derived.Test.YtmceblkjbpbcoaaGreatDoorPCeW
import Derived.Test.YtmceblkjbpbcoaaGreatDoorPArNewB
import Derived.Test.YtmceblkjbpbcoaaGreatDoorPY5
import Derived.ChangeOld
import Derived.Test.YtmceblkjbpbcoaaGreatDoorPBase
namespace Go.Proofs.YtmceblkjbpbcoaaGreatDoor
set_option maxRecDepth 100000
set_option maxHeartbeats 4000000
open Go.ChangeShapes Go.WideShapes Go.ChangeAt Go.RowKit
namespace Ce
open Go.Shelf
open Ar
open Wh (Cr)
open Fo (Fnt)
structure Tbs (w : World) : Prop where
 ar : Ar.Tab w
 cl : Go.Proofs.YtmceblkjbpbcoaaGreatDoor.Tab w
 ut : Ut.Tab w
theorem Tbs.below {w w' : World} (h : Tbs w) (b : Below w.heap.size w w') : Tbs w' := ⟨h.ar.below h.ar.pos b, h.cl.below b, h.ut.below b⟩
def exL : List Nod := [{ Nod.zero with p := -1 }, { Nod.zero with k := 1, t := ⟨#[97]⟩ }, { Nod.zero with k := 2, st := 64, en := 32 }, { Nod.zero with k := 1, p := 2, t := ⟨#[32, 98]⟩ }, { Nod.zero with k := 3 }]
def exS : Sty := ⟨0, 0, 0, 0, 8, 0, 1024, 0, 0⟩
def q0d : List Sty := List.replicate 5 exS
def exF : Fnt := ⟨0, 0, 0, 0, 512, .slice none 0 0, []⟩
def exA : List Int := List.replicate 5 0
def exW : List Cl := [⟨0, 1, 0, 512, false, false⟩, ⟨7, 2, -1, 64, false, false⟩, ⟨1, 3, 1, 512, false, false⟩, ⟨0, 3, 2, 512, true, false⟩, ⟨8, 2, -1, 32, false, false⟩, ⟨5, 4, 3, 0, false, false⟩]
theorem qxs : chkT exL = 0 := by decide +kernel
theorem ex_cs : csL q0d exL 0 = [⟨97, 1, 0, 1, 0⟩, ⟨32, 3, 0, 1, 1⟩, ⟨98, 3, 1, 1, 0⟩, ⟨0, 4, 0, 0, 5⟩] := by decide +kernel
theorem qvo : cellL q0d [exF] exA exL 0 = exW := by decide +kernel
theorem qvn : validB q0d 1 5 5 = true := by decide +kernel
theorem q0c : Ar.Good exL := (qci exL).1 qxs
theorem wf_exC {l : List Nod} (h : (l.all fun x => decide (0 <= x.k) && decide (x.k <= 255) && decide (x.d.n < 65536) && decide (x.t.size <= 9223372036854775807) && decide (0 <= x.vk)) = true) : WfL l := fun i x hx => by
 have := xam h x (xav hx)
 simp only [Bool.and_eq_true, decide_eq_true_eq] at this
 obtain ⟨⟨⟨⟨h1, h2⟩, h3⟩, h4⟩, h5⟩ := this
 exact ⟨h1, h2, h3, h4, h5⟩
def stC (i : Nat) : Array Value := (((List.replicate i exS ++ List.replicate (5 - i) Sty.zero).map fun s => s.cells.toList).flatten).toArray
theorem exF_wf : exF.Wf := ⟨⟨by decide, by decide⟩, ⟨by decide, by decide⟩, ⟨by decide, by decide⟩, ⟨by decide, by decide⟩, ⟨by decide, by decide⟩, fun y hy => (by cases hy), by decide⟩
theorem ex_fs {w : World} {g : Nat} (h : Blk w g 64 exF.cells) : Fs w (.slice (some ⟨g, 0, none⟩) 1 1) [exF] :=
 ⟨qee (rows := rgFs [exF]) h (fun x hx => by obtain ⟨F, _, rfl⟩ := List.mem_map.1 hx; rfl) rfl rfl, fun F hF => by
  rw [List.mem_singleton.1 hF]
  exact ⟨.inl ⟨rfl, rfl⟩, exF_wf⟩⟩
theorem ex_ss {w : World} {g : Nat} (h : Blk w g 44 (stC 5)) : Ss w (.slice (some ⟨g, 0, none⟩) 5 5) q0d :=
 qee h (fun x hx => by obtain ⟨s, _, rfl⟩ := List.mem_map.1 hx; rfl) rfl rfl
theorem ex_ai {w : World} {g : Nat} (h : Blk w g 2 (qa0 5 fun _ => .int .i64 0)) : Ai w (.slice (some ⟨g, 0, none⟩) 5 5) exA :=
 qb4 h rfl fun j x hx => by
  have hj := (xah hx).1
  have hj5 : j < 5 := by simpa [exA] using hj
  rw [xan] at hx
  rcases (show j = 0 \/ j = 1 \/ j = 2 \/ j = 3 \/ j = 4 by omega) with rfl | rfl | rfl | rfl | rfl <;> (injection hx)
theorem qkf (w : World) :
 Calls Tryz.prog 19 #[] w fun e w' => ∃ v, e = .returned v /\ Ns w' v exL /\ Below w.heap.size w w' := by
 go_enter Tryz.func19, Tryz.ntmps19
 go_wp2_with fail
 go_ret
 refine ⟨_, rfl, ?_, xar w _⟩
 exact qee (k := 22) (rows := exL.map fun x => x.cells.toList) (Blk.new w 50 _) (fun x hx => by obtain ⟨s, _, rfl⟩ := List.mem_map.1 hx; rfl) rfl rfl
theorem mk_ss (W : World) : (Instr.makeSlice 23 (.int .i64 5) (.int .i64 5)).run Tryz.prog W = .ok (.slice (some ⟨W.heap.size, 0, none⟩) 5 5) (W.alloc (.cells (stC 0) 44)) := by kernel_rfl
theorem mk_ai (W : World) : (Instr.makeSlice 25 (.int .i64 5) (.int .i64 5)).run Tryz.prog W = .ok (.slice (some ⟨W.heap.size, 0, none⟩) 5 5) (W.alloc (.cells (qa0 5 fun _ => .int .i64 0) 2)) := by kernel_rfl
theorem bs_fn (W : World) : (Instr.buildSlice 24 1 #[(0, .agg exF.cells)]).run Tryz.prog W = .ok (.slice (some ⟨W.heap.size, 0, none⟩) 1 1) (W.alloc (.cells exF.cells 64)) := by kernel_rfl
theorem spl_st (i : Nat) (h : i < 5) : spl (stC i) (i * 9) exS.cells.toList = stC (i + 1) :=
 match i, h with
 | 0, _ => rfl
 | 1, _ => rfl
 | 2, _ => rfl
 | 3, _ => rfl
 | 4, _ => rfl
theorem qsl (w : World) (hT : Tbs w) :
 Calls Tryz.prog 9 #[] w fun e w' => e = .returned (.bool true) /\ Below w.heap.size w w' := by
 have CX := xaa (qkf w)
 have HT := xaa hT
 have hTre := xaa q0c.tre
 have CN : Hid (∀ (W : World) (v : Value), Below w.heap.size w W -> Ns W v exL -> Calls Tryz.prog 18 #[v] W fun e w' => ∃ p, e = .returned (.tuple #[.pointer (some p), .int .i64 0]) /\ Tr w' (.pointer (some p)) exL /\ Below W.heap.size W w') := xaa fun W v b h => by
  refine (qm6 exL v W h (wf_exC (by decide +kernel)) (HT.out.below b).ar).mono fun e w' hp => ?_
  rcases hp with ⟨_, p, h1, h2, h3⟩ | ⟨h1, _⟩
  ·obtain ⟨g, gn, ge, cn, ce, rfl, h4⟩ := h2
   exact ⟨_, h1, ⟨g, gn, ge, cn, ce, rfl, h4⟩, h3⟩
  ·exact absurd qxs h1
 have hmt : ∀ x ∈ exL, x.t.size <= 2 := by decide +kernel
 have HMT := xaa hmt
 have CC0 : Hid (∀ (W : World) (p : Addr) (g1 g2 g3 : Nat), Below w.heap.size w W -> Tr W (.pointer (some p)) exL -> Blk W g1 44 (stC 5) -> Blk W g2 64 exF.cells -> Blk W g3 2 (qa0 5 fun _ => .int .i64 0) -> Calls Tryz.prog 10 #[.pointer (some p), .int .i64 0, .slice (some ⟨g1, 0, none⟩) 5 5, .slice (some ⟨g2, 0, none⟩) 1 1, .slice (some ⟨g3, 0, none⟩) 5 5] W fun e w' => ∃ A c u2, e = .returned (.tuple #[.slice (some A) 4 c, u2, .int .i64 0]) /\ (∀ W', Below w'.heap.size w' W' -> W'.cell? ((A.add (1 * 5)).add 4) = some (.int .u8 1) /\ W'.cell? ((A.add (3 * 5)).add 4) = some (.int .u8 5)) /\ qkj w' u2 exW /\ Below W.heap.size W w') := xaa fun W p g1 g2 g3 b h1 h2 h3 h4 => by
  have hM : Ms W (.slice (some ⟨g1, 0, none⟩) q0d.length 5) (.slice (some ⟨g2, 0, none⟩) [exF].length 1) (.slice (some ⟨g3, 0, none⟩) exA.length 5) q0d [exF] exA := ⟨ex_ss h2, ex_fs h3, ex_ai h4⟩
  refine (qkh (.pointer (some p)) exL 0 { Nod.zero with p := -1 } 2 _ _ _ 5 1 5 q0d [exF] exA W h1 hTre.out (by decide) HMT.out (by decide) (by decide) rfl rfl (HT.out.below b).ut (HT.out.below b).cl hM qvn (fun s hs => by rw [List.eq_of_mem_replicate hs]; exact ⟨by decide, by decide⟩)).mono fun e w' ⟨u1, u2, q1, q2, q3, q4⟩ => ?_
  rw [ex_cs] at q2
  rw [qvo] at q3
  obtain ⟨a, c, o, e1, _, e2, e3⟩ := q2.get (xas) (i := 1) (s := ⟨32, 3, 0, 1, 1⟩) rfl
  rw [e1] at q1
  refine ⟨a, c, u2, q1, fun W' b' => ?_, q3, q4⟩
  obtain ⟨a1, c1, o1, e1', _, e2', e3'⟩ := q2.get b' (i := 1) (s := ⟨32, 3, 0, 1, 1⟩) rfl
  obtain ⟨a2, c2, o2, f1', _, f2', f3'⟩ := q2.get b' (i := 3) (s := ⟨0, 4, 0, 0, 5⟩) rfl
  rw [e1] at e1' f1'
  injection e1' with e4 _ _
  injection e4 with e4
  subst e4
  injection f1' with f4 _ _
  injection f4 with f4
  subst f4
  constructor
  ·rw [e2']; exact e3' 4 _ rfl
  ·rw [f2']; exact f3' 4 _ rfl
 have CC1 : Hid (∀ (W : World) (p : Addr), Tr W (.pointer (some p)) exL -> Calls Tryz.prog 13 #[.pointer (some p), .int .i64 1] W fun e w' => e = .returned (.tuple #[.slice none 0 0, .int .i64 2]) /\ Below W.heap.size W w') := xaa fun W p h => qht _ exL 1 { Nod.zero with k := 1, t := ⟨#[97]⟩ } W h rfl rfl
 have CC9 : Hid (∀ (W : World) (p : Addr) (sv fv av : Value), Tr W (.pointer (some p)) exL -> Calls Tryz.prog 10 #[.pointer (some p), .int .i64 9, sv, fv, av] W fun e w' => e = .returned (.tuple #[.slice none 0 0, .slice none 0 0, .int .i64 7]) /\ Below W.heap.size W w') := xaa fun W p sv fv av h => qgo _ 9 sv fv av 7 (by decide) W (qkg _ 5 9 W h.len (by decide))
 have CS : Hid (∀ (W : World) (u1 u2 : Value), qkj W u1 exW -> qkj W u2 exW -> Calls Tryz.prog 16 #[u1, u2] W fun e w' => e = .returned (.bool true) /\ Below W.heap.size W w') := xaa fun W u1 u2 h1 h2 => by
  have := qsc u1 u2 exW exW W h1 h2 (by decide)
  rwa [decide_eq_true rfl] at this
 clear hT hmt
 go_enter Tryz.func9, Tryz.ntmps9
 go_wp2_with fail
 refine CX.out.mono ?_
 rintro e w1 ⟨v0, rfl, hN, b1⟩
 go_wp2_with fail
 refine (CN.out _ _ b1 hN).mono ?_
 rintro e w2 ⟨p, rfl, hTr, b2⟩
 have HB2 := xaa (xaq b1 b2)
 have HTr := xaa hTr
 clear b1 b2 hN hTr CN CX
 have hmk := mk_ss w2
 go_wp2_with fail
 have B3 := Blk.new w2 44 (stC 0)
 have b3 := xar w2 (.cells (stC 0) 44)
 obtain ⟨w3, hw3⟩ : ∃ w3, w2.alloc (.cells (stC 0) 44) = w3 := ⟨_, rfl⟩
 rw [hw3] at B3 b3 |-
 clear hw3 hmk
 go_loopg [4] 5 (fun kx s4 wr => ∃ i : Nat, s4 = .int .i64 (i : Int) /\ i <= 5 /\ kx = 5 - i /\ Hid (Below w2.heap.size w2 wr) /\ Hid (Blk wr w2.heap.size 44 (stC i)))
 case atStart => exact ⟨0, by go_num, by omega, rfl, xaa b3, xaa B3⟩
 case round =>
  obtain ⟨i, rfl, hi, rfl, JB, JR⟩ := hrel
  clear B3 b3
  by_cases h1 : i < 5
  ·have JRo := JR.out
   have hsp := xaa (spl_st i h1)
   have hsz : i * 9 + exS.cells.size <= (stC i).size := by
    rcases (show i = 0 \/ i = 1 \/ i = 2 \/ i = 3 \/ i = 4 by omega) with rfl | rfl | rfl | rfl | rfl <;> decide
   have hiz : (i : Int) < 5 := by omega
   go_wp2_with (refine qb8 rfl 44 (.tmp 34) (.tmp 33) rfl rfl w2.heap.size (i * 9) (by first | rfl | (simp [go_sem])) exS.cells rfl _ (stC i) JRo iS hsz (quy exS) ?_; intro w4 m4 B4; refine Mk.out ?_)
   constructor
   rw [hsp.out] at B4
   have HB4 := xaa B4
   have Hb4 := xaa (JB.out.trans (m4.below JB.out.size fun k hk => by omega))
   clear B4 m4 JRo JR JB hsz
   go_wp2_with fail
   go_roundg (5 - (i + 1))
   case rel => exact ⟨i + 1, by go_num, by omega, rfl, Hb4, HB4⟩
   case measure => omega
  ·obtain rfl : i = 5 := by omega
   have hf := bs_fn wr
   have hma := mk_ai (wr.alloc (.cells exF.cells 64))
   unfold Fnt.cells exF at hf hma
   go_wp2_with fail
   have HB := xaa (HB2.out.trans (JB.out.mono HB2.out.size))
   have hbf := xar wr (.cells exF.cells 64)
   have BF := Blk.new wr 64 exF.cells
   have JRo : Blk wr w2.heap.size 44 (stC 5) := JR.out
   have BS := JRo.alloc (.cells exF.cells 64)
   have HTr4 := HTr.out.below (JB.out.trans (hbf.mono JB.out.size))
   have HB4 := xaa (HB.out.trans (hbf.mono HB.out.size))
   obtain ⟨w5, hw5⟩ : ∃ w5, wr.alloc (.cells exF.cells 64) = w5 := ⟨_, rfl⟩
   have hw5' := hw5
   have hs5 : w5.heap.size = wr.heap.size + 1 := by rw [<- hw5']; exact Array.size_push ..
   unfold Fnt.cells exF at hw5
   rw [hw5'] at hbf BF BS HTr4 HB4
   rw [hw5]
   obtain ⟨g1, hg1⟩ : ∃ g, w2.heap.size = g := ⟨_, rfl⟩
   obtain ⟨g2, hg2⟩ : ∃ g, wr.heap.size = g := ⟨_, rfl⟩
   have GS := xaa BS
   have GF := xaa BF
   have GT := xaa HTr4
   rw [hg1] at GS |-
   rw [hg2] at GF hs5 |-
   clear hw5 hw5' BS BF HTr4 hbf HB JRo JR JB HTr HB2 hf hma hg1 hg2
   have hb6 := xar w5 (.cells (qa0 5 fun _ => .int .i64 0) 2)
   have BA := Blk.new w5 2 (qa0 5 fun _ => .int .i64 0)
   have BS6 := GS.out.alloc (.cells (qa0 5 fun _ => .int .i64 0) 2)
   have BF6 := GF.out.alloc (.cells (qa0 5 fun _ => .int .i64 0) 2)
   have HT6 := GT.out.below hb6
   have HB6 := xaa (HB4.out.trans (hb6.mono HB4.out.size))
   obtain ⟨w6, hw6⟩ : ∃ w6, w5.alloc (.cells (qa0 5 fun _ => .int .i64 0) 2) = w6 := ⟨_, rfl⟩
   rw [hw6] at hb6 BA BS6 BF6 HT6 HB6 |-
   rw [hs5] at BA
   clear hw6 hs5 HB4 GS GF GT
   refine (CC0.out _ p _ _ _ HB6.out HT6 BS6 BF6 BA).mono ?_
   rintro e w7 ⟨A, c, u2, rfl, D1, DW, b7⟩
   have HB7 := xaa (HB6.out.trans (b7.mono HB6.out.size))
   have HT7 := xaa (HT6.below b7)
   have H1 := xaa D1
   have HW := xaa DW
   clear D1 DW b7 HB6 HT6 BS6 BF6 BA hb6
   go_wp2_with fail
   refine (CC1.out _ p HT7.out).mono ?_
   rintro e w8 ⟨rfl, b8⟩
   have HB8 := xaa (HB7.out.trans (b8.mono HB7.out.size))
   have HT8 := xaa (HT7.out.below b8)
   have H8 := xaa b8
   have hma := mk_ai w8
   clear b8 HT7
   go_wp2_with fail
   have hb9 := xar w8 (.cells (qa0 5 fun _ => .int .i64 0) 2)
   obtain ⟨w9, hw9⟩ : ∃ w9, w8.alloc (.cells (qa0 5 fun _ => .int .i64 0) 2) = w9 := ⟨_, rfl⟩
   rw [hw9] at hb9 |-
   clear hw9 hma
   refine (CC9.out _ p _ _ _ (HT8.out.below hb9)).mono ?_
   rintro e w10 ⟨rfl, b10⟩
   have H10 := xaa (H8.out.trans ((hb9.trans (b10.mono hb9.size)).mono H8.out.size))
   clear HT8 hb9 b10 H8 HT
   have hB10 := xaa (HB7.out.trans (H10.out.mono HB7.out.size))
   have hc1 : ∀ o, (w10.alloc o).cell? { block := A.block, off := A.off + 5 + 4 } = some (.int .u8 1) := fun o => (H1.out _ (H10.out.trans ((xar w10 o).mono H10.out.size))).1
   have hc3 : ∀ o, (w10.alloc o).cell? { block := A.block, off := A.off + 3 * 5 + 4 } = some (.int .u8 5) := fun o => (H1.out _ (H10.out.trans ((xar w10 o).mono H10.out.size))).2
   go_wp2_with fail
   refine (CS.out _ _ _ (HW.out.below (H10.out.trans ((xar w10 _).mono H10.out.size))) (qee (k := 6) (rows := exW.map fun s => (clA s).toList) (Blk.new w10 39 _) (fun x hx => by obtain ⟨s, _, rfl⟩ := List.mem_map.1 hx; rfl) rfl rfl)).mono ?_
   rintro e w11 ⟨rfl, b11⟩
   have HB11 := xaa (hB10.out.trans (((xar w10 _).trans (b11.mono (xar w10 _).size)).mono hB10.out.size))
   clear b11
   go_wp2_with fail
   go_ret
   exact ⟨rfl, HB11.out⟩
end Ce
namespace Ce
open Go.Shelf
open Ar
open Wh (Cr)
open Fo (Fnt W64)
def qfp (l : List Nod) (w : World) (e : Ending) (w' : World) : Prop :=
 ((chkT l = 0 /\ ∃ p, e = .returned (.pointer (some p)) /\ Tr w' (.pointer (some p)) l) \/ (chkT l ≠ 0 /\ e = .returned (.pointer none))) /\ Below w.heap.size w w'
theorem qse (l : List Nod) (v : Value) (w : World) (hN : Ns w v l) (hW : WfL l) (hT : Ar.Tab w) :
 Calls Tryz.prog 7 #[v] w (qfp l w) := by
 have CN : Hid (Calls Tryz.prog 18 #[v] w fun e w' => ((chkT l = 0 /\ ∃ p, e = .returned (.tuple #[.pointer (some p), .int .i64 0]) /\ Tr w' (.pointer (some p)) l) \/ (chkT l ≠ 0 /\ ∃ f : Int, f ≠ 0 /\ e = .returned (.tuple #[.pointer none, .int .i64 f]))) /\ Below w.heap.size w w') := xaa <| (qm6 l v w hN hW hT).mono fun e w' hp => by
  rcases hp with ⟨h0, p, h1, h2, h3⟩ | ⟨h1, h2, h3⟩
  ·obtain ⟨g, gn, ge, cn, ce, rfl, h4⟩ := h2
   exact ⟨.inl ⟨h0, _, h1, ⟨g, gn, ge, cn, ce, rfl, h4⟩⟩, h3⟩
  ·exact ⟨.inr ⟨h1, _, by omega, h2⟩, h3⟩
 clear hN hW hT
 go_enter Tryz.func7, Tryz.ntmps7
 go_wp2_with fail
 refine CN.out.mono ?_
 rintro e w1 ⟨⟨h0, p, rfl, h2⟩ | ⟨h0, f, hf, rfl⟩, b1⟩
 ·have H := xaa (show qfp l w (.returned (.pointer (some p))) w1 from ⟨.inl ⟨h0, p, rfl, h2⟩, b1⟩)
  clear b1 h2 h0
  go_wp2_with fail
  go_ret
  exact H.out
 ·have H := xaa (show qfp l w (.returned (.pointer none)) w1 from ⟨.inr ⟨h0, rfl⟩, b1⟩)
  have hf2 : (f == 0) = false := by simpa using hf
  clear b1 h0
  go_wp2_with fail
  go_ret
  exact H.out
theorem bxGn (z : Int) (A1 A2 A3 : Option Addr) (n1 n2 n3 c1 c2 c3 : Nat) (w : World) : (Instr.box 27 (.agg #[.int .i64 z, .slice A1 n1 c1, .slice A2 n2 c2, .slice A3 n3 c3])).run Tryz.prog w = .ok (.pointer (some ⟨w.heap.size, 0, none⟩)) (w.alloc (.cells #[.int .i64 z, .slice A1 n1 c1, .slice A2 n2 c2, .slice A3 n3 c3] 27)) := by kernel_rfl
theorem q0u {ops : Array Oper} {Q : Exit -> Act -> World -> Prop} {a : Act} {w : World} {rest : List Oper} {o : Oper} (hg : o.guard = none) (x : Operand) (ho : o.op = .box 27 x) (z : Int) (A1 A2 A3 : Option Addr) (n1 n2 n3 c1 c2 c3 : Nat) (hx : a.eval x = .agg #[.int .i64 z, .slice A1 n1 c1, .slice A2 n2 c2, .slice A3 n3 c3])
 (h : ∀ w', Below w.heap.size w w' -> Blk w' w.heap.size 27 #[.int .i64 z, .slice A1 n1 c1, .slice A2 n2 c2, .slice A3 n3 c3] -> wpList Tryz.prog ops Q rest (a.put o.dst (.pointer (some ⟨w.heap.size, 0, none⟩))) w') : wpList Tryz.prog ops Q (o :: rest) a w :=
 qaq hg 27 x ho _ hx (bxGn z A1 A2 A3 n1 n2 n3 c1 c2 c3) h
def Small (l : List Nod) (ss : List Sty) (fs : List Fnt) (na : Nat) : Prop := l.length <= 40 /\ (sumT l <= 1048576 -> sumT l <= 150) /\ ss.length <= 60 /\ na <= 60 /\ fs.length <= 80 /\ ∀ F ∈ fs, F.rs.length <= 20
def qgv (l : List Nod) (ss : List Sty) (fs : List Fnt) (na : Nat) (w : World) (e : Ending) (w' : World) : Prop := ∃ b, e = .returned (.bool b) /\ (b = false -> Small l ss fs na) /\ Below w.heap.size w w'
theorem qov (l : List Nod) (v : Value) (z : Int) (A1 A2 A3 : Option Addr) (n3 c1 c2 c3 : Nat) (ss : List Sty) (fs : List Fnt) (w : World) (hN : Ns w v l) (hn : l.length <= 9223372036854775807) (hF : Fs w (.slice A2 fs.length c2) fs) (hf : fs.length <= 9223372036854775807) (hs : ss.length <= 9223372036854775807) (h3 : n3 <= 9223372036854775807) :
 Calls Tryz.prog 8 #[v, .agg #[.int .i64 z, .slice A1 ss.length c1, .slice A2 fs.length c2, .slice A3 n3 c3]] w (qgv l ss fs n3 w) := by
 have HR := xaa hN
 have HF := xaa hF
 obtain ⟨A, cap, rfl⟩ := hN.form
 obtain ⟨n, hl⟩ : ∃ n, l.length = n := ⟨_, rfl⟩
 obtain ⟨m, hm⟩ : ∃ n, fs.length = n := ⟨_, rfl⟩
 obtain ⟨q, hq⟩ : ∃ n, ss.length = n := ⟨_, rfl⟩
 have HL := xaa hl
 have HM := xaa hm
 have HQ := xaa hq
 rw [hl] at hn HR |-
 rw [hm] at hf HF |-
 rw [hq] at hs |-
 clear hN hF hl hm hq
 go_enter Tryz.func8, Tryz.ntmps8
 go_wp2_with (refine q0u rfl (.tmp 1) rfl z A1 A2 A3 q m n3 c1 c2 c3 rfl ?_; intro w1 b1 B1; refine Mk.out ?_)
 constructor
 obtain ⟨g, hg⟩ : ∃ g, w.heap.size = g := ⟨_, rfl⟩
 have hgw := xaa hg
 rw [hg] at B1 |-
 have HB1 := xaa b1
 have HBB := xaa B1
 clear b1 B1 hg
 go_wp2_with fail
 go_loopg [5, 6] n (fun kx s5 s6 wr => w1 = wr /\ ∃ (k : Nat) (z : Int), s5 = .int .i64 z /\ s6 = .int .i64 k /\ k <= n /\ kx = n - k /\ Hid (sumT l <= 1048576 -> z = (sumT (l.take k) : Nat)))
 case atStart => exact ⟨rfl, 0, 0, rfl, rfl, by omega, rfl, xaa fun _ => rfl⟩
 case round =>
  obtain ⟨rfl, k, z, rfl, rfl, hk, rfl, HZ⟩ := hrel
  by_cases hlt : k < n
  ·have hkl : k < l.length := by rw [HL.out]; exact hlt
   have hz : (k : Int) < n := by omega
   obtain ⟨x, hx⟩ := qex hkl
   obtain ⟨ad, cap2, o, hv, _, ha, hLi⟩ := HR.out.get HB1.out hx
   rw [HL.out] at hv
   injection hv with hv1 hv2 hv3
   subst hv1 hv3
   have hc := hLi.t
   obtain ⟨z', hw⟩ : ∃ z', IntKind.i64.wrap (z + (x.t.size : Nat)) = z' := ⟨_, rfl⟩
   have HZ2 : Hid (sumT l <= 1048576 -> z' = (sumT (l.take (k + 1)) : Nat)) := xaa fun hs => by
    have h1 := HZ.out hs
    have h2 := qh7 hx
    have h3 := qkt l (k + 1)
    rw [<- hw, IntWalk.i64_in _ (by omega), h1, h2]
    omega
   obtain ⟨t, ht⟩ : ∃ t, x.t = t := ⟨_, rfl⟩
   rw [ht] at hc hw
   clear hv2 hx ht hLi hkl HZ
   go_wp2_with fail
   go_roundg (n - (k + 1))
   case measure => omega
   case rel => exact ⟨rfl, k + 1, z', rfl, by go_num, by omega, rfl, HZ2⟩
  ·obtain rfl : k = n := by omega
   have HS : Hid (sumT l <= 1048576 -> z = (sumT l : Nat)) := xaa fun hs => by
    have := HZ.out hs
    rwa [List.take_of_length_le (by rw [HL.out]; exact xat)] at this
   clear HZ
   have hcf := HBB.out.cell 2
   have hcs := HBB.out.cell 1
   have hca := HBB.out.cell 3
   simp only [xab, xae, xad] at hcf hcs hca
   go_wp2_with fail
   go_loopg [7] m (fun kx s7 wr => w1 = wr /\ ∃ j : Nat, s7 = .int .i64 j /\ j <= m /\ kx = m - j /\ Hid (∀ i F, i < j -> fs[i]? = some F -> F.rs.length <= 20))
   case atStart => exact ⟨rfl, 0, rfl, by omega, rfl, xaa fun i F hi => by omega⟩
   case round =>
    obtain ⟨rfl, j, rfl, hj, rfl, HJ⟩ := hrel
    by_cases hjt : j < m
    ·have hjl : j < fs.length := by rw [HM.out]; exact hjt
     have hjz : (j : Int) < m := by omega
     obtain ⟨F, hF⟩ : ∃ F, fs[j]? = some F := ⟨_, xac hjl⟩
     obtain ⟨ad, cap2, o, hv, _, ha, hLi⟩ := HF.out.get HB1.out hF
     rw [HM.out] at hv
     injection hv with hv1 hv2 hv3
     subst hv1 hv3
     obtain ⟨B, cb, hrv⟩ := qa5.form (HF.out.each F (xav hF)).1
     rw [xao] at hrv
     have hc5 : w1.cell? ⟨ad.block, o + 5, none⟩ = some F.v := hLi 5 _ rfl
     rw [hrv] at hc5
     have hw := (HF.out.each F (xav hF)).2.len
     obtain ⟨r, hr⟩ : ∃ r, F.rs.length = r := ⟨_, rfl⟩
     have hrb : r <= 9223372036854775807 := by
      have := hw
      rw [hr] at this
      exact this
     rw [hr] at hc5
     have HFF := xaa hF
     have HRR := xaa hr
     clear hF hr hrv hw hLi hv2
     by_cases h20 : 20 < r
     ·have h20z : (20 : Int) < r := by omega
      go_wp2_with fail
      go_ret
      exact ⟨true, rfl, fun h => (by cases h), HB1.out⟩
     ·have h20z : (r : Int) <= 20 := by omega
      go_wp2_with fail
      go_roundg (m - (j + 1))
      case measure => omega
      case rel => exact ⟨rfl, j + 1, by go_num, by omega, rfl, xaa fun i G hi hG => by
       rcases Nat.lt_or_ge i j with h | h
       ·exact HJ.out i G h hG
       ·obtain rfl : i = j := by omega
        rw [HFF.out] at hG
        injection hG with hG
        rw [<- hG, HRR.out]
        omega⟩
    ·obtain rfl : j = m := by omega
     have HJ2 : Hid (∀ F ∈ fs, F.rs.length <= 20) := xaa fun F hF => by
      obtain ⟨i, hi⟩ := List.mem_iff_getElem?.1 hF
      exact HJ.out i F (by rw [<- HM.out]; exact (xah hi).1) hi
     clear HJ
     have big : ∀ b, b = true -> qgv l ss fs n3 w (.returned (.bool b)) w1 := fun b hb => ⟨b, rfl, fun h => (by rw [hb] at h; cases h), HB1.out⟩
     have HBG := xaa big
     clear big
     by_cases h1 : 40 < k
     ·have h1z : (40 : Int) < k := by omega
      go_wp2_with fail
      go_ret
      exact HBG.out _ (by simp_all)
     ·have h1z : (k : Int) <= 40 := by omega
      by_cases h2 : 150 < z
      ·go_wp2_with fail
       go_ret
       exact HBG.out _ (by simp_all)
      ·have h2z : z <= 150 := by omega
       by_cases h3 : 60 < q
       ·have h3z : (60 : Int) < q := by omega
        go_wp2_with fail
        go_ret
        exact HBG.out _ (by simp_all)
       ·have h3z : (q : Int) <= 60 := by omega
        by_cases h4 : 60 < n3
        ·have h4z : (60 : Int) < n3 := by omega
         go_wp2_with fail
         go_ret
         exact HBG.out _ (by simp_all)
        ·have h4z : (n3 : Int) <= 60 := by omega
         go_wp2_with fail
         go_ret
         by_cases h5 : 80 < j
         ·exact HBG.out _ (by simp; omega)
         ·exact ⟨_, rfl, fun _ => ⟨by rw [HL.out]; omega, fun hs => by have := HS.out hs; omega, by rw [HQ.out]; omega, by omega, by rw [HM.out]; omega, HJ2.out⟩, HB1.out⟩
end Ce
namespace Ce
open Go.Deep
open Ar
open Fo (Fnt Rg W64 W32)
section
variable {H : Type} {enc : TypeId × Value -> H} {W : World} {r : Reach} {b0 : Nat} {v : Value} {d : DataW H} {ps : List MemPlace} {fuel : Nat} {cs : List Value} {y : DataW H × List MemPlace}
theorem oGs : Tryz.prog.cellsOf 23 = 1 := by kernel_rfl
theorem oGf : Tryz.prog.cellsOf 24 = 1 := by kernel_rfl
theorem oGa : Tryz.prog.cellsOf 25 = 1 := by kernel_rfl
theorem o64 : Tryz.prog.cellsOf 2 = 1 := by kernel_rfl
theorem oFn : Tryz.prog.cellsOf 64 = 6 := by kernel_rfl
theorem qu0 {a : Int} (h : (Lit.int .i64 a).wf = true) : W64 a := by
 simpa [Lit.wf, IntKind.min, IntKind.max, IntKind.signed, IntKind.bits, W64] using h
theorem oW32 {a : Int} (h : (Lit.int .i32 a).wf = true) : W32 a := by
 simpa [Lit.wf, IntKind.min, IntKind.max, IntKind.signed, IntKind.bits, W32] using h
theorem qt9 {fs : Array Field} {x : List Value} (hfs : Tryz.prog.underlying 178 = some (.struct fs)) (h : Fields enc Tryz.prog W fs x) : ∃ y : Rg, x = y.cells /\ (W32 y.f /\ W32 y.t /\ W64 y.a) := by
 rw [Tryz.underlying178] at hfs
 injection hfs with hfs
 injection hfs with hfs
 subst hfs
 obtain ⟨hl, hf⟩ := h
 obtain ⟨u0, y0, n0, e0, t0⟩ := hf 0 _ rfl
 obtain ⟨u1, y1, n1, e1, t1⟩ := hf 1 _ rfl
 obtain ⟨u2, y2, n2, e2, t2⟩ := hf 2 _ rfl
 match x, hl, e0, e1, e2 with
 | [c0, c1, c2], _, e0, e1, e2 =>
   obtain rfl : c0 = u0 := xaw e0
   obtain rfl : c1 = u1 := xaw e1
   obtain rfl : c2 = u2 := xaw e2
   obtain ⟨z0, g0, _, w0⟩ := DataW.trod_int Tryz.underlying21 t0
   obtain ⟨z1, g1, _, w1⟩ := DataW.trod_int Tryz.underlying21 t1
   obtain ⟨z2, g2, _, w2⟩ := DataW.trod_int Tryz.underlying3 t2
   injection g0 with g0
   injection g1 with g1
   injection g2 with g2
   subst g0 g1 g2
   exact ⟨⟨z0, z1, z2⟩, rfl, oW32 w0, oW32 w1, qu0 w2⟩
theorem qz8 {fs : Array Field} {x : List Value} (hfs : Tryz.prog.underlying 64 = some (.struct fs)) (h : Fields enc Tryz.prog W fs x) : ∃ F : Fnt, x.toArray = F.cells /\ F.Wf /\ F.In W := by
 rw [Tryz.underlying64] at hfs
 injection hfs with hfs
 injection hfs with hfs
 subst hfs
 obtain ⟨hl, hf⟩ := h
 obtain ⟨u0, y0, n0, e0, t0⟩ := hf 0 _ rfl
 obtain ⟨u1, y1, n1, e1, t1⟩ := hf 1 _ rfl
 obtain ⟨u2, y2, n2, e2, t2⟩ := hf 2 _ rfl
 obtain ⟨u3, y3, n3, e3, t3⟩ := hf 3 _ rfl
 obtain ⟨u4, y4, n4, e4, t4⟩ := hf 4 _ rfl
 obtain ⟨u5, y5, n5, e5, t5⟩ := hf 5 _ rfl
 match x, hl, e0, e1, e2, e3, e4, e5 with
 | [c0, c1, c2, c3, c4, c5], _, e0, e1, e2, e3, e4, e5 =>
   obtain rfl : c0 = u0 := xaw e0
   obtain rfl : c1 = u1 := xaw e1
   obtain rfl : c2 = u2 := xaw e2
   obtain rfl : c3 = u3 := xaw e3
   obtain rfl : c4 = u4 := xaw e4
   obtain rfl : c5 = u5 := xaw e5
   obtain ⟨z0, g0, _, w0⟩ := DataW.trod_int Tryz.underlying3 t0
   obtain ⟨z1, g1, _, w1⟩ := DataW.trod_int Tryz.underlying3 t1
   obtain ⟨z2, g2, _, w2⟩ := DataW.trod_int Tryz.underlying3 t2
   obtain ⟨z3, g3, _, w3⟩ := DataW.trod_int Tryz.underlying3 t3
   obtain ⟨z4, g4, _, w4⟩ := DataW.trod_int Tryz.underlying3 t4
   obtain ⟨xs, hrow, hall, hlen⟩ := qq6 (fs := _) Tryz.underlying62 Tryz.underlying178 (by kernel_rfl) (by kernel_rfl) (by decide) t5
   obtain ⟨rs, rfl, hrs⟩ := qga Rg.cells (fun y => W32 y.f /\ W32 y.t /\ W64 y.a) xs fun x hx => qt9 Tryz.underlying178 (hall x hx)
   injection g0 with g0
   injection g1 with g1
   injection g2 with g2
   injection g3 with g3
   injection g4 with g4
   subst g0 g1 g2 g3 g4
   rw [xao] at hlen
   exact ⟨⟨z0, z1, z2, z3, z4, c5, rs⟩, rfl, ⟨qu0 w0, qu0 w1, qu0 w2, qu0 w3, qu0 w4, hrs, hlen⟩, qa5.mono hrow fun _ _ h => h.elim⟩
theorem sty_w (h : DataW.trod enc Tryz.prog W 0 (fun _ => true) true fuel 44 cs = some y) : ∃ s : Sty, cs = s.cells.toList /\ W64 s.a6 := by
 obtain ⟨s, rfl⟩ := qw1 h
 obtain ⟨xs, n, _, _, hl, hyl, hf⟩ := DataW.trod_struct Tryz.underlying44 h
 have hy9 : xs.length = 9 := hyl
 obtain ⟨z6, g6, _, w6⟩ := DataW.trod_int Tryz.underlying2 ((hf 6 _ rfl).trans (xac (by omega)))
 simp [o64] at g6
 refine ⟨s, rfl, ?_⟩
 have hz : Value.int .i64 s.a6 = .int .i64 z6 := by simpa [Sty.cells] using g6
 injection hz with _ hz
 rw [hz]
 exact qu0 w6
theorem qxi {t e : TypeId} {k : Nat} {α : Type} (f : α -> List Value) (ht : Tryz.prog.underlying t = some (.slice e)) {l : List α} (h1 : qa5 k (fun b => W.heap.size <= b) W v (l.map f)) (hf : DataW.trod enc Tryz.prog W 0 (fun _ => true) true fuel t [v] = some y) : l.length <= 9223372036854775807 := by
 obtain ⟨A, c, hA⟩ := qa5.form h1
 rw [xao] at hA
 subst hA
 rcases open_slice ht hf with ⟨hcs, _⟩ | ⟨a', len', cap', m, n, D, Pl, hcs, _, hl, hm, _⟩
 ·simp at hcs
  obtain ⟨_, rfl, _⟩ := hcs
  simp
 ·simp at hcs
  obtain ⟨_, rfl, rfl⟩ := hcs
  have : maxLen = 9223372036854775807 := rfl
  omega
theorem ss_w (h : DataW.trod enc Tryz.prog W 0 (fun _ => true) true fuel 23 [v] = some y) : ∃ l : List Sty, Ss W v l /\ (∀ s ∈ l, W64 s.a6) /\ l.length <= 9223372036854775807 := by
 obtain ⟨l, h1, h2⟩ := qek (fun s : Sty => s.cells.toList) (fun s => W64 s.a6) Tryz.underlying23 c23 (by omega) (fun _ => rfl) (fun n cs y hy => sty_w hy) h
 exact ⟨l, qa5.mono h1 fun _ _ h => h.elim, h2, qxi _ Tryz.underlying23 h1 h⟩
theorem fnt_w (h : DataW.trod enc Tryz.prog W 0 (fun _ => true) true fuel 64 cs = some y) : ∃ F : Fnt, cs = F.cells.toList /\ F.In W /\ F.Wf := by
 obtain ⟨F, h1, h2, h3⟩ := qz8 Tryz.underlying64 (fields_of Tryz.underlying64 (by kernel_rfl) (by kernel_rfl) h)
 exact ⟨F, by rw [<- h1], h3, h2⟩
theorem fs_w (h : DataW.trod enc Tryz.prog W 0 (fun _ => true) true fuel 24 [v] = some y) : ∃ l : List Fnt, Fs W v l /\ l.length <= 9223372036854775807 := by
 obtain ⟨l, h1, h2⟩ := qek (fun s : Fnt => s.cells.toList) (fun F => F.In W /\ F.Wf) Tryz.underlying24 oFn (by omega) (fun _ => rfl) (fun n cs y hy => fnt_w hy) h
 exact ⟨l, ⟨qa5.mono h1 fun _ _ h => h.elim, h2⟩, qxi _ Tryz.underlying24 h1 h⟩
theorem ai_w (h : DataW.trod enc Tryz.prog W 0 (fun _ => true) true fuel 25 [v] = some y) : ∃ l : List Int, Ai W v l /\ (∀ a ∈ l, W64 a) /\ l.length <= 9223372036854775807 := by
 rcases open_ints Tryz.underlying25 Tryz.underlying2 o64 h with ⟨hcs, _⟩ | ⟨x, len, c, zs, hcs, _, hl, hm, hz, _, hcell, hwz⟩
 ·injection hcs with hcs
  subst hcs
  exact ⟨[], .inl ⟨rfl, rfl⟩, fun a h => (by cases h), by simp⟩
 ·injection hcs with hcs
  subst hcs
  simp at hz
  have hm' : maxLen = 9223372036854775807 := rfl
  refine ⟨zs.take len, Row.mono (qjh (by simp; omega) (fun j u hj => ?_)) fun _ _ h => h.elim, fun a ha => ?_, by rw [List.length_take]; omega⟩
  ·rw [List.map_take, List.getElem?_take] at hj
   split at hj
   ·rename_i hjl
    have hjz : j < zs.length := by omega
    rw [xan, xac hjz] at hj
    simp at hj
    subst hj
    rw [hcell j hjz]
    simp [List.getD, hjz]
   ·cases hj
  ·exact qu0 (hwz a (List.mem_of_mem_take ha))
theorem qhf (hv : Value.okWide Tryz.prog W r b0 27 v) (h : DataW.Trod enc Tryz.prog W 0 (fun _ => true) true 27 v d ps) :
 ∃ (z : Int) (v1 v2 v3 : Value) (ss : List Sty) (fs : List Fnt) (at_ : List Int), v = .agg #[.int .i64 z, v1, v2, v3] /\ W64 z /\ Ms W v1 v2 v3 ss fs at_ /\ (∀ s ∈ ss, W64 s.a6) /\ (∀ a ∈ at_, W64 a) /\ ss.length <= 9223372036854775807 /\ fs.length <= 9223372036854775807 /\ at_.length <= 9223372036854775807 := by
 obtain ⟨cs, rfl, hsz⟩ := okWide_struct Tryz.underlying27 hv
 obtain ⟨f, hf0⟩ := h
 obtain ⟨xs, n, _, _, hl, hyl, hf⟩ := DataW.trod_struct Tryz.underlying27 hf0
 have hl4 : cs.toList.length = 4 := (show cs.toList.length = Tryz.prog.cellsOf 27 by simpa using hsz).trans (by kernel_rfl)
 have hy4 : xs.length = 4 := hyl
 obtain ⟨q0, q1, q2, q3, hq⟩ : ∃ q0 q1 q2 q3, cs = #[q0, q1, q2, q3] := by
  match hc : cs, hl4 with
  | ⟨[q0, q1, q2, q3]⟩, _ => exact ⟨q0, q1, q2, q3, rfl⟩
 subst hq
 obtain ⟨z, g0, _, w0⟩ := DataW.trod_int Tryz.underlying3 ((hf 0 _ rfl).trans (xac (by omega)))
 have g1 : DataW.trod enc Tryz.prog W 0 (fun _ => true) true n 23 (([q0, q1, q2, q3].drop 1).take (Tryz.prog.cellsOf 23)) = _ := (hf 1 _ rfl).trans (xac (by omega))
 have g2 : DataW.trod enc Tryz.prog W 0 (fun _ => true) true n 24 (([q0, q1, q2, q3].drop 2).take (Tryz.prog.cellsOf 24)) = _ := (hf 2 _ rfl).trans (xac (by omega))
 have g3 : DataW.trod enc Tryz.prog W 0 (fun _ => true) true n 25 (([q0, q1, q2, q3].drop 3).take (Tryz.prog.cellsOf 25)) = _ := (hf 3 _ rfl).trans (xac (by omega))
 rw [oGs] at g1
 rw [oGf] at g2
 rw [oGa] at g3
 have g0' : [q0] = [Value.int .i64 z] := g0
 injection g0' with g0'
 subst g0'
 obtain ⟨ss, k1, k1', k1''⟩ := ss_w g1
 obtain ⟨fs, k2, k2'⟩ := fs_w g2
 obtain ⟨at_, k3, k3', k3''⟩ := ai_w g3
 exact ⟨z, q1, q2, q3, ss, fs, at_, rfl, qu0 w0, ⟨k1, k2, k3⟩, k1', k3', k1'', k2', k3''⟩
end
end Ce
namespace Ce
open Go.Shelf
open Ar
open Wh (Cr)
open Fo (Fnt W64)
structure Okc (l : List Nod) (k : Nat) (ss : List Sty) (fs : List Fnt) (at_ : List Int) : Prop where
 lt : k < l.length
 inl : inl (l.getD k .zero).k = true
 v : validB ss fs.length at_.length l.length = true
def qkl (l : List Nod) (z : Int) (ss : List Sty) (fs : List Fnt) (at_ : List Int) (w : World) (e : Ending) (w' : World) : Prop :=
 ((∃ k : Nat, z = (k : Int) /\ Okc l k ss fs at_ /\ ∃ u1 u2, e = .returned (.tuple #[u1, u2, .int .i64 0]) /\ RwC w' u1 (csL ss l k) /\ qkj w' u2 (cellL ss fs at_ l k)) ∨
  (¬ (∃ k : Nat, z = (k : Int) /\ Okc l k ss fs at_)) /\ ∃ f : Int, f ≠ 0 /\ e = .returned (.tuple #[.slice none 0 0, .slice none 0 0, .int .i64 f])) /\ Below w.heap.size w w'
theorem qoy (V : Value) (l : List Nod) (z : Int) (A1 A2 A3 : Option Addr) (c1 c2 c3 : Nat) (ss : List Sty) (fs : List Fnt) (at_ : List Int) (w : World) (h : Tr w V l) (hg : chkT l = 0) (hS : Small l ss fs at_.length) (hT : Tbs w) (hM : Ms w (.slice A1 ss.length c1) (.slice A2 fs.length c2) (.slice A3 at_.length c3) ss fs at_) (h64 : ∀ s ∈ ss, W64 s.a6) :
 Calls Tryz.prog 10 #[V, .int .i64 z, .slice A1 ss.length c1, .slice A2 fs.length c2, .slice A3 at_.length c3] w (qkl l z ss fs at_ w) := by
 have hG := (qci l).1 hg
 obtain ⟨s1, s2, s3, s4, s5, s6⟩ := hS
 have hsum := s2 hG.sum
 have hmt : ∀ x ∈ l, x.t.size <= 150 := fun x hx => by
  obtain ⟨i, hi⟩ := List.mem_iff_getElem?.1 hx
  exact xau (qku hi) hsum
 by_cases hz : ∃ k : Nat, z = (k : Int) /\ k < l.length
 ·obtain ⟨k, rfl, hk⟩ := hz
  obtain ⟨x, hx⟩ : ∃ x, l[k]? = some x := ⟨_, xac hk⟩
  have hgx : l.getD k .zero = x := by rw [xal, hx]; rfl
  by_cases hi : inl x.k = true
  ·by_cases hv : validB ss fs.length at_.length l.length = true
   ·exact (qkh V l k x 150 A1 A2 A3 c1 c2 c3 ss fs at_ w h hG.tre (by omega) hmt (by omega) (by omega) hx hi hT.ut hT.cl hM hv h64).mono fun e w' ⟨u1, u2, q1, q2, q3, q4⟩ => ⟨.inl ⟨k, rfl, ⟨hk, by rw [hgx]; exact hi, hv⟩, u1, u2, q1, q2, q3⟩, q4⟩
   ·refine (qox V l k A1 A2 A3 ss.length fs.length at_.length c1 c2 c3 ss w h.len hM.s (by omega) ?_ (by simpa using hv)).mono fun e w' ⟨q1, q2⟩ => ⟨.inr ⟨?_, 2, by decide, q1⟩, q2⟩
    ·exact (qhu V l k x 150 w h hG.tre (by omega) hmt (by omega) (by omega) hx hi hT.ut).mono fun e w' ⟨u, q1, _, q2⟩ => ⟨u, q1, q2⟩
    ·rintro ⟨k', he, hO⟩
     exact hv hO.v
  ·refine (qgo V (k : Int) _ _ _ 2 (by decide) w (qht V l k x w h hx (by simpa using hi))).mono fun e w' ⟨q1, q2⟩ => ⟨.inr ⟨?_, 2, by decide, q1⟩, q2⟩
   rintro ⟨k', he, hO⟩
   obtain rfl : k = k' := by omega
   have := hO.inl
   rw [hgx] at this
   exact hi this
 ·have hf : fndE l.length z ≠ 0 := by
   unfold fndE
   split
   ·decide
   ·split
    ·decide
    ·rename_i h1 h2
     exact absurd ⟨z.toNat, by omega, by omega⟩ hz
  refine (qgo V z _ _ _ (fndE l.length z) hf w (qkg V l.length z w h.len hf)).mono fun e w' ⟨q1, q2⟩ => ⟨.inr ⟨?_, _, hf, q1⟩, q2⟩
  rintro ⟨k', he, hO⟩
  exact hz ⟨k', he, hO.lt⟩
end Ce
end Go.Proofs.YtmceblkjbpbcoaaGreatDoor
