/- Contracts of layers below. -/
import Derived.Test.YtmceblkjbpbcoaaGreatDoorPBase
import Derived.Test.YtmceblkjbpbcoaaGreatDoorPCh2
import Derived.Test.YtmceblkjbpbcoaaGreatDoorPCMath
import Derived.Test.YtmceblkjbpbcoaaGreatDoorPY5
import Derived.Test.YtmceblkjbpbcoaaGreatDoorPPr10
import Derived.Test.YtmceblkjbpbcoaaGreatDoorPPr5
import Derived.Test.YtmceblkjbpbcoaaGreatDoorPRowF
import Derived.Test.YtmceblkjbpbcoaaGreatDoorPApG
namespace Go.Proofs.YtmceblkjbpbcoaaGreatDoor
set_option maxRecDepth 100000
set_option maxHeartbeats 8000000
open Go.ChangeShapes Go.WideShapes Go.ChangeAt Go.RowKit
section
open Wh (Cr)
open Ch
def rdc {α β : Type} (f : α -> β) (z : β) (l : List α) (k : Nat) : List β := (l.take k).map f ++ List.replicate (l.length - k) z
theorem qt5 {α β : Type} (f : α -> β) (z : β) (l : List α) : rdc f z l 0 = List.replicate l.length z := rfl
theorem qy2 {α β : Type} (f : α -> β) (z : β) (l : List α) : rdc f z l l.length = l.map f := by simp [rdc]
theorem qqo {α β : Type} (f : α -> β) (z : β) (l : List α) {k : Nat} (h : k <= l.length) : (rdc f z l k).length = l.length := by
 simp [rdc]
 omega
theorem qt6 {α β : Type} (f : α -> β) (z : β) {l : List α} {k : Nat} {c : α} (h : l[k]? = some c) : rdc f z l (k + 1) = (rdc f z l k).set k (f c) := by
 have hk := (xah h).1
 unfold rdc
 have e : ((l.take k).map f).length = k := by simp; omega
 rw [show l.take (k + 1) = l.take k ++ [c] by rw [List.take_add_one, h]; rfl, List.map_append, List.set_append_right _ _ (by omega), e, Nat.sub_self, show l.length - k = (l.length - (k + 1)) + 1 by omega, List.replicate_succ, xaj]
 simp
def upF (z : Value) (g : Nat -> Value) (k j : Nat) : Value := if j < k then g j else z
theorem qfe (z : Value) (g : Nat -> Value) : upF z g 0 = fun _ => z := by
 funext j
 unfold upF
 rw [if_neg (by omega)]
theorem qd1 (z : Value) (g : Nat -> Value) (k : Nat) : qyi (upF z g k) k (g k) = upF z g (k + 1) := by
 funext j
 unfold qyi upF
 by_cases e : j = k
 ·subst e
  rw [if_pos rfl, if_pos (by omega)]
 ·rw [if_neg e]
  by_cases h : j < k
  ·rw [if_pos h, if_pos (by omega)]
  ·rw [if_neg h, if_neg (by omega)]
theorem infoHc : (Tryz.prog.info? 129).map (fun i => (i.zero, i.size, i.bytes)) = some (some (.agg (hcA zHc)), 4, 4) := by kernel_rfl
theorem mkHc (n : Nat) (hn : n <= 1048576) (w : World) :
 (Instr.makeSlice 118 (.int .i64 (n : Int)) (.int .i64 (n : Int))).run Tryz.prog w = .ok (.slice (some ⟨w.heap.size, 0, none⟩) n n) (w.alloc (.cells (madeCells (hcA zHc) (n * 4)) 129)) := by
 obtain ⟨i0, hi, hz0, hz1, hz2⟩ := qbl infoHc
 have := qib (P := Tryz.prog) 118 129 i0 (.agg (hcA zHc)) Tryz.underlying118 hi hz0 .i64 .i64 n n (xat) (by rw [hz2]; omega) (by omega) w
 rw [hz1] at this
 exact this
theorem qni (w : World) (n : Nat) : Strs (w.alloc (.cells (madeCells (hcA zHc) (n * 4)) 129)) w.heap.size 129 4 ((List.replicate n zHc).map hcA) := by
 refine ⟨_, Blk.new _ _ _, by simp [size_madeCells], fun i x hi => ?_⟩
 rw [xan] at hi
 have hin : i < n := by
  cases h : (List.replicate n zHc)[i]? with
  | none => rw [h] at hi; cases hi
  | some y => have := (xah h).1; simpa using this
 rw [xac (by simpa using hin), List.getElem_replicate] at hi
 injection hi with hi
 subst hi
 refine ⟨rfl, fun j v hv => ?_⟩
 have hj : j < 4 := (xag hv).1
 rw [qu6 _ 4 n i j rfl hin hj]
 exact hv
theorem qop (l : List Cr) (ss : List Sty) (v vs : Value) (w : World) (hR : RwC w v l) (hS : Ss w vs ss) (hlen : l.length <= 100000) (hnd : ∀ c ∈ l, 0 <= c.node /\ c.node < (ss.length : Int)) :
 Calls Tryz.prog 41 #[v, vs] w fun e w' => ∃ G, e = .returned (.slice (some ⟨G, 0, none⟩) l.length l.length) /\ w.heap.size <= G /\ Strs w' G 129 4 ((l.map (hcOf ss)).map hcA) /\ Below w.heap.size w w' := by
 have HR := xaa hR
 have HS := xaa hS
 have HND := xaa hnd
 obtain ⟨A, cap, rfl⟩ := hR.form
 obtain ⟨A2, cap2, rfl⟩ := hS.form
 obtain ⟨m, hm⟩ : ∃ m, l.length = m := ⟨_, rfl⟩
 obtain ⟨m2, hm2⟩ : ∃ m, ss.length = m := ⟨_, rfl⟩
 have HM := xaa hm
 have HM2 := xaa hm2
 rw [hm2] at HS HND |-
 rw [hm] at hlen HR |-
 have hmk1 : ∀ W : World, _ := fun W => qdh (P := Tryz.prog) 60 21 (.int .i32 0) 4 Tryz.underlying60 (by kernel_rfl) (by decide) rfl m (by omega) W
 have HMK2 : Hid (∀ W : World, _) := xaa fun W => mkHc m (by omega) W
 clear hR hS hm hm2 hnd
 go_enter Tryz.func41, Tryz.ntmps41
 go_wp2_with fail
 have R0 := Blk.new w 21 (qa0 m (fun _ => .int .i32 0))
 have b0 := xar w (.cells (qa0 m (fun _ => .int .i32 0)) 21)
 have hs0 : (w.alloc (.cells (qa0 m (fun _ => .int .i32 0)) 21)).heap.size = w.heap.size + 1 := by simp
 obtain ⟨w0, hw0⟩ : ∃ w0, w.alloc (.cells (qa0 m (fun _ => .int .i32 0)) 21) = w0 := ⟨_, rfl⟩
 rw [hw0] at R0 b0 hs0 |-
 have HF : Hid (∃ g : Nat -> Value, ∀ j, g j = .int .i32 (l.getD j zCr).r) := xaa ⟨_, fun _ => rfl⟩
 obtain ⟨g, hg⟩ := HF.out
 have HG := xaa hg
 rw [<- qfe (.int .i32 0) g] at R0
 clear hw0 hmk1 HF hg
 go_loopg [17] m (fun kx i wr => ∃ (k : Nat), i = .int .i64 k /\ k <= m /\ kx = m - k /\ Below w.heap.size w wr /\ Blk wr w.heap.size 21 (qa0 m (upF (.int .i32 0) g k)))
 case atStart => exact ⟨0, rfl, by omega, by omega, b0, R0⟩
 case round =>
  clear R0 b0 hs0
  obtain ⟨k, rfl, hk, rfl, bel, hB⟩ := hrel
  by_cases hlt : k < m
  ·obtain ⟨c, hc⟩ := at_ (l := l) (k := k) (by rw [HM.out]; exact hlt)
   obtain ⟨ad, cp, o, hv, hab, ha, hLi⟩ := HR.out.get bel hc
   rw [HM.out] at hv
   injection hv with hv1 hv2 hv3
   subst hv1 hv3
   have hgk : g k = .int .i32 c.r := by rw [HG.out, xal, hc]; rfl
   have HGK := xaa hgk
   have hkz : (k : Int) < m := by omega
   have hB0 := hB.lt
   have HB := xaa hB
   clear hv2 hgk hc hB
   go_wp2_with (first
    | (refine ldC rfl (.tmp 20) rfl _ rfl c (by first | exact hLi | exact ha ▸ hLi) ?_)
    | (refine alCV rfl rfl ?_; intro w1 b1 B1)
    | (refine stC rfl (.tmp 7) (.tmp 21) rfl rfl _ rfl c rfl zCr B1 ?_; intro w2 m3 B2; refine Mk.out ?_))
   constructor
   have b2 : Below wr.heap.size wr w2 := b1.trans (m3.below b1.size fun k hk => by omega)
   have bel2 := bel.trans (b2.mono bel.size)
   have hB2 := HB.out.kb b2
   have c0 : w2.cell? ⟨wr.heap.size, 0, none⟩ = some (.int .i32 c.r) := B2.cell 0
   have hq := (hB2.cell k).trans (qaw hlt)
   have hfz := hB2.frozen k
   have HB2 := xaa hB2
   have HBE := xaa bel2
   obtain ⟨x, hx⟩ : ∃ x, upF (.int .i32 0) g k k = x := ⟨_, rfl⟩
   rw [hx] at hq
   clear hLi b1 B1 m3 B2 b2 bel bel2 hB2 hx
   go_wp2_with fail
   go_roundg (m - (k + 1))
   case measure => omega
   case rel =>
    refine ⟨k + 1, by go_num, by omega, by first | rfl | trivial, HBE.out.setCell (by show w.heap.size <= w.heap.size; omega) _, ?_⟩
    have := HB2.out.set_ k (.int .i32 c.r)
    rw [<- HGK.out, qdb, qd1, HGK.out] at this
    exact this
  ·obtain rfl : k = m := by omega
   obtain ⟨wz, hwz⟩ : ∃ x, x = wr := ⟨_, rfl⟩
   subst hwz
   have hmk2 := HMK2.out
   go_wp2_with fail
   have S1 := qni wz k
   have b1 := xar wz (.cells (madeCells (hcA zHc) (k * 4)) 129)
   have hs1 : (wz.alloc (.cells (madeCells (hcA zHc) (k * 4)) 129)).heap.size = wz.heap.size + 1 := by simp
   obtain ⟨w1, hw1⟩ : ∃ w1, wz.alloc (.cells (madeCells (hcA zHc) (k * 4)) 129) = w1 := ⟨_, rfl⟩
   rw [hw1] at S1 b1 hs1 |-
   have hrow : Row (fun _ => False) w1 (.slice (some ⟨w.heap.size, 0, none⟩) k k) ((l.map (·.r)).map (Value.int .i32)) := by
    refine qb4 (hB.kb b1) (by rw [xao, xao, HM.out]) fun j x hj => ?_
    rw [xan, xan] at hj
    cases hc : l[j]? with
    | none => rw [hc] at hj; cases hj
    | some c =>
      have hjk := (xah hc).1
      rw [HM.out] at hjk
      rw [hc] at hj
      injection hj with hj
      rw [<- hj]
      unfold upF
      rw [if_pos hjk, HG.out, xal, hc]
      rfl
   have bel1 := bel.trans (b1.mono bel.size)
   have hbs := bel.size
   clear hw1 hmk2 b1 hB
   go_wp2_with fail
   refine (qwi _ k (l.map (·.r)) w1 (by rw [xao, HM.out]) hlen hrow).mono ?_
   rintro e w2 ⟨Gc, cs, rfl, hGc, hBc, hK, b2⟩
   have S2 := S1.below b2
   have bel2 := bel1.trans (b2.mono bel1.size)
   have hs2 := b2.size
   have HKc := xaa hK
   have HLE : Hid (w.heap.size <= wz.heap.size) := xaa hbs
   have e0 : List.replicate k zHc = rdc (hcOf ss) zHc l 0 := by rw [qt5, HM.out]
   rw [e0] at S2
   clear hrow S1 hK bel1 b2 e0 bel
   go_wp2_with fail
   go_loopg [34] k (fun kx i wr => ∃ (j : Nat), i = .int .i64 j /\ j <= k /\ kx = k - j /\ Below w.heap.size w wr /\ Strs wr wz.heap.size 129 4 ((rdc (hcOf ss) zHc l j).map hcA) /\ Blk wr Gc 5 cs /\ w1.heap.size <= wr.heap.size)
   case atStart => exact ⟨0, rfl, by omega, by omega, bel2, S2, hBc, hs2⟩
   case round =>
    clear S2 hBc bel2 hs2
    obtain ⟨j, rfl, hj, rfl, bel, hSt, hBc, hsq⟩ := hrel
    by_cases hlt : j < k
    ·obtain ⟨c, hc⟩ := at_ (l := l) (k := j) (by rw [HM.out]; exact hlt)
     obtain ⟨ad, cp, o, hv, hab, ha, hLi⟩ := HR.out.get bel hc
     rw [HM.out] at hv
     injection hv with hv1 hv2 hv3
     subst hv1 hv3
     obtain ⟨hn0, hn1⟩ := HND.out c (xav hc)
     obtain ⟨nd, hnd⟩ : ∃ nd : Nat, c.node = (nd : Int) := ⟨c.node.toNat, by omega⟩
     have hndl : nd < m2 := by omega
     obtain ⟨s, hs⟩ := at_ (l := ss) (k := nd) (by rw [HM2.out]; exact hndl)
     obtain ⟨adS, cps, os, hvs, habs, haS, hLs⟩ := HS.out.get bel hs
     rw [HM2.out] at hvs
     injection hvs with hvs1 hvs2 hvs3
     subst hvs1 hvs3
     have hst : stl ss c.node = s := qw2 hs hnd
     have hcl : cs[j]? = some (.int .u8 (clsOf c.r)) := HKc.out.2 j c.r hlt (by rw [xan, hc]; rfl)
     have c1 : wr.cell? ⟨ad.block, o + 1, none⟩ = some (.int .i64 c.node) := qgb hLi 1 rfl
     have c4 : wr.cell? ⟨ad.block, o + 4, none⟩ = some (.int .u8 c.kind) := qgb hLi 4 rfl
     have cB := (hBc.cell j).trans hcl
     obtain ⟨kd, hkd⟩ : ∃ x, c.kind = x := ⟨_, rfl⟩
     obtain ⟨cl, hcl2⟩ : ∃ x, clsOf c.r = x := ⟨_, rfl⟩
     have C1 : Hid (∀ W, Calls Tryz.prog 85 #[.int .u8 c.kind, .int .u8 (clsOf c.r), .agg s.cells] W fun e w' => e = .returned (.int .u8 (clsC c s)) /\ Below W.heap.size W w') := xaa fun W => by rw [<- inS_is]; exact qwc _ _ _ W
     obtain ⟨a0, ha0⟩ : ∃ x, s.a0 = x := ⟨_, rfl⟩
     obtain ⟨q, hq⟩ : ∃ x, clsC c s = x := ⟨_, rfl⟩
     have HC := xaa hc
     have HY : Hid (hcOf ss c = ⟨kd, cl, q, a0⟩) := xaa (by unfold hcOf; rw [hst, hkd, hcl2, hq, ha0])
     rw [hnd] at c1
     rw [hkd] at c4 C1
     rw [hcl2] at cB C1
     rw [hq] at C1
     have HA0 := xaa ha0
     have HL4 : Hid (∀ W, Below wr.heap.size wr W -> W.cell? ⟨ad.block, o + 4, none⟩ = some (.int .u8 kd)) := xaa fun W h => (h.cell (p := ⟨ad.block, o + 4, none⟩) (by show ad.block < _; have := bel.size; omega)).trans c4
     have hjz : (j : Int) < k := by omega
     have hndz : (nd : Int) < m2 := by omega
     have HBE := xaa bel
     have HST := xaa hSt
     have HBC := xaa hBc
     clear hv2 hvs2 hc hs hcl hst hn0 hn1 hLi hkd hcl2 hq ha0 hnd bel hSt hBc c4 hndl
     go_wp2_with (first
      | (refine ldS rfl (.tmp 45) rfl _ rfl s (by first | exact hLs | exact haS ▸ hLs) ?_)
      | (refine nwS (o1 := ⟨some 11, _, _, _, _, _⟩) rfl rfl 11 rfl rfl (.tmp 46) rfl rfl s (fun _ => rfl) (fun _ => rfl) ?_; intro w3 b3 B3; refine Mk.out ?_))
     constructor
     have CC : Hid (∀ W, Below w3.heap.size w3 W -> W.cell? ⟨ad.block, o + 4, none⟩ = some (.int .u8 kd) /\ qar W ⟨wr.heap.size, 0, none⟩ s.cells /\ W.cell? ⟨wr.heap.size, 0, none⟩ = some (.int .u8 a0)) := xaa fun W h => by
      have B4 := B3.kb h
      exact ⟨HL4.out W (xaq b3 h), B4.lies, by rw [B4.cell 0, <- HA0.out]; rfl⟩
     have HB3 := xaa b3
     clear c1 cB hLs b3 B3
     go_wp2_with fail
     refine qdn (by kernel_rfl) (fun W => Below w3.heap.size w3 W) (below_drewN (xas) 1) 20 (by rfl) (by kernel_rfl) (by kernel_rfl) (fun R hR => ?_)
     refine AllS.t_ (i := 0) ?_
     refine AllS.t_ (i := 1) ?_
     refine AllS.t_ (i := 2) ?_
     refine AllS.t_ (i := 3) ?_
     refine AllS.t_ (i := 4) ?_
     refine AllS.t_ (i := 5) ?_
     refine AllS.f_ (i := 6) CC.out ?_
     refine AllS.t_ (i := 7) ?_
     refine AllS.t_ (i := 8) ?_
     refine AllS.t_ (i := 9) ?_
     refine AllS.t_ (i := 10) ?_
     refine AllS.t_ (i := 11) ?_
     refine AllS.f_ (i := 12) CC.out ?_
     refine AllS.t_ (i := 13) ?_
     refine AllS.r_ (i := 14) (.agg s.cells) (fun W hSw => ?_) ?_
     ·(try dsimp only at hSw)
      exact rdS (.tmp 11) rfl _ rfl s (CC.out W hSw).2.1
     refine AllS.c_ (i := 15) (.int .u8 q) 85 #[.int .u8 kd, .int .u8 cl, .agg s.cells] (fun W hSw => ?_) ?_
     ·exact (C1.out W).mono fun e w' h => ⟨h.1, xaq hSw h.2⟩
     refine AllS.t_ (i := 16) ?_
     refine AllS.f_ (i := 17) CC.out ?_
     refine AllS.r_ (i := 18) (.agg (hcA ⟨kd, cl, q, a0⟩)) (fun W hSw => ?_) ?_
     ·(try dsimp only at hSw)
      kernel_rfl
     refine AllS.t_ (i := 19) ?_
     refine AllS.done (by kernel_rfl) (hR.out _ ?_) _
     clear hR R
     intro w5 b5
     have b35 := xaq HB3.out b5
     obtain ⟨cur, C9, hsz, hat⟩ := HST.out.below b35
     have hfit : j * 4 + 4 <= cur.size := by rw [hsz, xao, qqo _ _ _ (by rw [HM.out]; exact hj), HM.out]; exact qji hlt
     have HAT := xaa hat
     have HSZ := xaa hsz
     clear hat hsz
     refine qbh (by rw [xab]; rfl) rfl ?_
     refine qfr 129 (.tmp 66) (.tmp 65) rfl rfl wz.heap.size (j * 4) rfl (hcA ⟨kd, cl, q, a0⟩) rfl 129 cur C9 (iHc _) hfit (qux _) ?_
     intro w6 m6 B6
     have hlj : j < (rdc (hcOf ss) zHc l j).length := by rw [qqo _ _ _ (by rw [HM.out]; exact hj), HM.out]; exact hlt
     have E := Strs.set_ HSZ.out HAT.out (i := j) (by rw [xao]; exact hlj) (x := hcA ⟨kd, cl, q, a0⟩) rfl B6
     rw [<- List.map_set, <- HY.out, <- qt6 (hcOf ss) zHc HC.out] at E
     have hbq := HBE.out.size
     have b5s := b35.size
     have B5c := (HBC.out.kb b35).keep m6 (by omega)
     have bel6 := (HBE.out.trans (b35.mono hbq)).trans (m6.below (xau hbq b5s) (fun x hx => by have := HLE.out; omega))
     have hs6 : w1.heap.size <= w6.heap.size := xau hsq (xau b5s m6.size)
     clear C9 hfit B6 m6 b5 b35 b5s
     go_wp2_with fail
     go_roundg (k - (j + 1))
     case measure => omega
     case rel => exact ⟨j + 1, by go_num, by omega, by first | rfl | trivial, bel6, E, B5c, hs6⟩
    ·obtain rfl : j = k := by omega
     rw [show rdc (hcOf ss) zHc l j = l.map (hcOf ss) by rw [<- HM.out, qy2]] at hSt
     have HST := xaa hSt
     clear hSt
     go_wp2_with fail
     go_ret
     exact ⟨_, rfl, HLE.out, HST.out, bel⟩
end
section
open Go.Shelf
open Wh (Cr)
open Ch
attribute [local go_sem] Oper.semAt_some
def qpk (w : World) (v : Value) (l : List Hc) : Prop := qa5 4 (fun _ => False) w v (l.map fun s => (hcA s).toList)
theorem qpk.below {w w' : World} {v : Value} {l : List Hc} (h : qpk w v l) (b : Below w.heap.size w w') : qpk w' v l := qa5.below h b
theorem qpk.form {w : World} {v : Value} {l : List Hc} (h : qpk w v l) : ∃ A c, v = .slice A l.length c := by
 have := qa5.form h
 rwa [xao] at this
theorem qpk.get {w wx : World} {v : Value} {l : List Hc} (h : qpk w v l) (b : Below w.heap.size w wx) {i : Nat} {s : Hc} (hi : l[i]? = some s) :
 ∃ a cap o, v = .slice (some a) l.length cap /\ a.block < w.heap.size /\ a.add (i * 4) = ⟨a.block, o, none⟩ /\ qar wx ⟨a.block, o, none⟩ (hcA s) := by
 obtain ⟨a, cap, o, hv, hb, _, ha, hc⟩ := qa5.get h b (x := (hcA s).toList) (by rw [xan, hi]; rfl) (by simp [hcA])
 rw [xao] at hv
 exact ⟨a, cap, o, hv, hb, ha, qdq rfl hc⟩
theorem Strs.hc {w : World} {g n c : Nat} {l : List Hc} (h : Strs w g 129 4 (l.map hcA)) (hn : l.length = n) : qpk w (.slice (some ⟨g, 0, none⟩) n c) l := by
 have h2 : qa5 4 _ w (.slice (some ⟨g, 0, none⟩) n c) ((l.map hcA).map Array.toList) := h.row (by rw [xao]; exact hn)
 rw [List.map_map] at h2
 exact qa5.mono (S := fun b => b < g) (T := fun _ => False) h2 fun _ _ h => h.elim
section
variable {F : Fence} {n : Nat} {ops : Array Oper} {Q : Exit -> Act -> World -> Prop} {a : Act} {w : World} {rest : List Oper} {o o1 o2 : Oper}
theorem qxj (hF : ∀ f, F.fn f) (hg : o.guard = none) (x : Operand) (ho : o.op = .load 129 x) (p : Addr) (hx : a.eval x = .pointer (some p)) (s : Hc) (hL : qar w p (hcA s))
 (h : wpListIn F n Tryz.prog ops Q rest (a.put o.dst (.agg (hcA s))) w) : wpListIn F n Tryz.prog ops Q (o :: rest) a w :=
 wpListIn_val hF (fun c hc => by rw [ho] at hc; cases hc) hg _ rfl _ _ (rdHc x ho p hx s hL) h
theorem qxz (hF : ∀ f, F.fn f) (hg : o.guard = none) (ho : o.op = .alloc 129)
 (h : ∀ w', Below w.heap.size w w' -> Blk w' w.heap.size 129 (hcA zHc) -> wpListIn F n Tryz.prog ops Q rest (a.put o.dst (.pointer (some ⟨w.heap.size, 0, none⟩))) w') : wpListIn F n Tryz.prog ops Q (o :: rest) a w :=
 wpListIn_val hF (fun c hc => by rw [ho] at hc; cases hc) hg _ rfl _ _ (run_op_new _ ho (hcA zHc) alHc) (h _ (xar _ _) (Blk.new _ _ _))
theorem qw3 (hF : ∀ f, F.fn f) (hg : o.guard = none) (x y : Operand) (ho : o.op = .store 129 x y) (hd : o.dst = none) (g : Nat) (hx : a.eval x = .pointer (some ⟨g, 0, none⟩)) (s : Hc) (hy : a.eval y = .agg (hcA s)) {t : TypeId} (old : Hc) (hB : Blk w g t (hcA old))
 (h : ∀ w', Mod (fun k => k = g) w w' -> Blk w' g t (hcA s) -> wpListIn F n Tryz.prog ops Q rest a w') : wpListIn F n Tryz.prog ops Q (o :: rest) a w := by
 refine wpListIn_skp hF (fun c hc => by rw [ho] at hc; cases hc) hg hd (w.setRow g (spl (hcA old) 0 (hcA s).toList)) ?_ ?_
 ·exact run_op_store 129 x y ho g 0 hx (hcA s) hy t (hcA old) hB (iHc s) (by simp [hcA]) (qux s)
 ·refine h _ (qai _ _ _) ?_
  have e : spl (hcA old) 0 (hcA s).toList = hcA s := by simp [spl, hcA]
  rw [e]
  exact setRow_heap _ _ _ _ _ _ hB
end
structure Part (l : List Cr) (f t : Nat) : Prop where
 le : f <= t
 len : t <= l.length
 beg : f = 0 \/ ∃ i c, f = i + 1 /\ l[i]? = some c /\ c.kind = 5
 mid : ∀ k d, f <= k -> k < t -> l[k]? = some d -> d.kind ≠ 5
 fin : t = l.length \/ ∃ c, l[t]? = some c /\ c.kind = 5
abbrev PI (l : List Cr) := { p : Nat × Nat // Part l p.1 p.2 }
def encQ {l : List Cr} (x : PI l) : Array Value := #[.int .i64 (x.1.1 : Int), .int .i64 (x.1.2 : Int)]
def cov (xs : List (Nat × Nat)) (j : Nat) : Bool := xs.any fun p => decide (p.1 <= j) && decide (j < p.2)
theorem qfm (xs : List (Nat × Nat)) (p : Nat × Nat) (j : Nat) : cov (xs ++ [p]) j = (cov xs j || (decide (p.1 <= j) && decide (j < p.2))) := by simp [cov]
structure Upto (l : List Cr) (f k : Nat) (P : List (Nat × Nat)) : Prop where
 le : f <= k
 beg : f = 0 \/ ∃ i c, f = i + 1 /\ l[i]? = some c /\ c.kind = 5
 mid : ∀ j d, f <= j -> j < k -> l[j]? = some d -> d.kind ≠ 5
 cov : ∀ j c, j < f -> l[j]? = some c -> c.kind ≠ 5 -> cov P j = true
 len : P.length <= k
theorem Upto.go {l : List Cr} {f k : Nat} {P : List (Nat × Nat)} (h : Upto l f k P) {c : Cr} (hc : l[k]? = some c) (h5 : c.kind ≠ 5) : Upto l f (k + 1) P :=
 ⟨by have := h.le; omega, h.beg, fun j d h1 h2 hd => by
  by_cases e : j = k
  ·subst e
   rw [hc] at hd
   cases hd
   exact h5
  ·exact h.mid j d h1 (by omega) hd, h.cov, by have := h.len; omega⟩
theorem Upto.part {l : List Cr} {f k : Nat} {P : List (Nat × Nat)} (h : Upto l f k P) {c : Cr} (hc : l[k]? = some c) (h5 : c.kind = 5) : Part l f k :=
 ⟨h.le, by have := (xah hc).1; omega, h.beg, h.mid, .inr ⟨c, hc, h5⟩⟩
theorem Upto.last {l : List Cr} {f k : Nat} {P : List (Nat × Nat)} (h : Upto l f k P) (hk : k = l.length) : Part l f k :=
 ⟨h.le, by omega, h.beg, h.mid, .inl hk⟩
theorem Upto.next {l : List Cr} {f k : Nat} {P : List (Nat × Nat)} (h : Upto l f k P) {c : Cr} (hc : l[k]? = some c) (h5 : c.kind = 5) : Upto l (k + 1) (k + 1) (P ++ [(f, k)]) :=
 ⟨xat, .inr ⟨k, c, rfl, hc, h5⟩, fun j d h1 h2 => by omega, fun j d hj hd hd5 => by
  rw [qfm]
  by_cases e : j = k
  ·subst e
   rw [hc] at hd
   cases hd
   exact absurd h5 hd5
  ·by_cases e2 : j < f
   ·rw [h.cov j d e2 hd hd5]; rfl
   ·have : decide (f <= j) = true := decide_eq_true (by omega)
    have h3 : decide (j < k) = true := decide_eq_true (by omega)
    rw [this, h3]
    simp, by simp; exact h.len⟩
theorem Upto.all {l : List Cr} {f k : Nat} {P : List (Nat × Nat)} (h : Upto l f k P) (hk : k = l.length) : ∀ j c, l[j]? = some c -> c.kind ≠ 5 -> Go.Proofs.YtmceblkjbpbcoaaGreatDoor.cov (P ++ [(f, k)]) j = true := fun j c hc h5 => by
 have hj := (xah hc).1
 rw [qfm]
 by_cases e2 : j < f
 ·rw [h.cov j c e2 hc h5]; rfl
 ·have : decide (f <= j) = true := decide_eq_true (by omega)
  have h3 : decide (j < k) = true := decide_eq_true (by omega)
  rw [this, h3]
  simp
theorem qoq (A : Option Addr) (k c : Nat) (w : World) :
 Calls Tryz.prog 86 #[.slice A k c] w fun e w' => e = .returned (.func (.func 123) #[] #[.pointer (some ⟨w.heap.size, 0, none⟩)]) /\ Boxed w' w.heap.size 118 (.slice A k c) /\ Below w.heap.size w w' := by
 go_enter Tryz.func86, Tryz.ntmps86
 go_wp2
 go_ret
 exact ⟨rfl, Boxed.new _ _ _, xar _ _⟩
theorem qor (n Bs lp : Nat) (l : List Cr) (ss : List Sty) (v : Value) (w0 : World) (I : List (PI l) -> World -> Prop) (hlen : l.length <= 1048576)
 (hI : ∀ pre X Y, I pre X -> Mod (fun k => w0.heap.size <= k) X Y -> I pre Y)
 (hS : ∀ pre X, I pre X -> X.cell? ⟨Bs, 0, none⟩ = some v /\ qpk X v (l.map (hcOf ss)))
 (hY : ∀ (m : Nat) pre x W, I pre W -> pre.length < l.length + 1 -> YieldAt Fence.wide m Tryz.prog lp (encQ x) W fun e W' => e = .returned (.bool true) /\ I (pre ++ [x]) W' /\ Kq w0.heap.size W W')
 (h0 : I [] w0) :
 CallsIn Fence.wide n Tryz.prog 123 (#[.func (.yield lp) #[] #[]] ++ #[.pointer (some ⟨Bs, 0, none⟩)]) w0 fun e W' => (∃ v, e = .returned v) /\ ∃ xs : List (PI l), (∀ j c, l[j]? = some c -> c.kind ≠ 5 -> cov (xs.map (·.1)) j = true) /\ I xs W' := by
 have HI := xaa hI
 have HS := xaa hS
 have HY := xaa hY
 obtain ⟨A, cap, hv⟩ := (hS [] w0 h0).2.form
 obtain ⟨m, hm⟩ : ∃ m, l.length = m := ⟨_, rfl⟩
 have HM := xaa hm
 rw [xao, hm] at hv
 subst hv
 have hBs := (HS.out [] w0 h0).1
 rw [hm] at hlen
 clear hI hS hY hm
 refine callsIn_of_wp Tryz.func123 rfl trivial ?_ rfl
 simp only [Tryz.ntmps123, List.size_toArray, List.length_cons, List.length_nil, Nat.reduceAdd, Nat.reduceSub, Array.replicate_succ, Array.replicate_zero, List.push_toArray, List.append_toArray, List.nil_append, List.cons_append]
 gi_wp2_with fail
 gi_loopw [3, 8] (fun s3 s8 wr => ∃ (k f : Nat) (pre : List (PI l)), s3 = .int .i64 (f : Int) /\ s8 = .int .i64 (k : Int) /\ k <= m /\ Hid (Upto l f k (pre.map (·.1))) /\ I pre wr /\ w0.heap.size <= wr.heap.size)
  (fun s3 s8 _ => m - (intOf s8).toNat)
 case atStart => exact ⟨0, 0, [], by go_num, by go_num, Nat.zero_le _, xaa ⟨xat, .inl rfl, fun j d _ h => by omega, fun j c h => by omega, xat⟩, h0, xat⟩
 case round =>
  obtain ⟨k, f, pre, rfl, rfl, hk, HP, hJ, hsz⟩ := hrel
  clear h0 hBs
  by_cases h1 : k < m
  ·obtain ⟨c, hc⟩ := at_ (l := l) (k := k) (by rw [HM.out]; exact h1)
   have hch : (l.map (hcOf ss))[k]? = some (hcOf ss c) := by rw [xan, hc]; rfl
   obtain ⟨ad, cp, o, hv, hab, ha, hLi⟩ := (HS.out pre wr hJ).2.get (xas) hch
   rw [xao, HM.out] at hv
   injection hv with hv1 hv2 hv3
   subst hv1 hv3
   have hkz : (k : Int) < m := by omega
   have HJ := xaa hJ
   have HC := xaa hc
   obtain ⟨kd, hkd⟩ : ∃ x, c.kind = x := ⟨_, rfl⟩
   have HKD := xaa hkd
   obtain ⟨hx, hhx⟩ : ∃ x, hcOf ss c = x := ⟨_, rfl⟩
   have HHX : Hid (hx.kind = kd) := xaa (by rw [<- hhx, <- hkd]; rfl)
   rw [hhx] at hLi
   clear hv2 hc hch hJ hkd hhx
   gi_wp2_with (first
    | (refine qxj (o := ⟨some 12, _, _, _, _, _⟩) (fun _ => trivial) rfl (.tmp 11) rfl _ rfl hx (by first | exact hLi | exact ha ▸ hLi) ?_)
    | (refine qxz (fun _ => trivial) rfl rfl ?_; intro w1 b1 B1)
    | (refine qw3 (fun _ => trivial) rfl (.tmp 5) (.tmp 12) rfl rfl _ rfl hx rfl zHc B1 ?_; intro w2 m2 B2; refine Mk.out ?_))
   constructor
   have hJ2 : I pre w2 := HI.out pre w1 w2 (HI.out pre wr w1 HJ.out ((xap b1).mono fun i hi => (show (False : Prop) from hi).elim)) (m2.mono fun i hi => .inl (by omega))
   have hs1 := b1.size
   have hs2 := m2.size
   have c0 : w2.cell? ⟨wr.heap.size, 0, none⟩ = some (.int .u8 hx.kind) := B2.cell 0
   rw [HHX.out] at c0
   have hsz2 : w0.heap.size <= w2.heap.size := by omega
   clear hLi b1 B1 m2 B2 hs1 hs2
   by_cases h5 : kd = 5
   ·subst h5
    obtain ⟨pre2, hpre2⟩ : ∃ p, pre ++ [(⟨(f, k), HP.out.part HC.out HKD.out⟩ : PI l)] = p := ⟨_, rfl⟩
    have hpl : pre.length < l.length + 1 := by
     have := HP.out.len
     rw [xao] at this
     rw [HM.out]
     omega
    have HP2 : Hid (Upto l (k + 1) (k + 1) (pre2.map (·.1))) := xaa (by rw [<- hpre2, List.map_append]; exact HP.out.next HC.out HKD.out)
    obtain ⟨fn, tmps, assign, body, hy, hRd⟩ := HY.out (n - 1) pre ⟨(f, k), HP.out.part HC.out HKD.out⟩ w2 hJ2 hpl
    have hen : encQ (⟨(f, k), HP.out.part HC.out HKD.out⟩ : PI l) = #[.int .i64 (f : Int), .int .i64 (k : Int)] := rfl
    rw [hen] at hy
    rw [hpre2] at hRd
    clear hen hpre2 hJ2 hpl
    gi_wp2_with fail
    refine ⟨fun h => (by cases h), hRd.mono ?_⟩
    rintro e w4 ⟨rfl, hJ4, hk4⟩
    gi_wp2
    go_roundw
    case rel => exact ⟨k + 1, k + 1, pre2, by go_num, by go_num, by omega, HP2, hJ4, xau hsz2 hk4.1⟩
    case measure => simp [intOf]; omega
   ·gi_wp2
    go_roundw
    case rel => exact ⟨k + 1, f, pre, rfl, by go_num, by omega, xaa (HP.out.go HC.out (by rw [HKD.out]; exact h5)), hJ2, hsz2⟩
    case measure => simp [intOf]; omega
  ·obtain rfl : k = m := by omega
   have hBs := (HS.out pre wr hJ).1
   have HL : Hid (k = l.length) := xaa HM.out.symm
   obtain ⟨pre2, hpre2⟩ : ∃ p, pre ++ [(⟨(f, k), HP.out.last HL.out⟩ : PI l)] = p := ⟨_, rfl⟩
   have hpl : pre.length < l.length + 1 := by
    have := HP.out.len
    rw [xao] at this
    rw [HM.out]
    omega
   have HP2 : Hid (∀ j c, l[j]? = some c -> c.kind ≠ 5 -> cov (pre2.map (·.1)) j = true) := xaa (by rw [<- hpre2, List.map_append]; exact HP.out.all HL.out)
   obtain ⟨fn, tmps, assign, body, hy, hRd⟩ := HY.out (n - 1) pre ⟨(f, k), HP.out.last HL.out⟩ wr hJ hpl
   have hen : encQ (⟨(f, k), HP.out.last HL.out⟩ : PI l) = #[.int .i64 (f : Int), .int .i64 (k : Int)] := rfl
   rw [hen] at hy
   rw [hpre2] at hRd
   clear hen hpre2 hJ hpl HY
   gi_wp2_with fail
   refine ⟨fun h => (by cases h), hRd.mono ?_⟩
   rintro e w4 ⟨rfl, hJ4, hk4⟩
   gi_wp2
   go_end0
   exact ⟨⟨_, rfl⟩, pre2, HP2.out, hJ4⟩
end
section
open Go.Shelf
open Wh (Cr)
open Ch
def bkF (ss : List Sty) (l : List Cr) (j : Nat) : Bool := qs8 ss (Ch.stC ss z0 (l.take j)).1 (l.getD j zCr)
def clL (ss : List Sty) (l : List Cr) : List Int := l.map fun c => clsC c (stl ss c.node)
theorem qsh (ss : List Sty) (l : List Cr) : (clL ss l).length = l.length := by simp [clL]
theorem q0n (ss : List Sty) (l : List Cr) : ∀ c ∈ clL ss l, 0 <= c := fun c hc => by
 obtain ⟨x, _, rfl⟩ := List.mem_map.1 hc
 exact (q0m x _).1
theorem qss {ss : List Sty} {l : List Cr} {j : Nat} {c : Cr} (h : l[j]? = some c) : bkF ss l j = qs8 ss (Ch.stC ss z0 (l.take j)).1 c := by
 unfold bkF
 rw [xal, h]
 rfl
theorem qg7 {α : Type} (p : α -> Bool) : ∀ (n : Nat) (m : List α), (∀ k d, k < n -> m[k]? = some d -> p d = true) -> n <= m.length -> (m.length = n \/ ∃ d, m[n]? = some d /\ p d = false) -> m.takeWhile p = m.take n
 | 0, [], _, _, _ => rfl
 | 0, x :: t, _, _, h => by
   rcases h with h | ⟨d, hd, hp⟩
   ·simp at h
   ·simp at hd
    subst hd
    simp [hp]
 | n + 1, [], _, h, _ => by simp at h
 | n + 1, x :: t, h0, h1, h2 => by
   have hx : p x = true := h0 0 x (by omega) rfl
   rw [List.takeWhile_cons, if_pos hx, List.take_succ_cons]
   congr 1
   exact qg7 p n t (fun k d hk hd => h0 (k + 1) d (by omega) (by simpa using hd)) (by simpa using h1) (by
    rcases h2 with h | ⟨d, hd, hp⟩
    ·exact .inl (by simpa using h)
    ·exact .inr ⟨d, by simpa using hd, hp⟩)
theorem qua {ss : List Sty} {l : List Cr} {f t : Nat} (h : Part l f t) : prt ss (l.drop f) = ((clL ss l).drop f).take (t - f) := by
 unfold prt clL
 rw [<- List.map_drop, <- List.map_take]
 congr 1
 have hle := h.le
 have hlen := h.len
 refine qg7 _ (t - f) (l.drop f) (fun k d hk hd => ?_) (by rw [List.length_drop]; omega) ?_
 ·rw [List.getElem?_drop] at hd
  simpa using h.mid (f + k) d (by omega) (by omega) hd
 ·rcases h.fin with e | ⟨c, hc, h5⟩
  ·exact .inl (by rw [List.length_drop]; omega)
  ·exact .inr ⟨c, by rw [List.getElem?_drop, show f + (t - f) = t by omega]; exact hc, by simp [h5]⟩
def prB (ss : List Sty) (l : List Cr) (f t : Nat) : List Bool := qew (((clL ss l).drop f).take (t - f))
theorem qqu {ss : List Sty} {l : List Cr} {f t : Nat} (h : Part l f t) : (prB ss l f t).length = t - f := by
 have := h.len
 unfold prB
 rw [qgp, List.length_take, List.length_drop, qsh]
 omega
theorem prB_at {ss : List Sty} {l : List Cr} {f t : Nat} (h : Part l f t) {i : Nat} (h1 : f <= i) (h2 : i < t) : (prB ss l f t)[i - f]? = some (bkF ss l i) := by
 obtain ⟨c, hc⟩ := at_ (l := l) (k := i) (by have := h.len; omega)
 have e := qus (ss := ss) h1 hc h.beg fun k d hk hki hd => h.mid k d hk (by omega) hd
 rw [qua h] at e
 have hl : i - f < (prB ss l f t).length := by rw [qqu h]; omega
 have e2 : (((prB ss l f t)[i - f]?).getD false) = qs8 ss (Ch.stC ss z0 (l.take i)).1 c := e
 rw [xac hl] at e2 |-
 rw [qss hc, <- e2]
 rfl
theorem qo0 {ss : List Sty} {l : List Cr} {j : Nat} {c : Cr} (h : l[j]? = some c) (h5 : c.kind = 5) : bkF ss l j = false := by
 rw [qss h]
 unfold qs8
 rw [if_pos h5]
theorem qwo {ss : List Sty} {l : List Cr} {P : List (Nat × Nat)} (h : ∀ j c, l[j]? = some c -> c.kind ≠ 5 -> cov P j = true) {j : Nat} (hj : j < l.length) : (cov P j && bkF ss l j) = bkF ss l j := by
 obtain ⟨c, hc⟩ := at_ hj
 by_cases h5 : c.kind = 5
 ·rw [qo0 hc h5, Bool.and_false]
 ·rw [h j c hc h5, Bool.true_and]
theorem qdc {n : Nat} {F G : Nat -> Value} (h : ∀ j, j < n -> F j = G j) : qa0 n F = qa0 n G := by
 apply Array.ext_getElem?
 intro j
 by_cases hj : j < n
 ·rw [qaw hj, qaw hj, h j hj]
 ·rw [Array.getElem?_eq_none_iff.2 (by rw [qa1]; omega), Array.getElem?_eq_none_iff.2 (by rw [qa1]; omega)]
theorem qqh {n : Nat} {F G : Nat -> Value} {cs : List Value} {f fo : Nat} (hf : f + cs.length <= n) (hfo : fo = f \/ (cs = [] /\ fo <= n)) (hin : ∀ j v, cs[j]? = some v -> G (f + j) = v) (hout : ∀ j, j < n -> ¬ (f <= j /\ j < f + cs.length) -> G j = F j) :
 ((qa0 n F).toList.take fo ++ cs ++ (qa0 n F).toList.drop (fo + cs.length)).toArray = qa0 n G := by
 have e : ((qa0 n F).toList.take fo ++ cs ++ (qa0 n F).toList.drop (fo + cs.length)).toArray = spl (qa0 n F) fo cs := by unfold spl; rw [List.append_assoc]
 rw [e]
 rcases hfo with rfl | ⟨rfl, _⟩
 ·apply Array.ext_getElem?
  intro j
  by_cases hj : fo <= j /\ j < fo + cs.length
  ·obtain ⟨k, rfl⟩ : ∃ k, j = fo + k := ⟨j - fo, by omega⟩
   rw [qdl _ _ _ (by rw [qa1]; omega) k (by omega), qaw (by omega)]
   obtain ⟨v, hv⟩ : ∃ v, cs[k]? = some v := ⟨_, xac (by omega)⟩
   rw [hv, hin k v hv]
  ·rw [qbp _ _ _ (by rw [qa1]; omega) j (by omega)]
   by_cases hn : j < n
   ·rw [qaw hn, qaw hn, hout j hn hj]
   ·rw [Array.getElem?_eq_none_iff.2 (by rw [qa1]; omega), Array.getElem?_eq_none_iff.2 (by rw [qa1]; omega)]
 ·rw [qqb]
  exact qdc fun j hj => (hout j hj (by simp)).symm
def qmj (g n f t : Nat) : Value := .slice (if n = f then some ⟨g, 0, none⟩ else some ((⟨g, 0, none⟩ : Addr).add f)) (t - f) (n - f)
theorem qrc (g n f t : Nat) : qmj g n f t = .slice (some ⟨g, if n = f then 0 else f, none⟩) (t - f) (n - f) := by
 unfold qmj
 by_cases e : n = f
 ·rw [if_pos e, if_pos e]
 ·rw [if_neg e, if_neg e]
  have : (⟨g, 0, none⟩ : Addr).add f = ⟨g, f, none⟩ := by unfold Addr.add; split <;> simp_all
  rw [this]
theorem qyw (g n f t : Nat) (W : World) (h1 : f <= t) (h2 : t <= n) : (Instr.slice 73 (.slice (some ⟨g, 0, none⟩) n n) (some (.int .i64 (f : Int))) (some (.int .i64 (t : Int))) none).run Tryz.prog W = .ok (qmj g n f t) W := by
 have h3 : (f : Int) <= t := by omega
 have h4 : (t : Int) <= n := by omega
 have h5 : (f : Int) <= n := by omega
 unfold qmj
 go_simp
theorem qyv (g n f t : Nat) (W : World) (h1 : f <= t) (h2 : t <= n) : (Instr.slice 120 (.slice (some ⟨g, 0, none⟩) n n) (some (.int .i64 (f : Int))) (some (.int .i64 (t : Int))) none).run Tryz.prog W = .ok (qmj g n f t) W := by
 have h3 : (f : Int) <= t := by omega
 have h4 : (t : Int) <= n := by omega
 have h5 : (f : Int) <= n := by omega
 unfold qmj
 go_simp
theorem qzp {W : World} {g n f t : Nat} {ty : TypeId} {gc : Nat -> Value} {xs : List Int} (hB : Blk W g ty (qa0 n gc)) (hx : xs.length = n) (hg : ∀ j x, xs[j]? = some x -> gc j = .int .u8 x) (h1 : f <= t) (h2 : t <= n) : R8 W (qmj g n f t) ((xs.drop f).take (t - f)) := by
 rw [qrc]
 have hlen : ((xs.drop f).take (t - f)).length = t - f := by rw [List.length_take, List.length_drop]; omega
 refine .inr ⟨⟨g, if n = f then 0 else f, none⟩, n - f, by rw [qd6, hlen], .inr ⟨hB.lt, id⟩, fun j u hj => ?_⟩
 have hjl : j < t - f := by
  have := (xah hj).1
  rwa [qd6, hlen] at this
 have hnf : ¬ n = f := by omega
 rw [if_neg hnf]
 have e : (⟨g, f, none⟩ : Addr).add j = ⟨g, f + j, none⟩ := by unfold Addr.add; split <;> simp_all
 rw [e, hB.cell, qaw (by omega)]
 unfold r8 at hj
 rw [xan, List.getElem?_take, if_pos hjl, List.getElem?_drop] at hj
 cases hq : xs[f + j]? with
 | none => rw [hq] at hj; cases hj
 | some x =>
   rw [hq] at hj
   injection hj with hj
   rw [hg _ x hq, <- hj]
structure Pl (w0 : World) (L Gc Bc Ge Be Bs n : Nat) (gc : Nat -> Value) (bk : Nat -> Bool) (vl : Value) (rdy : Obj) (P : List (Nat × Nat)) (X : World) : Prop where
 cl : Blk X Gc 5 (qa0 n gc)
 bc : Boxed X Bc 73 (.slice (some ⟨Gc, 0, none⟩) n n)
 row : Blk X Ge 4 (qa0 n fun j => .bool (cov P j && bk j))
 be : Boxed X Be 120 (.slice (some ⟨Ge, 0, none⟩) n n)
 ls : Boxed X Bs 118 vl
 loop : X.heap[L]? = some rdy
 defd : X.heap[L - 1]? = some (.deferred (some []))
 below : Below w0.heap.size w0 X
 size : L < X.heap.size
section
variable {w0 : World} {L Gc Bc Ge Be Bs n : Nat} {gc : Nat -> Value} {bk : Nat -> Bool} {vl : Value} {rdy : Obj} {P : List (Nat × Nat)} {X Y : World}
theorem Pl.mod {B : Nat} (h : Pl w0 L Gc Bc Ge Be Bs n gc bk vl rdy P X) (hB : L < B) (h1 : Gc < B) (h2 : Bc < B) (h3 : Ge < B) (h4 : Be < B) (h5 : Bs < B) (h6 : w0.heap.size <= B) (m : Mod (fun k => B <= k) X Y) : Pl w0 L Gc Bc Ge Be Bs n gc bk vl rdy P Y :=
 ⟨h.cl.keep m (by omega), (m.block _ h.bc.lt (by omega)).trans h.bc, h.row.keep m (by omega), (m.block _ h.be.lt (by omega)).trans h.be, (m.block _ h.ls.lt (by omega)).trans h.ls,
  (m.block _ h.size (by omega)).trans h.loop, (m.block _ (by have := h.size; omega) (by omega)).trans h.defd, h.below.trans (m.below h.below.size (fun k hk => by omega)), Nat.lt_of_lt_of_le h.size m.size⟩
theorem Pl.put (o : Obj) (h : Pl w0 L Gc Bc Ge Be Bs n gc bk vl rdy P X) (h0 : w0.heap.size <= L - 1) (h1 : Gc < L - 1) (h2 : Bc < L - 1) (h3 : Ge < L - 1) (h4 : Be < L - 1) (h5 : Bs < L - 1) : Pl w0 L Gc Bc Ge Be Bs n gc bk vl o P (X.putObj L o) := by
 have k : ∀ j, j ≠ L -> (X.putObj L o).heap[j]? = X.heap[j]? := fun j hj => World.putObj_heap_other hj
 exact ⟨(k _ (by omega)).trans h.cl, (k _ (by omega)).trans h.bc, (k _ (by omega)).trans h.row, (k _ (by omega)).trans h.be, (k _ (by omega)).trans h.ls, World.putObj_heap_same h.size, (k _ (by omega)).trans h.defd,
  h.below.grown (grownBy_putObj' X L o) h.below.size (fun j e => by injection e with e; omega), by simp [World.putObj]; exact h.size⟩
theorem Pl.over {P' : List (Nat × Nat)} (h : Pl w0 L Gc Bc Ge Be Bs n gc bk vl rdy P X) (m : Mod (fun k => k = Ge) X Y) (hb : w0.heap.size <= Ge) (h1 : Gc ≠ Ge) (h2 : Bc ≠ Ge) (h3 : Be ≠ Ge) (h4 : Bs ≠ Ge) (h5 : L ≠ Ge) (h6 : L - 1 ≠ Ge)
 (hr : Blk Y Ge 4 (qa0 n fun j => .bool (cov P' j && bk j))) : Pl w0 L Gc Bc Ge Be Bs n gc bk vl rdy P' Y :=
 ⟨h.cl.keep m h1, (m.block _ h.bc.lt h2).trans h.bc, hr, (m.block _ h.be.lt h3).trans h.be, (m.block _ h.ls.lt h4).trans h.ls,
  (m.block _ h.size h5).trans h.loop, (m.block _ (by have := h.size; omega) h6).trans h.defd, h.below.trans (m.below h.below.size (fun k hk => by omega)), Nat.lt_of_lt_of_le h.size m.size⟩
end
end
end Go.Proofs.YtmceblkjbpbcoaaGreatDoor
