/- The walk of CellsEnds. Conditions: what is handed in lies where its slices say, its numbers fit their kinds; the tables lie as the program's text lays them. -/
import Derived.Test.YtmceblkjbpbcoaaGreatDoorCeEndsM
namespace Go.Proofs.YtmceblkjbpbcoaaGreatDoor.Ce
set_option maxRecDepth 100000
set_option maxHeartbeats 1000000
open Go.ChangeShapes Go.WideShapes Go.ChangeAt Go.RowKit Go.Shelf
open Ar
open Wh (Cr)
open Fo (Fnt W64)
theorem uGn : Tryz.prog.underlying 27 = some (.struct (Tryz.prog.fieldsOf 27)) := by kernel_rfl
theorem iGn (z : Int) (A1 A2 A3 : Option Addr) (n1 n2 n3 c1 c2 c3 : Nat) : (Tryz.prog.info? 27).map (·.size) = some (#[Value.int .i64 z, .slice A1 n1 c1, .slice A2 n2 c2, .slice A3 n3 c3] : Array Value).size := by kernel_rfl
theorem ldGn {ops : Array Oper} {Q : Exit -> Act -> World -> Prop} {a : Act} {w : World} {rest : List Oper} {o : Oper} (hg : o.guard = none) (x : Operand) (ho : o.op = .load 27 x) (p : Addr) (hx : a.eval x = .pointer (some p)) (z : Int) (A1 A2 A3 : Option Addr) (n1 n2 n3 c1 c2 c3 : Nat) (hL : qar w p #[.int .i64 z, .slice A1 n1 c1, .slice A2 n2 c2, .slice A3 n3 c3])
 (h : wpList Tryz.prog ops Q rest (a.put o.dst (.agg #[.int .i64 z, .slice A1 n1 c1, .slice A2 n2 c2, .slice A3 n3 c3])) w) : wpList Tryz.prog ops Q (o :: rest) a w :=
 qan hg 27 x ho p hx _ _ hL uGn rfl (iGn z A1 A2 A3 n1 n2 n3 c1 c2 c3) h
structure Hands (w : World) (l : List Nod) (v : Value) (z : Int) (A1 A2 A3 : Option Addr) (q m n3 c1 c2 c3 : Nat) (ss : List Sty) (fs : List Fnt) (at_ : List Int) : Prop where
 made : ∀ W, Below w.heap.size w W -> Calls Tryz.prog 7 #[v] W (qfp l W)
 great : ∀ W, Below w.heap.size w W -> Calls Tryz.prog 8 #[v, .agg #[.int .i64 z, .slice A1 q c1, .slice A2 m c2, .slice A3 n3 c3]] W (qgv l ss fs n3 W)
 head : ∀ W, Below w.heap.size w W -> Calls Tryz.prog 9 #[] W fun e w' => e = .returned (.bool true) /\ Below W.heap.size W w'
 cells : ∀ W p, Below w.heap.size w W -> Tr W p l -> chkT l = 0 -> Small l ss fs n3 -> Calls Tryz.prog 10 #[p, .int .i64 z, .slice A1 q c1, .slice A2 m c2, .slice A3 n3 c3] W (qkl l z ss fs at_ W)
theorem qj0 (l : List Nod) (v : Value) (z : Int) (A1 A2 A3 : Option Addr) (c1 c2 c3 : Nat) (ss : List Sty) (fs : List Fnt) (at_ : List Int) (w : World) (hN : Ns w v l) (hW : WfL l) (hn : l.length <= 9223372036854775807) (hM : Ms w (.slice A1 ss.length c1) (.slice A2 fs.length c2) (.slice A3 at_.length c3) ss fs at_) (h64 : ∀ s ∈ ss, W64 s.a6)
 (hs : ss.length <= 9223372036854775807) (hf : fs.length <= 9223372036854775807) (ha : at_.length <= 9223372036854775807) (hT : Tbs w) : Hands w l v z A1 A2 A3 ss.length fs.length at_.length c1 c2 c3 ss fs at_ where
 made W b := qse l v W (hN.below b) hW (hT.below b).ar
 great W b := qov l v z A1 A2 A3 at_.length c1 c2 c3 ss fs W (hN.below b) hn (hM.f.below b) hf hs ha
 head W b := qsl W (hT.below b)
 cells W p b h hg hS := qoy p l z A1 A2 A3 c1 c2 c3 ss fs at_ W h hg hS (hT.below b) (hM.below b) h64
theorem se_or {sf em : Bool} (h : ¬ (sf = false /\ em = false)) : sf = true \/ em = true := by cases sf <;> cases em <;> simp_all
theorem se_cs {sf em : Bool} (h : ¬ (sf = false /\ em = false)) (h2 : ¬ (sf = true /\ em = true)) : (sf = true /\ em = false) \/ (sf = false /\ em = true) := by cases sf <;> cases em <;> simp_all
theorem qar.cl {w : World} {g o : Nat} {x : Cl} (h : qar w ⟨g, o, none⟩ (clA x)) : w.cell? ⟨g, o, none⟩ = some (.int .u8 x.k) /\ w.cell? ⟨g, o + 1, none⟩ = some (.int .i64 x.node) /\ w.cell? ⟨g, o + 2, none⟩ = some (.int .i64 x.ch) /\ w.cell? ⟨g, o + 3, none⟩ = some (.int .i64 x.adv) /\ w.cell? ⟨g, o + 4, none⟩ = some (.bool x.sf) /\ w.cell? ⟨g, o + 5, none⟩ = some (.bool x.em) :=
 ⟨h.at_ 0 rfl, h.at_ 1 rfl, h.at_ 2 rfl, h.at_ 3 rfl, h.at_ 4 rfl, h.at_ 5 rfl⟩
theorem qk5 (l : List Nod) (v : Value) (z : Int) (A1 A2 A3 : Option Addr) (q m n3 c1 c2 c3 : Nat) (ss : List Sty) (fs : List Fnt) (at_ : List Int) (w : World) (hH : Hands w l v z A1 A2 A3 q m n3 c1 c2 c3 ss fs at_) :
 Calls Tryz.prog 4 #[v, .agg #[.int .i64 z, .slice A1 q c1, .slice A2 m c2, .slice A3 n3 c3]] w fun e w' => e = .returned (.bool true) /\ Below w.heap.size w w' := by
 have HH := Lib.hid hH
 clear hH
 go_enter Tryz.func4, Tryz.ntmps4
 go_wp2_with (refine q0u rfl (.tmp 1) rfl z A1 A2 A3 q m n3 c1 c2 c3 rfl ?_; intro w1 b1 B1; refine Mk.out ?_)
 constructor
 obtain ⟨g, hg⟩ : ∃ g, w.heap.size = g := ⟨_, rfl⟩
 rw [hg] at B1 |-
 have HB1 := Lib.hid b1
 have HBB := Lib.hid B1
 have HG := Lib.hid hg
 clear b1 B1 hg
 go_wp2_with fail
 refine (HH.out.made _ HB1.out).mono ?_
 rintro e w2 ⟨hmade, b2⟩
 have HB2 := Lib.hid (below_seq HB1.out b2)
 have B2 := HBB.out.keep (S := fun _ => False) (Mod.of_below b2) id
 have HBB2 := Lib.hid B2
 clear b2 B2
 have tl : ∀ W, Below w.heap.size w W -> Calls Tryz.prog 9 #[] W fun e w' => e = .returned (.bool true) /\ Below w.heap.size w w' := fun W b => (HH.out.head W b).mono fun e w' ⟨q1, q2⟩ => ⟨q1, below_seq b q2⟩
 have TL := Lib.hid tl
 clear tl
 obtain ⟨pt, hpt⟩ : ∃ pt, e = .returned (.pointer pt) := by
  rcases hmade with ⟨_, p, rfl, _⟩ | ⟨_, rfl⟩ <;> exact ⟨_, rfl⟩
 subst hpt
 have HM := Lib.hid hmade
 clear hmade
 go_wp2_with (refine ldGn rfl (.tmp 3) rfl _ rfl z A1 A2 A3 q m n3 c1 c2 c3 HBB2.out.lies ?_)
 refine (HH.out.great _ HB2.out).mono ?_
 rintro e w3 ⟨b, rfl, hsm, b3⟩
 have HB3 := Lib.hid (below_seq HB2.out b3)
 have B3 := HBB2.out.keep (S := fun _ => False) (Mod.of_below b3) id
 have HSM := Lib.hid hsm
 cases b with
 | true =>
   clear b3 hsm
   go_wp2_with fail
   refine (TL.out _ HB3.out).mono ?_
   rintro e w4 ⟨rfl, b4⟩
   have HB4 := Lib.hid b4
   clear b4
   go_wp2_with fail
   go_ret
   exact ⟨rfl, HB4.out⟩
 | false =>
   cases pt with
   | none =>
     clear b3 hsm
     go_wp2_with fail
     refine (TL.out _ HB3.out).mono ?_
     rintro e w4 ⟨rfl, b4⟩
     have HB4 := Lib.hid b4
     clear b4
     go_wp2_with fail
     go_ret
     exact ⟨rfl, HB4.out⟩
   | some p =>
     have HTR : Hid (chkT l = 0 /\ Tr w3 (.pointer (some p)) l) := Lib.hid (by
      rcases HM.out with ⟨h0, p', he, h2⟩ | ⟨_, he⟩
      ·injection he with he
       injection he with he
       injection he with he
       subst he
       exact ⟨h0, h2.below b3⟩
      ·injection he with he
       injection he with he
       cases he)
     clear b3 hsm HM
     have h0 := B3.cell 0
     have h1 := B3.cell 1
     have h2 := B3.cell 2
     have h3 := B3.cell 3
     simp only [List.getElem?_toArray, List.getElem?_cons_succ, List.getElem?_cons_zero] at h0 h1 h2 h3
     go_wp2_with fail
     refine (HH.out.cells _ _ HB3.out HTR.out.2 HTR.out.1 (HSM.out trivial)).mono ?_
     clear h0 h1 h2 h3 B3
     rintro e w4 ⟨⟨k, hzk, hO, u1, u2, rfl, _, hU⟩ | ⟨_, f, hf, rfl⟩, b4⟩
     ·have HB4 := Lib.hid (below_seq HB3.out b4)
      have HTre := Lib.hid ((qci l).1 HTR.out.1).tre
      have HE := Lib.hid (fun (i : Nat) (u : Cl) (h : (cellL ss fs at_ l k)[i]? = some u) => q0g (ss := ss) (fs := fs) (at_ := at_) HTre.out hO.lt h)
      obtain ⟨hm1, hm2⟩ := qtr HTR.out.1 (HSM.out trivial)
      have hnb := (qwf (ss := ss) (fs := fs) (at_ := at_) HTre.out hO.lt hm1 hm2).1
      clear hm1 hm2
      have HU := Lib.hid hU
      obtain ⟨U, cu, rfl⟩ := hU.form
      obtain ⟨cl, hcl⟩ : ∃ cl, cellL ss fs at_ l k = cl := ⟨_, rfl⟩
      rw [hcl] at HU HE hnb |-
      obtain ⟨n, hn⟩ : ∃ n, cl.length = n := ⟨_, rfl⟩
      have HN := Lib.hid hn
      rw [hn] at HU hnb |-
      clear hU b4 hcl hn hzk hO
      go_wp2_with fail
      go_loopg [9] n (fun kx s9 wr => w4 = wr /\ ∃ i : Nat, s9 = .int .i64 i /\ i <= n /\ kx = n - i)
      case atStart => exact ⟨rfl, 0, rfl, by omega, rfl⟩
      case round =>
       obtain ⟨rfl, i, rfl, hi, rfl⟩ := hrel
       by_cases hlt : i < n
       ·have hz : (i : Int) < n := by omega
        obtain ⟨x, hx⟩ := qey (l := cl) (i := i) (by rw [HN.out]; exact hlt)
        obtain ⟨a1, cap1, o1, hv, _, ha1, hL1⟩ := HU.out.get (Below.refl _ _) hx
        rw [HN.out] at hv
        injection hv with hv1 _ hv3
        subst hv1 hv3
        obtain ⟨f0, f1, f2, f3, f4, f5⟩ := qar.cl hL1
        clear f1 f2 f3
        have HX := Lib.hid (HE.out i x hx)
        obtain ⟨xk, xn, xc, xa, sf, em⟩ := x
        clear hx hL1
        dsimp only at f0 f4 f5
        by_cases hse : sf = false /\ em = false
        ·obtain ⟨rfl, rfl⟩ := hse
         go_wp2_with fail
         go_roundg (n - (i + 1))
         case measure => omega
         case rel => exact ⟨rfl, i + 1, by go_num, by omega, rfl⟩
        ·have HX2 : Hid (xk ≠ 8 /\ xk ≠ 5 /\ ¬ (sf = true /\ em = true) /\ ∃ v, lastN (cl.take i) = some v /\ 0 <= v.ch /\ v.k ≠ 5) := Lib.hid (HX.out (se_or hse))
         clear HX
         obtain ⟨x8, x5, xse, y0, hy0, hy1, hy2⟩ := HX2.out
         have h8 : (xk == 8) = false := by simpa using x8
         have h5 : (xk == 5) = false := by simpa using x5
         have HY := Lib.hid (⟨hy0, hy1, hy2⟩ : lastN (cl.take i) = some y0 /\ 0 <= y0.ch /\ y0.k ≠ 5)
         clear HX2 x8 x5 hy0 hy1 hy2
         have hcase := se_cs hse xse
         clear xse hse
         rcases hcase with ⟨rfl, rfl⟩ | ⟨rfl, rfl⟩
         ·go_wp2_with fail
          go_loopg [10] (2 * i) (fun kx s10 wr => w4 = wr /\ ∃ j : Nat, s10 = .int .i64 ((j : Int) - 1) /\ j <= i /\ kx = 2 * j /\ Hid (lastN (cl.take j) = lastN (cl.take i)))
          case atStart => exact ⟨rfl, i, by go_num, by omega, rfl, Lib.hid rfl⟩
          case round =>
           obtain ⟨rfl, j, rfl, hj, rfl, HJ⟩ := hrel
           cases j with
           | zero => exact absurd (HJ.out.trans HY.out.1) (by intro h; cases h)
           | succ m2 =>
             have hm2 : ((m2 + 1 : Nat) : Int) - 1 = m2 := by omega
             rw [hm2]
             have hmn : m2 < n := by omega
             have hmz : (m2 : Int) < n := by omega
             have hm0 : (0 : Int) <= m2 := by omega
             obtain ⟨y, hy⟩ := qey (l := cl) (i := m2) (by rw [HN.out]; exact hmn)
             obtain ⟨a2, cap2, o2, hv2, _, ha2, hL2⟩ := HU.out.get (Below.refl _ _) hy
             rw [HN.out] at hv2
             injection hv2 with hv4 _ hv5
             injection hv4 with hv4
             subst hv4 hv5
             obtain ⟨e0, e1, e2, e3, e4, e5⟩ := qar.cl hL2
             clear e1 e3 e4 e5
             have HLN := Lib.hid (qhl hy)
             obtain ⟨yk, yn, yc, ya, ys, ye⟩ := y
             clear hy hL2 hm2
             dsimp only at e0 e2
             by_cases hy8 : yk = 8
             ·subst hy8
              have HJ2 : Hid (lastN (cl.take m2) = lastN (cl.take i)) := Lib.hid (by rw [<- HJ.out, HLN.out]; rfl)
              clear HJ HLN
              go_wp2_with fail
              go_roundg (2 * m2)
              case measure => omega
              case rel => exact ⟨rfl, m2, by go_num, by omega, rfl, HJ2⟩
             ·have hyy : (⟨yk, yn, yc, ya, ys, ye⟩ : Cl) = y0 := by
               have h1 := HJ.out.trans HY.out.1
               rw [HLN.out, if_neg hy8] at h1
               injection h1
              have hyc : 0 <= yc := by have := HY.out.2.1; rw [<- hyy] at this; exact this
              have hy5 : (yk == 5) = false := by have := HY.out.2.2; rw [<- hyy] at this; simpa using this
              have hyb : (yk == 8) = false := by simpa using hy8
              clear HJ HLN hyy hy8
              go_wp2_with fail
              go_roundg (n - (i + 1))
              case measure => omega
              case rel => exact ⟨rfl, i + 1, by go_num, by omega, rfl⟩
         ·go_wp2_with fail
          go_loopg [10] (2 * i) (fun kx s10 wr => w4 = wr /\ ∃ j : Nat, s10 = .int .i64 ((j : Int) - 1) /\ j <= i /\ kx = 2 * j /\ Hid (lastN (cl.take j) = lastN (cl.take i)))
          case atStart => exact ⟨rfl, i, by go_num, by omega, rfl, Lib.hid rfl⟩
          case round =>
           obtain ⟨rfl, j, rfl, hj, rfl, HJ⟩ := hrel
           cases j with
           | zero => exact absurd (HJ.out.trans HY.out.1) (by intro h; cases h)
           | succ m2 =>
             have hm2 : ((m2 + 1 : Nat) : Int) - 1 = m2 := by omega
             rw [hm2]
             have hmn : m2 < n := by omega
             have hmz : (m2 : Int) < n := by omega
             have hm0 : (0 : Int) <= m2 := by omega
             obtain ⟨y, hy⟩ := qey (l := cl) (i := m2) (by rw [HN.out]; exact hmn)
             obtain ⟨a2, cap2, o2, hv2, _, ha2, hL2⟩ := HU.out.get (Below.refl _ _) hy
             rw [HN.out] at hv2
             injection hv2 with hv4 _ hv5
             injection hv4 with hv4
             subst hv4 hv5
             obtain ⟨e0, e1, e2, e3, e4, e5⟩ := qar.cl hL2
             clear e1 e3 e4 e5
             have HLN := Lib.hid (qhl hy)
             obtain ⟨yk, yn, yc, ya, ys, ye⟩ := y
             clear hy hL2 hm2
             dsimp only at e0 e2
             by_cases hy8 : yk = 8
             ·subst hy8
              have HJ2 : Hid (lastN (cl.take m2) = lastN (cl.take i)) := Lib.hid (by rw [<- HJ.out, HLN.out]; rfl)
              clear HJ HLN
              go_wp2_with fail
              go_roundg (2 * m2)
              case measure => omega
              case rel => exact ⟨rfl, m2, by go_num, by omega, rfl, HJ2⟩
             ·have hyy : (⟨yk, yn, yc, ya, ys, ye⟩ : Cl) = y0 := by
               have h1 := HJ.out.trans HY.out.1
               rw [HLN.out, if_neg hy8] at h1
               injection h1
              have hyc : 0 <= yc := by have := HY.out.2.1; rw [<- hyy] at this; exact this
              have hy5 : (yk == 5) = false := by have := HY.out.2.2; rw [<- hyy] at this; simpa using this
              have hyb : (yk == 8) = false := by simpa using hy8
              clear HJ HLN hyy hy8
              go_wp2_with fail
              go_roundg (n - (i + 1))
              case measure => omega
              case rel => exact ⟨rfl, i + 1, by go_num, by omega, rfl⟩
       ·obtain rfl : i = n := by omega
        go_wp2_with fail
        refine (TL.out _ HB4.out).mono ?_
        rintro e w5 ⟨rfl, b5⟩
        have HB5 := Lib.hid b5
        clear b5
        go_wp2_with fail
        go_ret
        exact ⟨rfl, HB5.out⟩
     ·have HB4 := Lib.hid (below_seq HB3.out b4)
      have hf2 : (f == 0) = false := by simpa using hf
      clear b4
      go_wp2_with fail
      refine (TL.out _ HB4.out).mono ?_
      rintro e w5 ⟨rfl, b5⟩
      have HB5 := Lib.hid b5
      clear b5
      go_wp2_with fail
      go_ret
      exact ⟨rfl, HB5.out⟩
end Go.Proofs.YtmceblkjbpbcoaaGreatDoor.Ce
