/- The walk of CellsGo. Conditions: what is handed in lies where its slices say, its numbers fit their kinds; the tables lie as the program's text lays them. -/
import Derived.Test.YtmceblkjbpbcoaaGreatDoorKBase
import Derived.Test.YtmceblkjbpbcoaaGreatDoorCeHands
import Derived.Test.YtmceblkjbpbcoaaGreatDoorCeGoM
import Derived.Test.YtmceblkjbpbcoaaGreatDoorKUnitB
import Derived.Test.YtmceblkjbpbcoaaGreatDoorKRowF
namespace Go.Proofs.YtmceblkjbpbcoaaGreatDoor.Ce
set_option maxRecDepth 100000
set_option maxHeartbeats 1000000
open Go.ChangeShapes Go.WideShapes Go.ChangeAt Go.RowKit Go.Shelf
open Ar
open Wh (Cr)
open Fo (Fnt W64 fnd atI txt qj1)
theorem elhZ2 : Elh Tryz.prog 60 21 1 4 := ⟨Tryz.underlying60, ⟨.int .i32 0, by kernel_rfl, rfl⟩, by decide, by decide⟩
theorem bsZ2 (z : Int) (w : World) : (Instr.buildSlice 60 1 #[(0, .int .i32 z)]).run Tryz.prog w = .ok (.slice (some ⟨w.heap.size, 0, none⟩) 1 1) (w.alloc (.cells #[.int .i32 z] 21)) := by kernel_rfl
theorem selOg {ops : Array Oper} {Q : Exit -> Act -> World -> Prop} {a : Act} {w : World} {rest : List Oper} (o : Oper) (h : wpList Tryz.prog ops Q (o :: rest) a w) : wpList Tryz.prog ops Q (o :: rest) a w := h
theorem qrl (l : List Nod) (z : Int) (A1 A2 A3 : Option Addr) (q m n3 c1 c2 c3 : Nat) (ss : List Sty) (fs : List Fnt) (at_ : List Int) (nl c0 : Nat) (A0 : Option Addr) (w : World) (hN : Ns w (.slice A0 nl c0) l) (hnl : l.length = nl) (hM : Ms w (.slice A1 q c1) (.slice A2 m c2) (.slice A3 n3 c3) ss fs at_) (hq : ss.length = q) (hm : fs.length = m) (h64 : ∀ s ∈ ss, W64 s.a6) (hH : Hands w l (.slice A0 nl c0) z A1 A2 A3 q m n3 c1 c2 c3 ss fs at_) :
 Calls Tryz.prog 6 #[.slice A0 nl c0, .agg #[.int .i64 z, .slice A1 q c1, .slice A2 m c2, .slice A3 n3 c3]] w fun e w' => e = .returned (.bool true) /\ Below w.heap.size w w' := by
 have HH := Lib.hid hH
 have HNS := Lib.hid hN
 have HNL := Lib.hid hnl
 have HMS := Lib.hid hM
 have HQ := Lib.hid hq
 have HFM := Lib.hid hm
 have H64 := Lib.hid h64
 clear hH hN hnl hM hq hm h64
 go_enter Tryz.func6, Tryz.ntmps6
 go_wp2_with (refine q0u rfl (.tmp 1) rfl z A1 A2 A3 q m n3 c1 c2 c3 rfl ?_; intro w1 b1 B1; refine Mk.out ?_)
 constructor
 obtain ⟨g, hg⟩ : ∃ g, w.heap.size = g := ⟨_, rfl⟩
 rw [hg] at B1 |-
 have HB1 := Lib.hid b1
 have HBB := Lib.hid B1
 have HG := Lib.hid hg
 clear b1 B1 hg
 go_wp2_with fail
 refine (HH.out.made _ HB1.out).mono ?_
 rintro e w2 ⟨hmade, b2⟩
 have HB2 := Lib.hid (below_seq HB1.out b2)
 have B2 := HBB.out.keep (S := fun _ => False) (Mod.of_below b2) id
 have HBB2 := Lib.hid B2
 clear b2 B2
 have tl : ∀ W, Below w.heap.size w W -> Calls Tryz.prog 9 #[] W fun e w' => e = .returned (.bool true) /\ Below w.heap.size w w' := fun W b => (HH.out.head W b).mono fun e w' ⟨q1, q2⟩ => ⟨q1, below_seq b q2⟩
 have TL := Lib.hid tl
 clear tl
 obtain ⟨pt, hpt⟩ : ∃ pt, e = .returned (.pointer pt) := by
  rcases hmade with ⟨_, p, rfl, _⟩ | ⟨_, rfl⟩ <;> exact ⟨_, rfl⟩
 subst hpt
 have HM := Lib.hid hmade
 clear hmade
 go_wp2_with (refine ldGn rfl (.tmp 3) rfl _ rfl z A1 A2 A3 q m n3 c1 c2 c3 HBB2.out.lies ?_)
 refine (HH.out.great _ HB2.out).mono ?_
 rintro e w3 ⟨b, rfl, hsm, b3⟩
 have HB3 := Lib.hid (below_seq HB2.out b3)
 have B3 := HBB2.out.keep (S := fun _ => False) (Mod.of_below b3) id
 have HSM := Lib.hid hsm
 cases b with
 | true =>
   clear b3 hsm
   go_wp2_with fail
   refine (TL.out _ HB3.out).mono ?_
   rintro e w4 ⟨rfl, b4⟩
   have HB4 := Lib.hid b4
   clear b4
   go_wp2_with fail
   go_ret
   exact ⟨rfl, HB4.out⟩
 | false =>
   cases pt with
   | none =>
     clear b3 hsm
     go_wp2_with fail
     refine (TL.out _ HB3.out).mono ?_
     rintro e w4 ⟨rfl, b4⟩
     have HB4 := Lib.hid b4
     clear b4
     go_wp2_with fail
     go_ret
     exact ⟨rfl, HB4.out⟩
   | some p =>
     have HTR : Hid (chkT l = 0 /\ Tr w3 (.pointer (some p)) l) := Lib.hid (by
      rcases HM.out with ⟨h0, p', he, h2⟩ | ⟨_, he⟩
      ·injection he with he
       injection he with he
       injection he with he
       subst he
       exact ⟨h0, h2.below b3⟩
      ·injection he with he
       injection he with he
       cases he)
     clear b3 hsm HM
     have h0 := B3.cell 0
     have h1 := B3.cell 1
     have h2 := B3.cell 2
     have h3 := B3.cell 3
     simp only [List.getElem?_toArray, List.getElem?_cons_succ, List.getElem?_cons_zero] at h0 h1 h2 h3
     go_wp2_with fail
     refine (HH.out.cells _ _ HB3.out HTR.out.2 HTR.out.1 (HSM.out trivial)).mono ?_
     clear h0 h1 h2 h3
     rintro e w4 ⟨⟨k, hzk, hO, u1, u2, rfl, hC, hU⟩ | ⟨_, f, hf, rfl⟩, b4⟩
     ·have HB4 := Lib.hid (below_seq HB3.out b4)
      have HTre := Lib.hid ((qci l).1 HTR.out.1).tre
      have HADV := Lib.hid (fun (u : Cl) (hu : u ∈ cellL ss fs at_ l k) (h3 : u.k <= 3) (j : Nat) (hj : u.ch = (j : Int)) => qwh (ss := ss) (fs := fs) (at_ := at_) HTre.out hO.lt hu h3 hj)
      obtain ⟨v1, v2, v3⟩ := qja hO.v
      have hfew := qwg (ss := ss) (fs := fs) (at_ := at_) HTre.out hO.lt (HSM.out trivial).1 ((HSM.out trivial).2.1 ((qci l).1 HTR.out.1).sum)
      have hnl40 : nl <= 40 := by have := (HSM.out trivial).1; rw [HNL.out] at this; exact this
      obtain rfl : q = nl := by rw [<- HQ.out, v1]; exact HNL.out
      have HOK := Lib.hid v3
      have B4 := B3.keep (S := fun _ => False) (Mod.of_below b4) id
      have HBX := Lib.hid B4
      have HU := Lib.hid hU
      have HC := Lib.hid hC
      obtain ⟨U, cu, rfl⟩ := hU.form
      obtain ⟨C, cc, rfl⟩ := RwC.form hC
      obtain ⟨cl, hcl⟩ : ∃ cl, cellL ss fs at_ l k = cl := ⟨_, rfl⟩
      obtain ⟨cs, hcs⟩ : ∃ cs, csL ss l k = cs := ⟨_, rfl⟩
      rw [hcl] at HU HADV hfew |-
      rw [hcs] at HC HADV hfew |-
      obtain ⟨n, hn⟩ : ∃ n, cl.length = n := ⟨_, rfl⟩
      obtain ⟨r, hr⟩ : ∃ n, cs.length = n := ⟨_, rfl⟩
      have HN := Lib.hid hn
      have HRR := Lib.hid hr
      rw [hn] at HU hfew |-
      rw [hr] at HC hfew |-
      obtain ⟨hf1, hf2⟩ := hfew
      have HS4 := Lib.hid (HMS.out.below HB4.out)
      have HN4 := Lib.hid (HNS.out.below HB4.out)
      have c1' := B4.cell 1
      simp only [List.getElem?_toArray, List.getElem?_cons_succ, List.getElem?_cons_zero] at c1'
      clear hU hC B3 B4 hcl hcs hn hr hzk hO v1 v2 v3 b4
      go_wp2_with fail
      clear c1'
      go_loopg [9, 10, 11, 12] q (fun kx s9 s10 s11 s12 wr => ∃ n : Nat, s9 = .int .i64 n /\ n <= q /\ kx = q - n /\ Hid (Below w4.heap.size w4 wr))
      case atStart => exact ⟨0, rfl, by omega, rfl, Lib.hid (Below.refl _ _)⟩
      case round =>
       obtain ⟨n', rfl, hn, rfl, JB⟩ := hrel
       by_cases hlt : n' < q
       ·have hnz : (n' : Int) < q := by omega
        obtain ⟨x, hx⟩ := qex (l := l) (i := n') (by rw [HNL.out]; exact hlt)
        obtain ⟨s, hs⟩ : ∃ s, ss[n']? = some s := ⟨_, List.getElem?_eq_getElem (by rw [HQ.out]; exact hlt)⟩
        obtain ⟨k0, k1, k2, k3, k4⟩ := HOK.out s (List.mem_of_getElem? hs)
        obtain ⟨fi, hfi⟩ : ∃ fi : Nat, s.a5 = fi := ⟨s.a5.toNat, by omega⟩
        have hfl : fi < fs.length := by omega
        obtain ⟨F, hF⟩ : ∃ F, fs[fi]? = some F := ⟨_, List.getElem?_eq_getElem hfl⟩
        obtain ⟨aN, capN, oN, hvN, _, haN, hLN⟩ := HN4.out.get JB.out hx
        obtain ⟨aS, capS, oS, hvS, _, haS, hLS⟩ := HS4.out.s.get JB.out hs
        obtain ⟨aF, capF, oF, hvF, _, haF, hLF⟩ := HS4.out.f.get JB.out hF
        rw [HNL.out] at hvN
        rw [HQ.out] at hvS
        rw [HFM.out] at hvF
        injection hvN with e1 _ e2
        subst e1 e2
        injection hvS with e1 _ e2
        subst e1 e2
        injection hvF with e1 _ e2
        subst e1 e2
        have HGF : Hid (∀ rr, goF ss fs (n' : Int) rr = atI (fnd F.o rr F.rs) s.a6) := Lib.hid fun rr => by
         have g1 : qpi ss (n' : Int) = s := by unfold qpi; rw [Int.toNat_natCast, List.getD_eq_getElem?_getD, hs]; rfl
         have g2 : fntA fs s.a5 = F := by unfold fntA; rw [hfi, Int.toNat_natCast, List.getD_eq_getElem?_getD, hF]; rfl
         unfold goF
         rw [g1, g2]
        have HFE := Lib.hid (HMS.out.f.each F (List.mem_of_getElem? hF))
        have H6 := Lib.hid (H64.out s (List.mem_of_getElem? hs))
        obtain ⟨xk, hxk⟩ : ∃ xk, x.k = xk := ⟨_, rfl⟩
        obtain ⟨sz, hsz⟩ : ∃ z, s.a6 = z := ⟨_, rfl⟩
        rw [hsz] at H6 HGF
        have KC : Hid (∀ W, Below wr.heap.size wr W -> W.cell? ⟨aN.block, oN, none⟩ = some (.int .u8 xk) /\ W.cell? ⟨g, 1, none⟩ = some (.slice (some aS) q c1) /\ W.cell? ⟨g, 2, none⟩ = some (.slice (some aF) m c2) /\ W.cell? ⟨aS.block, oS + 5, none⟩ = some (.int .i64 (fi : Int)) /\ W.cell? ⟨aS.block, oS + 6, none⟩ = some (.int .i64 sz)) := Lib.hid fun W hW => by
         have BX := (HBX.out.keep (S := fun _ => False) (Mod.of_below (below_seq JB.out hW)) id)
         refine ⟨?_, BX.cell 1, BX.cell 2, ?_, ?_⟩
         ·have := (hLN.below hW).at_ 0 rfl
          rw [<- hxk]; exact this
         ·rw [<- hfi]; exact (hLS.below hW).at_ 5 rfl
         ·rw [<- hsz]; exact (hLS.below hW).at_ 6 rfl
        have HLF := Lib.hid (fun W (hW : Below wr.heap.size wr W) => hLF.below hW)
        have hf0 : decide ((fi : Int) < 0) = false := decide_eq_false (by omega)
        have hfm : decide ((m : Int) <= (fi : Int)) = false := decide_eq_false (by rw [<- HFM.out]; omega)
        have hfmN : fi < m := by rw [<- HFM.out]; exact hfl
        have hfz : (0 : Int) <= fi := by omega
        clear hx hs k0 k1 k2 k3 k4 hfl hF hLN hLS hLF hxk hsz
        by_cases hk : xk = 1
        ·subst hk
         go_wp2_with fail
         refine qax (by kernel_rfl) (fun W => Below wr.heap.size wr W) (below_drewN (Below.refl _ _) 1) (fun R hR => ?_)
         refine AllS.start ?_
         iterate 4 refine AllS.t ?_
         refine AllS.f KC.out ?_
         iterate 3 refine AllS.t ?_
         refine AllS.f KC.out ?_
         iterate 3 refine AllS.t ?_
         refine AllS.f KC.out ?_
         refine AllS.r (.bool false) (fun W hSw => ?_) ?_
         ·(try dsimp only at hSw)
          have hq := hf0; go_simp
         iterate 3 refine AllS.t ?_
         refine AllS.f KC.out ?_
         iterate 3 refine AllS.t ?_
         refine AllS.f KC.out ?_
         refine AllS.t ?_
         refine AllS.f KC.out ?_
         refine AllS.t ?_
         refine AllS.r (.bool false) (fun W hSw => ?_) ?_
         ·(try dsimp only at hSw)
          have hq := hfm; have hq2 := hfmN; go_simp
         refine AllS.t ?_
         refine AllS.done (by kernel_rfl) (hR.out _ ?_) _
         clear hR R
         intro wq hbq
         obtain ⟨wz, hwz⟩ : ∃ x, x = wq := ⟨_, rfl⟩
         subst hwz
         have JZ := Lib.hid (below_seq JB.out hbq)
         have HWZ := Lib.hid hbq
         clear hbq
         go_wp2_with fail
         go_loopg [10, 11, 12] n (fun kx s10 s11 s12 wr => ∃ (i : Nat) (z : Int), s10 = .int .i64 z /\ s12 = .int .i64 i /\ i <= n /\ kx = n - i /\ Hid (z = txt F.o sz F.rs 0 (rnG cs n' (cl.take i))) /\ Hid (Below wz.heap.size wz wr) /\ Hid (wr.ownsRow wz.heap.size 21 1 s11 (rnG cs n' (cl.take i)).length ((rnG cs n' (cl.take i)).map (Value.int .i32))))
         case atStart => exact ⟨0, 0, rfl, rfl, by omega, rfl, Lib.hid rfl, Lib.hid (Below.refl _ _), Lib.hid (qzh _ _ _ _)⟩
         case round =>
          obtain ⟨i, z, rfl, rfl, hi, rfl, HZ, KB, JO⟩ := hrel
          by_cases hlt2 : i < n
          ·have hiz : (i : Int) < n := by omega
           obtain ⟨u, hu⟩ := qey (l := cl) (i := i) (by rw [HN.out]; exact hlt2)
           obtain ⟨a1, cap1, o1, hv, _, ha1, hL1⟩ := HU.out.get (below_seq JZ.out KB.out) hu
           rw [HN.out] at hv
           injection hv with hv1 _ hv3
           subst hv1 hv3
           obtain ⟨f0, f1, f2, f3, f4, f5⟩ := qar.cl hL1
           clear f4 f5
           have HSN := Lib.hid (qt1 cs n' (cl.take i) u)
           have HTK : Hid (cl.take (i + 1) = cl.take i ++ [u]) := Lib.hid (by rw [List.take_add_one, hu]; rfl)
           have HAD := Lib.hid (HADV.out u (List.mem_of_getElem? hu))
           obtain ⟨uk, un, uc, ua, us, ue⟩ := u
           clear hu hL1
           dsimp only at f0 f1 f2 f3
           by_cases e1 : un = (n' : Int)
           ·subst e1
            by_cases e2 : uk <= 3
            ·by_cases e3 : 0 <= uc
             ·obtain ⟨j, rfl⟩ := Int.eq_ofNat_of_zero_le e3
              by_cases e4 : (j : Int) < r
              ·obtain ⟨c, hc, hadv⟩ := HAD.out e2 j rfl
               have hua : ua = atI (fnd F.o c.r F.rs) sz := hadv.trans (HGF.out c.r)
               have hG : isG n' cs.length ⟨uk, (n' : Int), (j : Int), ua, us, ue⟩ = true := by simp [isG, HRR.out, e2, e4]
               have hgd : (cs.getD ((j : Int)).toNat ⟨0, 0, 0, 0, 0⟩).r = c.r := by rw [Int.toNat_natCast, List.getD_eq_getElem?_getD, hc]; rfl
               have HR2 : Hid (rnG cs n' (cl.take (i + 1)) = rnG cs n' (cl.take i) ++ [c.r]) := Lib.hid (by rw [HTK.out, HSN.out, if_pos hG, hgd])
               have hlen : (rnG cs n' (cl.take i)).length <= 270 := Nat.le_trans (qqm _ _ _) (by rw [List.length_take]; omega)
               have HLEN := Lib.hid hlen
               obtain ⟨z', hz'⟩ : ∃ z', IntKind.i64.wrap (z + ua) = z' := ⟨_, rfl⟩
               have HZ2 : Hid (z' = txt F.o sz F.rs 0 (rnG cs n' (cl.take (i + 1)))) := Lib.hid (by
                obtain ⟨t1, t2, t3⟩ := qyl F.o sz F.rs (rnG cs n' (cl.take i)) (by omega) c.r
                have hb := Fo.qe9 (fnd F.o c.r F.rs) sz
                have hzz := HZ.out
                rw [HR2.out, t1, <- hz', IntWalk.i64_in _ (by omega), hzz, hua])
               obtain ⟨aC, capC, oC, hvC, _, haC, hLC⟩ := HC.out.get (below_seq JZ.out KB.out) hc
               rw [HRR.out] at hvC
               injection hvC with g1 _ g2
               subst g1 g2
               have d0 : wr.cell? ⟨aC.block, oC, none⟩ = some (.int .i32 c.r) := hLC.at_ 0 rfl
               obtain ⟨cr, hcr⟩ : ∃ y, c.r = y := ⟨_, rfl⟩
               rw [hcr] at d0 HR2
               clear hc hadv hua hG hgd hlen hLC hcr HSN HTK HAD HZ
               have hj0 : (0 : Int) <= j := by omega
               go_wp2_with (with_reducible refine selOg ⟨some 141, _, _, _, _, _⟩ ?_; refine Mk.out ?_)
               constructor
               go_wp2_with (refine apH elhZ2 (o1 := ⟨some 141, _, _, _, _, _⟩) rfl (.tmp 140) rfl 141 rfl rfl (.tmp 131) rfl (.int .i32 cr) #[.int .i32 cr] rfl rfl (by simp [Value.oneCell']) (bsZ2 _) u11 (fun _ => rfl) (fun _ => rfl) wz.heap.size _ _ JO.out (Nat.lt_of_le_of_lt HLEN.out (by decide)) KB.out.size ?_; intro u20 v2 w20 O2 b2 _ _; refine Mk.out ?_)
               constructor
               have JO2 : Hid (w20.ownsRow wz.heap.size 21 1 v2 (rnG cs n' (cl.take (i + 1))).length ((rnG cs n' (cl.take (i + 1))).map (Value.int .i32))) := Lib.hid (by
                rw [HR2.out, List.length_append, List.map_append]
                exact O2)
               have KB2 := Lib.hid (KB.out.trans b2)
               clear O2 b2 JO KB
               go_wp2_with fail
               go_roundg (n - (i + 1))
               case measure => omega
               case rel => exact ⟨i + 1, z', rfl, by go_num, by omega, rfl, HZ2, KB2, JO2⟩
              ·have HG : Hid (rnG cs n' (cl.take (i + 1)) = rnG cs n' (cl.take i)) := Lib.hid (by rw [HTK.out, HSN.out, if_neg (by simp [isG, HRR.out, e4])])
               have e4z : (r : Int) <= j := by omega
               clear HSN HTK HAD
               go_wp2_with fail
               go_roundg (n - (i + 1))
               case measure => omega
               case rel => exact ⟨i + 1, z, rfl, by go_num, by omega, rfl, Lib.hid (by rw [HG.out]; exact HZ.out), KB, by rw [HG.out]; exact JO⟩
             ·have HG : Hid (rnG cs n' (cl.take (i + 1)) = rnG cs n' (cl.take i)) := Lib.hid (by rw [HTK.out, HSN.out, if_neg (by simp [isG, e3])])
              have e3z : uc < 0 := by omega
              clear HSN HTK HAD
              go_wp2_with fail
              go_roundg (n - (i + 1))
              case measure => omega
              case rel => exact ⟨i + 1, z, rfl, by go_num, by omega, rfl, Lib.hid (by rw [HG.out]; exact HZ.out), KB, by rw [HG.out]; exact JO⟩
            ·have HG : Hid (rnG cs n' (cl.take (i + 1)) = rnG cs n' (cl.take i)) := Lib.hid (by rw [HTK.out, HSN.out, if_neg (by simp [isG, e2])])
             have e2z : 3 < uk := by omega
             clear HSN HTK HAD
             go_wp2_with fail
             go_roundg (n - (i + 1))
             case measure => omega
             case rel => exact ⟨i + 1, z, rfl, by go_num, by omega, rfl, Lib.hid (by rw [HG.out]; exact HZ.out), KB, by rw [HG.out]; exact JO⟩
           ·have HG : Hid (rnG cs n' (cl.take (i + 1)) = rnG cs n' (cl.take i)) := Lib.hid (by rw [HTK.out, HSN.out, if_neg (by simp [isG, e1])])
            have e1z : (un == (n' : Int)) = false := by simpa using e1
            clear HSN HTK HAD
            go_wp2_with fail
            go_roundg (n - (i + 1))
            case measure => omega
            case rel => exact ⟨i + 1, z, rfl, by go_num, by omega, rfl, Lib.hid (by rw [HG.out]; exact HZ.out), KB, by rw [HG.out]; exact JO⟩
          ·obtain rfl : i = n := by omega
           have HZF : z = txt F.o sz F.rs 0 (rnG cs n' cl) := by
            have := HZ.out
            rwa [List.take_of_length_le (by rw [HN.out]; exact Nat.le_refl _)] at this
           have JOF := JO.out
           rw [List.take_of_length_le (by rw [HN.out]; exact Nat.le_refl _)] at JOF
           have hl270 : (rnG cs n' cl).length <= 270 := Nat.le_trans (qqm _ _ _) (by rw [HN.out]; exact hf1)
           have CT : Hid (∀ W, Below wr.heap.size wr W -> Calls Tryz.prog 17 #[F.val, .int .i64 sz, u11] W fun e w' => e = .returned (.int .i64 z) /\ Below wr.heap.size wr w') := Lib.hid fun W hW => by
            have hWm : Below w.heap.size w W := below_seq (below_seq HB4.out (below_seq JZ.out KB.out)) hW
            have := qj1 F sz (rnG cs n' cl) u11 W (HFE.out.1.below hWm) HFE.out.2 H6.out (((Row.of_own JOF).mono fun _ _ (h : False) => h.elim).below hW) (by omega)
            rw [<- HZF] at this
            exact this.mono fun e w' h => ⟨h.1, below_seq hW h.2⟩
           have KD := Lib.hid (fun W (hW : Below wr.heap.size wr W) => KC.out W (below_seq (below_seq HWZ.out KB.out) hW))
           have HLG := Lib.hid (fun W (hW : Below wr.heap.size wr W) => HLF.out W (below_seq (below_seq HWZ.out KB.out) hW))
           clear HZ JO HZF JOF hl270
           go_wp2_with fail
           refine qax (by kernel_rfl) (fun W => Below wr.heap.size wr W) (below_drewN (Below.refl _ _) 1) (fun R hR => ?_)
           refine AllS.start ?_
           iterate 2 refine AllS.t ?_
           refine AllS.f KD.out ?_
           refine AllS.t ?_
           refine AllS.f KD.out ?_
           iterate 3 refine AllS.t ?_
           refine AllS.f KD.out ?_
           refine AllS.t ?_
           refine AllS.r F.val (fun W hSw => ?_) ?_
           ·(try dsimp only at hSw)
            exact rdFn (.tmp 152) rfl _ rfl F (haF ▸ HLG.out W hSw)
           refine AllS.t ?_
           refine AllS.f KD.out ?_
           iterate 3 refine AllS.t ?_
           refine AllS.f KD.out ?_
           refine AllS.t ?_
           refine AllS.c (.int .i64 z) 17 #[F.val, .int .i64 sz, u11] (fun W hSw => ?_) ?_
           ·exact CT.out W hSw
           refine AllS.t ?_
           refine AllS.done (by kernel_rfl) (hR.out _ ?_) _
           clear hR R
           intro wq hbq
           have HQB := Lib.hid (below_seq (below_seq JZ.out KB.out) hbq)
           clear hbq
           go_wp2_with fail
           go_roundg (q - (n' + 1))
           case measure => omega
           case rel => exact ⟨n' + 1, by go_num, by omega, rfl, HQB⟩
        ·have hk1 : (!(xk == 1)) = true := by simpa using hk
         go_wp2_with fail
         refine qax (by kernel_rfl) (fun W => Below wr.heap.size wr W) (below_drewN (Below.refl _ _) 1) (fun R hR => ?_)
         refine AllS.start ?_
         iterate 4 refine AllS.t ?_
         refine AllS.f KC.out ?_
         refine AllS.r (.bool true) (fun W hSw => ?_) ?_
         ·(try dsimp only at hSw)
          have hq := hk1; go_simp
         refine AllS.t ?_
         iterate 7 refine AllS.u ?_
         iterate 2 refine AllS.t ?_
         iterate 10 refine AllS.u ?_
         refine AllS.t ?_
         refine AllS.done (by kernel_rfl) (hR.out _ ?_) _
         clear hR R
         intro wq hbq
         have HQB := Lib.hid (below_seq JB.out hbq)
         clear hbq
         go_wp2_with fail
         go_roundg (q - (n' + 1))
         case measure => omega
         case rel => exact ⟨n' + 1, by go_num, by omega, rfl, HQB⟩
       ·obtain rfl : n' = q := by omega
        have HB5 := Lib.hid (below_seq HB4.out JB.out)
        go_wp2_with fail
        refine (TL.out _ HB5.out).mono ?_
        rintro e w5 ⟨rfl, b5⟩
        have HB6 := Lib.hid b5
        clear b5
        go_wp2_with fail
        go_ret
        exact ⟨rfl, HB6.out⟩
     ·have HB4 := Lib.hid (below_seq HB3.out b4)
      have hf2 : (f == 0) = false := by simpa using hf
      have hf3 : (!(f == 0)) = true := by rw [hf2]; rfl
      clear b4 B3
      go_wp2_with fail
      refine (TL.out _ HB4.out).mono ?_
      rintro e w5 ⟨rfl, b5⟩
      have HB5 := Lib.hid b5
      clear b5
      go_wp2_with fail
      go_ret
      refine ⟨?_, HB5.out⟩
      have hf4 : (f != 0) = true := by simpa using hf
      show Ending.returned (.bool (f != 0)) = _
      rw [hf4]
end Go.Proofs.YtmceblkjbpbcoaaGreatDoor.Ce
