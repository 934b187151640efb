/- Contracts of layers below. -/
import Derived.Test.YtmceblkjbpbcoaaGreatDoorPCeChars
import Derived.Test.YtmceblkjbpbcoaaGreatDoorPRegK
namespace Go.Proofs.YtmceblkjbpbcoaaGreatDoor
set_option maxRecDepth 100000
set_option maxHeartbeats 8000000
namespace Ce
open Go.ChangeShapes Go.WideShapes Go.ChangeAt Go.RowKit Go.Shelf
open Wh (Cr)
theorem qxy {base g : Nat} {w : World} {v : Value} {l : List Cl} {x : Cl} (hO : qpe base w v l) (hB : Blk w g 39 (clA x)) (hn : l.length <= 1000000) (hb : base <= w.heap.size) (ty : TypeId) :
 ∃ v' w', (Builtin.append_ #[33, 33] ty #[v, .slice (some ⟨g, 0, none⟩) 1 1]).run Tryz.prog w = .ok v' w' /\ qpe base w' v' (l ++ [x]) /\ Mod (fun k => v.ownBlock = some k) w w' /\ (∀ k, v'.ownBlock = some k -> v.ownBlock = some k \/ w.heap.size <= k) := by
 obtain ⟨z, hi0, hzc⟩ := elhCl.info
 obtain ⟨i0, hi, hz0, hz1, hz2⟩ := qrx hi0
 obtain ⟨v', w', hr, h1, h2, _, h5⟩ := run_append_own_at (P := Tryz.prog) w base 33 ty 39 i0 z 6 40 elhCl.und hi hz0 hz1 hz2 hzc (by decide) v l.length (qhn l) hO ⟨g, 0, none⟩ 1 1 (clA x).toList (by simp [clA]) (fun j u hu => hB.lies j u (by simpa using hu)) (fun u hu => (Array.all_eq_true_iff_forall_mem.1 (oneCl x)) u (by simpa using hu)) (by unfold maxLen; omega) (by omega) hb
 refine ⟨v', w', hr, ?_, (Mod.refl _ w).grown h2 fun k e => .inl e, fun k hk => ?_⟩
 ·unfold qpe
  rw [List.length_append, qlb]
  exact h1
 ·rcases h5 with e | e
  ·exact .inl (e ▸ hk)
  ·rw [e] at hk
   injection hk with hk
   exact .inr (by omega)
theorem rdJ {P : Program} {ops : Array Oper} {J : (Nat -> Bool) -> (Nat -> Value) -> World -> Prop} {listed : Nat -> Bool} {us : Nat -> Value} {i : Nat} {o : Oper} {a : Act} {w : World} (hg : o.guard = none) (u : Value) (hrun : (execOp a.eval o).run P w = .ok (.value u) w) (h : J (qf0 listed i) (qkn us i u) w) : qlr P ops J listed us i o a w :=
 .inl ⟨qaa hg _, .inl ⟨u, w, hrun, h⟩⟩
theorem qf1 {a : Act} {w : World} {o : Oper} {v v2 v' : Value} {w' : World} (s x : Operand) (ho : o.op = .call { callee := .builtin .append, args := #[s, x], argTypes := #[33, 33] }) (hs : a.eval s = v) (hx : a.eval x = v2) (h1 : (Builtin.append_ #[33, 33] o.type #[v, v2]).run Tryz.prog w = .ok v' w') :
 (execOp a.eval o).run Tryz.prog w = .ok (.value v') w' := by
 unfold execOp
 simp only [ho, resolve, invoke, builtin, Sem.run_bind, Sem.run_pure, Result.andThen_ok, List.map_toArray, List.map_cons, List.map_nil, hs, hx, h1]
structure SC (w0 : World) (C : Nat) (x : Cl) (W : World) : Prop where
 mod : Mod (fun k => k = C) w0 W
 box : ∃ s e, Blk W C 39 (clA { x with sf := s, em := e })
def fC (C : Nat) (s e : Bool) (i : Nat) (_ : Value) (W : World) : Prop := match i with
 | 11 => W.cell? ⟨C, 4, none⟩ = some (.bool s)
 | 13 => W.cell? ⟨C, 5, none⟩ = some (.bool e)
 | _ => True
theorem SC.set4 {w0 : World} {C : Nat} {x : Cl} {W : World} (h : SC w0 C x W) (s e : Bool) {a : Act} {o : Oper} (p y : Operand) (ho : o.op = .store 4 p y) (hp : a.eval p = .pointer (some ⟨C, 4, none⟩)) (hy : a.eval y = .bool s) :
 qhv Tryz.prog (SC w0 C x) (fun _ _ => True) (fC C s e) 11 W ((execOp a.eval o).run Tryz.prog W) := by
 obtain ⟨s0, e0, hB⟩ := h.box
 have hrun := qa7 (P := Tryz.prog) (w := W) 4 p y ho C 4 hp (.bool s) hy rfl rfl (by kernel_rfl) _ _ hB (by simp [clA])
 have hB' := setRow_heap _ _ _ ((clA { x with sf := s0, em := e0 }).setIfInBounds 4 (.bool s)) _ _ hB
 have e1 : (clA { x with sf := s0, em := e0 }).setIfInBounds 4 (.bool s) = clA { x with sf := s, em := e0 } := by simp [clA]
 rw [e1] at hB' hrun
 have hB2 : Blk (W.setRow C (clA { x with sf := s, em := e0 })) C 39 (clA { x with sf := s, em := e0 }) := hB'
 refine .inr (.inl ⟨_, hrun, trivial, ⟨h.mod.trans (qai _ _ _), s, e0, hB2⟩, hB2.cell 4, fun j hj u' hf => ?_⟩)
 unfold fC at hf |-
 split at hf
 ·exact absurd rfl hj
 ·rw [hB.cell] at hf
  rw [hB2.cell]
  exact hf
 ·trivial
theorem SC.set5 {w0 : World} {C : Nat} {x : Cl} {W : World} (h : SC w0 C x W) (s e : Bool) {a : Act} {o : Oper} (p y : Operand) (ho : o.op = .store 4 p y) (hp : a.eval p = .pointer (some ⟨C, 5, none⟩)) (hy : a.eval y = .bool e) :
 qhv Tryz.prog (SC w0 C x) (fun _ _ => True) (fC C s e) 13 W ((execOp a.eval o).run Tryz.prog W) := by
 obtain ⟨s0, e0, hB⟩ := h.box
 have hrun := qa7 (P := Tryz.prog) (w := W) 4 p y ho C 5 hp (.bool e) hy rfl rfl (by kernel_rfl) _ _ hB (by simp [clA])
 have hB' := setRow_heap _ _ _ ((clA { x with sf := s0, em := e0 }).setIfInBounds 5 (.bool e)) _ _ hB
 have e1 : (clA { x with sf := s0, em := e0 }).setIfInBounds 5 (.bool e) = clA { x with sf := s0, em := e } := by simp [clA]
 rw [e1] at hB' hrun
 have hB2 : Blk (W.setRow C (clA { x with sf := s0, em := e })) C 39 (clA { x with sf := s0, em := e }) := hB'
 refine .inr (.inl ⟨_, hrun, trivial, ⟨h.mod.trans (qai _ _ _), s0, e, hB2⟩, hB2.cell 5, fun j hj u' hf => ?_⟩)
 unfold fC at hf |-
 split at hf
 ·rw [hB.cell] at hf
  rw [hB2.cell]
  exact hf
 ·exact absurd rfl hj
 ·trivial
theorem qmy (base R : Nat) (c h : Value) (f : Nat -> Value) (s : Rst) (x0 : Cl) (w : World) (hR : RowSt base R c h f s w) (hl : s.out.length <= 1000000) (hb : base <= w.heap.size) :
 Calls Tryz.prog 51 #[.pointer (some ⟨R, 0, none⟩), .agg (clA x0)] w fun e w' => e = .returned (.tuple #[]) /\ RowSt base R c h f (putV s x0) w' /\ Kps (SR R) w w' := by
 obtain ⟨o, hB, hO⟩ := hR
 obtain ⟨nx, wt, l⟩ := s
 dsimp only at hB hO hl
 have hne := own_ne hB (by decide) hO
 obtain ⟨s', hs'⟩ : ∃ s', putV ⟨nx, wt, l⟩ x0 = s' := ⟨_, rfl⟩
 rw [hs']
 have HS' := xaa hs'
 have HB := xaa hB
 have HO := xaa hO
 have HNE := xaa hne
 have HLN := xaa hl
 clear hB hO hne hl hs'
 go_enter Tryz.func51, Tryz.ntmps51
 go_wp2_with (refine bxClV rfl (.tmp 1) rfl x0 rfl ?_; intro w1 b1 B1; refine Mk.out ?_)
 constructor
 have k0 : w1.cell? ⟨w.heap.size, 0, none⟩ = some (.int .u8 x0.k) := B1.cell 0
 have R1 := HB.out.kb b1
 have O1 := HO.out.keep (S := fun _ => False) (xap b1) fun _ _ => id
 have hCR : w.heap.size ≠ R := by have := HB.out.lt; omega
 have FIN : Hid (∀ (nx' : Nat) (wt' : Int) (x : Cl) (o' : Value) (w' : World), Blk w' R 83 (qde c h f nx' wt' o') -> qpe base w' o' (l ++ [x]) -> Mod (fun k => (k = R \/ o.ownBlock = some k) \/ w.heap.size <= k) w w' -> (∀ k, o'.ownBlock = some k -> o.ownBlock = some k \/ w.heap.size <= k) -> s' = ⟨nx', wt', l ++ [x]⟩ -> RowSt base R c h f s' w' /\ Kps (SR R) w w') := xaa fun nx' wt' x o' w' h1 h2 h3 h4 h5 =>
  ⟨by rw [h5]; exact ⟨o', h1, h2⟩, h3.mono fun k hk => by
      rcases hk with hk | hk
      ·exact .inl ((SR.of HB.out).2 hk)
      ·exact .inr hk, fun k hk => by
      rw [SR.of h1] at hk
      rw [SR.of HB.out]
      rcases hk with hk | hk
      ·exact .inl (.inl hk)
      ·exact (h4 k hk).imp .inr fun h => h⟩
 by_cases h8 : x0.k = 8
 ·have e8 : putV ⟨nx, wt, l⟩ x0 = ⟨nx, wt, l ++ [x0]⟩ := if_pos h8
  rw [h8] at k0
  have HE8 : Hid (s' = ⟨nx, wt, l ++ [x0]⟩) := xaa (by rw [<- HS'.out]; exact e8)
  obtain ⟨x, hx⟩ : ∃ x, x0 = x := ⟨_, rfl⟩
  rw [hx] at B1 HE8
  have HB2 := xaa R1
  have HC2 := xaa B1
  have HO2 := xaa O1
  have HBS : Hid (base <= w1.heap.size) := xaa (xau hb b1.size)
  have Hb1 := xaa b1
  clear R1 B1 O1 b1 hx h8 e8
  go_wp2_with fail
  clear k0
  refine qie (by kernel_rfl) (JP w1 base R w.heap.size c h f nx wt o l x)
   ⟨fun j _ _ _ _ _ h => (by cases h), (Mod.refl _ _).drew, fun _ => below_drewN (xas) 1, fun h => (by cases h), fun h => (by cases h)⟩ (by kernel_rfl) (by kernel_rfl) (by kernel_rfl) (by kernel_rfl) ?stepJ ?doneJ
  case stepJ =>
   intro listed us W hJ i2 o2 ho hun hw hcl
   have V := fun j u q6 q7 q10 hv h => hJ.val j u q6 q7 q10 hv h
   have NOT : ∀ k m, m = m -> listed m = false -> waits _ k m = true -> listed k = false := fun k m _ hm hwk => by
    cases e : listed k with
    | false => rfl
    | true => have := hcl k m e hwk; rw [hm] at this; cases this
   simp only [qae, Act.put, xaf, xaj, xak]
   match i2, ho with
   | 0, ho =>
     simp only [xab, xad, xai] at ho
     subst ho
     exact rdJ rfl (.pointer (some ⟨R, 0, none⟩)) (by go_simp) (hJ.rd 0 _ (by decide) (by decide) (by decide) rfl)
   | 1, ho =>
     simp only [xab, xad, xae, xai] at ho
     subst ho
     exact rdJ rfl (.pointer (some ⟨R, 0, none⟩)) (by go_simp) (hJ.rd 1 _ (by decide) (by decide) (by decide) rfl)
   | 2, ho =>
     simp only [xab, xad, xae, xai] at ho
     subst ho
     have h1 : us 1 = .pointer (some ⟨R, 0, none⟩) := V 1 _ (by decide) (by decide) (by decide) rfl (hw 1 (by kernel_rfl))
     rw [h1]
     exact rdJ rfl (.pointer (some ⟨R, 0, none⟩)) (by go_simp) (hJ.rd 2 _ (by decide) (by decide) (by decide) rfl)
   | 3, ho =>
     simp only [xab, xad, xae, xai] at ho
     subst ho
     have h2 : us 2 = .pointer (some ⟨R, 0, none⟩) := V 2 _ (by decide) (by decide) (by decide) rfl (hw 2 (by kernel_rfl))
     rw [h2]
     exact rdJ rfl (.pointer (some ⟨R, 18, none⟩)) (by go_simp) (hJ.rd 3 _ (by decide) (by decide) (by decide) rfl)
   | 4, ho =>
     simp only [xab, xad, xae, xai] at ho
     subst ho
     have h3 : us 3 = .pointer (some ⟨R, 18, none⟩) := V 3 _ (by decide) (by decide) (by decide) rfl (hw 3 (by kernel_rfl))
     rw [h3]
     have h7 : listed 7 = false := NOT 7 4 rfl hun (by kernel_rfl)
     have hq := (HB2.out.kb ((hJ.pre h7))).cell 18
     exact rdJ rfl _ (by go_simp; first | rfl | exact hq) (hJ.rd 4 _ (by decide) (by decide) (by decide) rfl)
   | 5, ho =>
     simp only [xab, xad, xae, xai] at ho
     subst ho
     have h7 : listed 7 = false := NOT 7 6 rfl (NOT 6 5 rfl hun (by kernel_rfl)) (by kernel_rfl)
     have hL := (HC2.out.kb ((hJ.pre h7))).lies
     exact rdJ rfl _ (rdCl (.tmp 3) rfl _ rfl x hL) (hJ.rd 5 _ (by decide) (by decide) (by decide) rfl)
   | 6, ho =>
     simp only [xab, xad, xae, xai] at ho
     subst ho
     have h5 : us 5 = .agg (clA x) := V 5 _ (by decide) (by decide) (by decide) rfl (hw 5 (by kernel_rfl))
     have h7 : listed 7 = false := NOT 7 6 rfl hun (by kernel_rfl)
     rw [h5]
     exact .inl ⟨qaa rfl _, .inl ⟨.slice (some ⟨W.heap.size, 0, none⟩) 1 1, W.alloc (.cells (clA x) 39), (by kernel_rfl), hJ.mk6 h7 (xar _ _) (Blk.new _ _ _)⟩⟩
   | 7, ho =>
     simp only [xab, xad, xae, xai] at ho
     subst ho
     have h4 : us 4 = o := V 4 _ (by decide) (by decide) (by decide) rfl (hw 4 (by kernel_rfl))
     have h10 : listed 10 = false := NOT 10 7 rfl hun (by kernel_rfl)
     obtain ⟨g, h6, hg⟩ := hJ.lit (hw 6 (by kernel_rfl)) hun
     rw [h4, h6]
     have hOW := HO2.out.keep (S := fun _ => False) (xap (hJ.pre hun)) fun _ _ => id
     obtain ⟨u, W2, hr, q1, q2, q3⟩ := qxy hOW hg HLN.out (xau HBS.out (hJ.pre hun).size) 33
     exact .inl ⟨qaa rfl _, .inl ⟨u, W2, qf1 (.tmp 26) (.tmp 28) rfl rfl rfl hr, hJ.mk7 h10 q2 hun HB2.out HNE.out q1 q3⟩⟩
   | 8, ho =>
     simp only [xab, xad, xae, xai] at ho
     subst ho
     have h0 : us 0 = .pointer (some ⟨R, 0, none⟩) := V 0 _ (by decide) (by decide) (by decide) rfl (hw 0 (by kernel_rfl))
     rw [h0]
     exact rdJ rfl (.pointer (some ⟨R, 0, none⟩)) (by go_simp) (hJ.rd 8 _ (by decide) (by decide) (by decide) rfl)
   | 9, ho =>
     simp only [xab, xad, xae, xai] at ho
     subst ho
     have h8 : us 8 = .pointer (some ⟨R, 0, none⟩) := V 8 _ (by decide) (by decide) (by decide) rfl (hw 8 (by kernel_rfl))
     rw [h8]
     exact rdJ rfl (.pointer (some ⟨R, 18, none⟩)) (by go_simp) (hJ.rd 9 _ (by decide) (by decide) (by decide) rfl)
   | 10, ho =>
     simp only [xab, xad, xae, xai] at ho
     subst ho
     have h9 : us 9 = .pointer (some ⟨R, 18, none⟩) := V 9 _ (by decide) (by decide) (by decide) rfl (hw 9 (by kernel_rfl))
     have h7 : listed 7 = true := hw 7 (by kernel_rfl)
     rw [h9]
     obtain ⟨a1, a2, a3, _⟩ := hJ.app h7
     have hBR := a3 hun
     have hne2 := own_ne hBR (by decide) a1
     obtain ⟨u, hu⟩ : ∃ u, us 7 = u := ⟨_, rfl⟩
     rw [hu] at a1 hne2 |-
     have hf : ∃ A m cp, u = .slice A m cp := by
      rcases a1.2 with ⟨e, _⟩ | ⟨g, cap, cur, e, _⟩
      ·exact ⟨_, _, _, e⟩
      ·exact ⟨_, _, _, e⟩
     obtain ⟨A, mm, cp, hu2⟩ := hf
     refine .inl ⟨qaa rfl _, .inr (.inl ⟨_, qa7 (P := Tryz.prog) (w := W) 33 (.tmp 31) (.tmp 29) rfl R 18 rfl u rfl (by rw [hu2]; rfl) (by rw [hu2]; rfl) (by kernel_rfl) _ _ hBR (by simp [qde]), hJ.mk10 h7 (qai _ _ _) ?_ (by rw [hu]; exact hne2)⟩)⟩
     rw [hu]
     have := setRow_heap _ _ _ ((qde c h f nx wt o).setIfInBounds 18 u) _ _ hBR
     rwa [ql4] at this
   | (k + 11), ho => simp at ho
  case doneJ =>
   intro listed us W hal hJ
   obtain ⟨a1, a2, _, a4⟩ := hJ.app (hal 7 (by decide))
   have a5 := a4 (hal 10 (by decide))
   have a6 := hJ.mod
   obtain ⟨u, hu⟩ : ∃ u, us 7 = u := ⟨_, rfl⟩
   rw [hu] at a1 a2 a5
   have HR := xaa (FIN.out nx wt x u W a5 a1 ((xap Hb1.out |>.mono (T := fun k => (k = R \/ o.ownBlock = some k) \/ w.heap.size <= k) (fun i hi => (show (False : Prop) from hi).elim)).trans (a6.mono fun i hi => .inl (.inl hi))) (fun k hk => (a2 k hk).imp (fun h => h) fun h => xau Hb1.out.size h) HE8.out)
   clear a1 a2 a4 a5 a6 hJ hal hu
   simp only [qae, Act.put, xaf, xaj, xak]
   go_wp2_with fail
   refine ⟨rfl, _, results_none rfl _ _ _, rfl, HR.out⟩
 ·have e8 : putV ⟨nx, wt, l⟩ x0 = ⟨nx, 0, l ++ [{ x0 with sf := decide (wt = 1), em := decide (wt = 2) }]⟩ := if_neg h8
  have HE8 := xaa (HS'.out.symm.trans e8)
  have d8 : (x0.k == 8) = false := by simpa using h8
  have HD8 := xaa d8
  obtain ⟨z, hz⟩ : ∃ z, x0.k = z := ⟨_, rfl⟩
  rw [hz] at k0 h8 d8
  have hBx : Blk w1 w.heap.size 39 (clA x0) := B1
  have HBX := xaa hBx
  have HR1 := xaa R1
  have HO1 := xaa O1
  have HCR := xaa hCR
  have Hb1 := xaa b1
  obtain ⟨bs, hbs⟩ : ∃ b, decide (wt = 1) = b := ⟨_, rfl⟩
  obtain ⟨be, hbe⟩ : ∃ b, decide (wt = 2) = b := ⟨_, rfl⟩
  have Hbs := xaa hbs
  have Hbe := xaa hbe
  rw [hbs, hbe] at HE8
  have K : Hid (∀ W, SC w1 w.heap.size x0 W -> W.cell? ⟨R, 17, none⟩ = some (.int .u8 wt)) := xaa fun W hW => (HR1.out.keep hW.mod (Ne.symm HCR.out)).cell 17
  have hS0 : SC w1 w.heap.size x0 w1.drew := ⟨(Mod.refl _ _).drew, x0.sf, x0.em, (HBX.out.drewN 1 : Blk (w1.drewN 1) _ _ _)⟩
  have HS0 := xaa hS0
  clear B1 hBx R1 O1 b1 hbs hbe e8 hS0 hCR hz
  go_wp2_with fail
  clear k0
  refine ql8 (by kernel_rfl) (SC w1 w.heap.size x0) (fun _ _ => True) (fC w.heap.size bs be) (fun i => i == 11 || i == 13) HS0.out (fun RR hR => ?_)
  refine AllE.read (i := 0) (v := ?_) HS0.out (by rw [xab]; rfl) (by rfl) (by kernel_rfl) (by kernel_rfl) (by kernel_rfl) (by rfl) ?_ ?_
  rotate_left
  ·intro W hSw
   (try dsimp only at hSw)
   go_simp
   (try with_reducible rfl)
  rotate_left
  (try simp only [Act.put, xaf, xaj, xak])
  refine AllE.read (i := 1) (v := ?_) HS0.out (by rw [xab]; rfl) (by rfl) (by kernel_rfl) (by kernel_rfl) (by kernel_rfl) (by rfl) ?_ ?_
  rotate_left
  ·intro W hSw
   (try dsimp only at hSw)
   go_simp
   (try with_reducible rfl)
  rotate_left
  (try simp only [Act.put, xaf, xaj, xak])
  refine AllE.read (i := 2) (v := ?_) HS0.out (by rw [xab]; rfl) (by rfl) (by kernel_rfl) (by kernel_rfl) (by kernel_rfl) (by rfl) ?_ ?_
  rotate_left
  ·intro W hSw
   (try dsimp only at hSw)
   go_simp
   (try with_reducible rfl)
  rotate_left
  (try simp only [Act.put, xaf, xaj, xak])
  refine AllE.read (i := 3) (v := ?_) HS0.out (by rw [xab]; rfl) (by rfl) (by kernel_rfl) (by kernel_rfl) (by kernel_rfl) (by rfl) ?_ ?_
  rotate_left
  ·intro W hSw
   (try dsimp only at hSw)
   have q := K.out W hSw
   go_simp
   (try with_reducible rfl)
  rotate_left
  (try simp only [Act.put, xaf, xaj, xak])
  refine AllE.read (i := 4) (v := .bool bs) HS0.out (by rw [xab]; rfl) (by rfl) (by kernel_rfl) (by kernel_rfl) (by kernel_rfl) (by rfl) (fun W hSw => ?_) ?_
  ·(try dsimp only at hSw)
   have hq := Hbs.out
   go_simp
   rw [<- hq]
   exact Bool.eq_iff_iff.2 (by simp)
  (try simp only [Act.put, xaf, xaj, xak])
  refine AllE.read (i := 5) (v := ?_) HS0.out (by rw [xab]; rfl) (by rfl) (by kernel_rfl) (by kernel_rfl) (by kernel_rfl) (by rfl) ?_ ?_
  rotate_left
  ·intro W hSw
   (try dsimp only at hSw)
   go_simp
   (try with_reducible rfl)
  rotate_left
  (try simp only [Act.put, xaf, xaj, xak])
  refine AllE.read (i := 6) (v := ?_) HS0.out (by rw [xab]; rfl) (by rfl) (by kernel_rfl) (by kernel_rfl) (by kernel_rfl) (by rfl) ?_ ?_
  rotate_left
  ·intro W hSw
   (try dsimp only at hSw)
   go_simp
   (try with_reducible rfl)
  rotate_left
  (try simp only [Act.put, xaf, xaj, xak])
  refine AllE.read (i := 7) (v := ?_) HS0.out (by rw [xab]; rfl) (by rfl) (by kernel_rfl) (by kernel_rfl) (by kernel_rfl) (by rfl) ?_ ?_
  rotate_left
  ·intro W hSw
   (try dsimp only at hSw)
   go_simp
   (try with_reducible rfl)
  rotate_left
  (try simp only [Act.put, xaf, xaj, xak])
  refine AllE.read (i := 8) (v := ?_) HS0.out (by rw [xab]; rfl) (by rfl) (by kernel_rfl) (by kernel_rfl) (by kernel_rfl) (by rfl) ?_ ?_
  rotate_left
  ·intro W hSw
   (try dsimp only at hSw)
   have q := K.out W hSw
   go_simp
   (try with_reducible rfl)
  rotate_left
  (try simp only [Act.put, xaf, xaj, xak])
  refine AllE.read (i := 9) (v := .bool be) HS0.out (by rw [xab]; rfl) (by rfl) (by kernel_rfl) (by kernel_rfl) (by kernel_rfl) (by rfl) (fun W hSw => ?_) ?_
  ·(try dsimp only at hSw)
   have hq := Hbe.out
   go_simp
   rw [<- hq]
   exact Bool.eq_iff_iff.2 (by simp)
  (try simp only [Act.put, xaf, xaj, xak])
  refine AllE.read (i := 10) (v := ?_) HS0.out (by rw [xab]; rfl) (by rfl) (by kernel_rfl) (by kernel_rfl) (by kernel_rfl) (by rfl) ?_ ?_
  rotate_left
  ·intro W hSw
   (try dsimp only at hSw)
   go_simp
   (try with_reducible rfl)
  rotate_left
  (try simp only [Act.put, xaf, xaj, xak])
  refine AllE.effect (i := 11) HS0.out (by rw [xab]; rfl) (by rfl) (by kernel_rfl) (by kernel_rfl) (by kernel_rfl) (by rfl) (fun W hSw => ?_) ?_
  ·(try dsimp only at hSw)
   exact hSw.set4 bs be (.tmp 17) (.tmp 11) rfl rfl rfl
  rintro _ -
  (try simp only [Act.put])
  refine AllE.read (i := 12) (v := ?_) HS0.out (by rw [xab]; rfl) (by rfl) (by kernel_rfl) (by kernel_rfl) (by kernel_rfl) (by rfl) ?_ ?_
  rotate_left
  ·intro W hSw
   (try dsimp only at hSw)
   go_simp
   (try with_reducible rfl)
  rotate_left
  (try simp only [Act.put, xaf, xaj, xak])
  refine AllE.effect (i := 13) HS0.out (by rw [xab]; rfl) (by rfl) (by kernel_rfl) (by kernel_rfl) (by kernel_rfl) (by rfl) (fun W hSw => ?_) ?_
  ·(try dsimp only at hSw)
   exact hSw.set5 bs be (.tmp 18) (.tmp 16) rfl rfl rfl
  rintro _ -
  (try simp only [Act.put])
  refine AllE.done (by kernel_rfl) (hR.out _ _ ?_) _
  clear hR RR
  intro w2 hS2 hF2
  obtain ⟨s0, e0, hB2⟩ := hS2.box
  have hb2 : Blk w2 w.heap.size 39 (clA { x0 with sf := bs, em := be }) := by
   have q4 := hF2.1.2
   have q5 := hF2.2
   have q4 : w2.cell? ⟨w.heap.size, 4, none⟩ = some (.bool bs) := q4
   have q5 : w2.cell? ⟨w.heap.size, 5, none⟩ = some (.bool be) := q5
   rw [hB2.cell] at q4 q5
   have e4 : some (Value.bool s0) = some (.bool bs) := q4
   have e5 : some (Value.bool e0) = some (.bool be) := q5
   injection e4 with e4
   injection e4 with e4
   injection e5 with e5
   injection e5 with e5
   subst e4 e5
   exact hB2
  have R2 := HR1.out.keep hS2.mod (Ne.symm HCR.out)
  have O2 := HO1.out.keep hS2.mod fun k hk e => by
   have := qme HO.out hk
   omega
  have m2 := hS2.mod
  have hsz2 := hS2.mod.size
  clear hS2 hF2 hB2 K HS0
  go_wp2_with (refine qbr rfl 5 (.tmp 21) (.const (.int .u8 0)) rfl rfl R 17 rfl (.int .u8 0) rfl rfl rfl (by kernel_rfl) _ _ R2 (by simp [qde]) ?_; intro w3 m3 R3; refine Mk.out ?_)
  constructor
  rw [qqj] at R3
  have C3 := hb2.keep m3 HCR.out
  have O3 := O2.keep m3 fun k hk e => HNE.out (by rw [<- e]; exact hk)
  have M3 : Mod (fun k => k = R \/ w.heap.size <= k) w w3 := ((xap Hb1.out).seq m2 fun i hi => by rw [hi]; exact .inr (xat)).mono (T := fun k => k = R \/ w.heap.size <= k) (fun i hi => (show (False : Prop) from hi).elim) |>.trans (m3.mono fun i hi => .inl (.inl hi))
  have hsz3 : w1.heap.size <= w3.heap.size := xau hsz2 m3.size
  obtain ⟨x, hx⟩ : ∃ x : Cl, { x0 with sf := bs, em := be } = x := ⟨_, rfl⟩
  rw [hx] at C3 HE8
  have HB2 := xaa R3
  have HC2 := xaa C3
  have HO2 := xaa O3
  have HM3 := xaa M3
  have HBS : Hid (base <= w3.heap.size) := xaa (xau hb (xau Hb1.out.size hsz3))
  clear R2 O2 m2 hb2 m3 R3 C3 O3 M3 hx hsz2
  go_wp2_with fail
  refine qie (by kernel_rfl) (JP w3 base R w.heap.size c h f nx 0 o l x)
   ⟨fun j _ _ _ _ _ h => (by cases h), (Mod.refl _ _).drew, fun _ => below_drewN (xas) 1, fun h => (by cases h), fun h => (by cases h)⟩ (by kernel_rfl) (by kernel_rfl) (by kernel_rfl) (by kernel_rfl) ?stepJ ?doneJ
  case stepJ =>
   intro listed us W hJ i2 o2 ho hun hw hcl
   have V := fun j u q6 q7 q10 hv h => hJ.val j u q6 q7 q10 hv h
   have NOT : ∀ k m, m = m -> listed m = false -> waits _ k m = true -> listed k = false := fun k m _ hm hwk => by
    cases e : listed k with
    | false => rfl
    | true => have := hcl k m e hwk; rw [hm] at this; cases this
   simp only [qae, Act.put, xaf, xaj, xak]
   match i2, ho with
   | 0, ho =>
     simp only [xab, xad, xai] at ho
     subst ho
     exact rdJ rfl (.pointer (some ⟨R, 0, none⟩)) (by go_simp) (hJ.rd 0 _ (by decide) (by decide) (by decide) rfl)
   | 1, ho =>
     simp only [xab, xad, xae, xai] at ho
     subst ho
     exact rdJ rfl (.pointer (some ⟨R, 0, none⟩)) (by go_simp) (hJ.rd 1 _ (by decide) (by decide) (by decide) rfl)
   | 2, ho =>
     simp only [xab, xad, xae, xai] at ho
     subst ho
     have h1 : us 1 = .pointer (some ⟨R, 0, none⟩) := V 1 _ (by decide) (by decide) (by decide) rfl (hw 1 (by kernel_rfl))
     rw [h1]
     exact rdJ rfl (.pointer (some ⟨R, 0, none⟩)) (by go_simp) (hJ.rd 2 _ (by decide) (by decide) (by decide) rfl)
   | 3, ho =>
     simp only [xab, xad, xae, xai] at ho
     subst ho
     have h2 : us 2 = .pointer (some ⟨R, 0, none⟩) := V 2 _ (by decide) (by decide) (by decide) rfl (hw 2 (by kernel_rfl))
     rw [h2]
     exact rdJ rfl (.pointer (some ⟨R, 18, none⟩)) (by go_simp) (hJ.rd 3 _ (by decide) (by decide) (by decide) rfl)
   | 4, ho =>
     simp only [xab, xad, xae, xai] at ho
     subst ho
     have h3 : us 3 = .pointer (some ⟨R, 18, none⟩) := V 3 _ (by decide) (by decide) (by decide) rfl (hw 3 (by kernel_rfl))
     rw [h3]
     have h7 : listed 7 = false := NOT 7 4 rfl hun (by kernel_rfl)
     have hq := (HB2.out.kb ((hJ.pre h7))).cell 18
     exact rdJ rfl _ (by go_simp; first | rfl | exact hq) (hJ.rd 4 _ (by decide) (by decide) (by decide) rfl)
   | 5, ho =>
     simp only [xab, xad, xae, xai] at ho
     subst ho
     have h7 : listed 7 = false := NOT 7 6 rfl (NOT 6 5 rfl hun (by kernel_rfl)) (by kernel_rfl)
     have hL := (HC2.out.kb ((hJ.pre h7))).lies
     exact rdJ rfl _ (rdCl (.tmp 3) rfl _ rfl x hL) (hJ.rd 5 _ (by decide) (by decide) (by decide) rfl)
   | 6, ho =>
     simp only [xab, xad, xae, xai] at ho
     subst ho
     have h5 : us 5 = .agg (clA x) := V 5 _ (by decide) (by decide) (by decide) rfl (hw 5 (by kernel_rfl))
     have h7 : listed 7 = false := NOT 7 6 rfl hun (by kernel_rfl)
     rw [h5]
     exact .inl ⟨qaa rfl _, .inl ⟨.slice (some ⟨W.heap.size, 0, none⟩) 1 1, W.alloc (.cells (clA x) 39), (by kernel_rfl), hJ.mk6 h7 (xar _ _) (Blk.new _ _ _)⟩⟩
   | 7, ho =>
     simp only [xab, xad, xae, xai] at ho
     subst ho
     have h4 : us 4 = o := V 4 _ (by decide) (by decide) (by decide) rfl (hw 4 (by kernel_rfl))
     have h10 : listed 10 = false := NOT 10 7 rfl hun (by kernel_rfl)
     obtain ⟨g, h6, hg⟩ := hJ.lit (hw 6 (by kernel_rfl)) hun
     rw [h4, h6]
     have hOW := HO2.out.keep (S := fun _ => False) (xap (hJ.pre hun)) fun _ _ => id
     obtain ⟨u, W2, hr, q1, q2, q3⟩ := qxy hOW hg HLN.out (xau HBS.out (hJ.pre hun).size) 33
     exact .inl ⟨qaa rfl _, .inl ⟨u, W2, qf1 (.tmp 26) (.tmp 28) rfl rfl rfl hr, hJ.mk7 h10 q2 hun HB2.out HNE.out q1 q3⟩⟩
   | 8, ho =>
     simp only [xab, xad, xae, xai] at ho
     subst ho
     have h0 : us 0 = .pointer (some ⟨R, 0, none⟩) := V 0 _ (by decide) (by decide) (by decide) rfl (hw 0 (by kernel_rfl))
     rw [h0]
     exact rdJ rfl (.pointer (some ⟨R, 0, none⟩)) (by go_simp) (hJ.rd 8 _ (by decide) (by decide) (by decide) rfl)
   | 9, ho =>
     simp only [xab, xad, xae, xai] at ho
     subst ho
     have h8 : us 8 = .pointer (some ⟨R, 0, none⟩) := V 8 _ (by decide) (by decide) (by decide) rfl (hw 8 (by kernel_rfl))
     rw [h8]
     exact rdJ rfl (.pointer (some ⟨R, 18, none⟩)) (by go_simp) (hJ.rd 9 _ (by decide) (by decide) (by decide) rfl)
   | 10, ho =>
     simp only [xab, xad, xae, xai] at ho
     subst ho
     have h9 : us 9 = .pointer (some ⟨R, 18, none⟩) := V 9 _ (by decide) (by decide) (by decide) rfl (hw 9 (by kernel_rfl))
     have h7 : listed 7 = true := hw 7 (by kernel_rfl)
     rw [h9]
     obtain ⟨a1, a2, a3, _⟩ := hJ.app h7
     have hBR := a3 hun
     have hne2 := own_ne hBR (by decide) a1
     obtain ⟨u, hu⟩ : ∃ u, us 7 = u := ⟨_, rfl⟩
     rw [hu] at a1 hne2 |-
     have hf : ∃ A m cp, u = .slice A m cp := by
      rcases a1.2 with ⟨e, _⟩ | ⟨g, cap, cur, e, _⟩
      ·exact ⟨_, _, _, e⟩
      ·exact ⟨_, _, _, e⟩
     obtain ⟨A, mm, cp, hu2⟩ := hf
     refine .inl ⟨qaa rfl _, .inr (.inl ⟨_, qa7 (P := Tryz.prog) (w := W) 33 (.tmp 31) (.tmp 29) rfl R 18 rfl u rfl (by rw [hu2]; rfl) (by rw [hu2]; rfl) (by kernel_rfl) _ _ hBR (by simp [qde]), hJ.mk10 h7 (qai _ _ _) ?_ (by rw [hu]; exact hne2)⟩)⟩
     rw [hu]
     have := setRow_heap _ _ _ ((qde c h f nx 0 o).setIfInBounds 18 u) _ _ hBR
     rwa [ql4] at this
   | (k + 11), ho => simp at ho
  case doneJ =>
   intro listed us W hal hJ
   obtain ⟨a1, a2, _, a4⟩ := hJ.app (hal 7 (by decide))
   have a5 := a4 (hal 10 (by decide))
   have a6 := hJ.mod
   obtain ⟨u, hu⟩ : ∃ u, us 7 = u := ⟨_, rfl⟩
   rw [hu] at a1 a2 a5
   have HR := xaa (FIN.out nx 0 x u W a5 a1 ((HM3.out.mono (T := fun k => (k = R \/ o.ownBlock = some k) \/ w.heap.size <= k) fun i hi => .inl (by rcases hi with h | h; exact .inl (.inl h); exact .inr h)).trans (a6.mono fun i hi => .inl (.inl hi))) (fun k hk => (a2 k hk).imp (fun h => h) fun h => xau Hb1.out.size (xau hsz3 h)) HE8.out)
   clear a1 a2 a4 a5 a6 hJ hal hu
   simp only [qae, Act.put, xaf, xaj, xak]
   go_wp2_with fail
   refine ⟨rfl, _, results_none rfl _ _ _, rfl, HR.out⟩
end Ce
end Go.Proofs.YtmceblkjbpbcoaaGreatDoor
