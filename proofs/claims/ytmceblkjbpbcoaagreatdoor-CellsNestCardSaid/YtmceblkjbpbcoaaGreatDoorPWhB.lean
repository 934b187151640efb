/- Contracts of layers below. -/
import Derived.Test.YtmceblkjbpbcoaaGreatDoorPWhO
import Derived.Test.YtmceblkjbpbcoaaGreatDoorPApG
import Derived.Test.YtmceblkjbpbcoaaGreatDoorPBase
namespace Go.Proofs.YtmceblkjbpbcoaaGreatDoor
set_option maxRecDepth 100000
set_option maxHeartbeats 8000000
open Go.ChangeShapes Go.WideShapes Go.ChangeAt Go.RowKit
namespace Wl
open Go.Shelf
open Wh
def qcm (l : List Cw) (f : Nat -> Cw) (u : Value) (W : World) : Prop := ∃ gf gl, u = .func (.func 140) #[] #[.pointer (some ⟨gf, 0, none⟩), .pointer (some ⟨gl, 0, none⟩)] /\ NearAt W gf gl l f
theorem qcm.below {l : List Cw} {f : Nat -> Cw} {u : Value} {w w' : World} (h : qcm l f u w) (b : Below w.heap.size w w') : qcm l f u w' := by
 obtain ⟨gf, gl, h1, h2⟩ := h
 exact ⟨gf, gl, h1, h2.below b⟩
def qi3 (k : Nat) (v : Value) (u : Value) (W : World) : Prop := ∃ g, u = .func (.func k) #[] #[.pointer (some ⟨g, 0, none⟩)] /\ g < W.heap.size /\ W.cell? ⟨g, 0, none⟩ = some v
theorem qi3.below {k : Nat} {v u : Value} {w w' : World} (h : qi3 k v u w) (b : Below w.heap.size w w') : qi3 k v u w' := by
 obtain ⟨g, h1, h2, h3⟩ := h
 exact ⟨g, h1, Nat.lt_of_lt_of_le h2 b.size, (b.cell (p := ⟨g, 0, none⟩) h2).trans h3⟩
def qxb (l : List Cw) (fA fB : Nat -> Cw) (s v : Value) (i : Nat) (u : Value) (W : World) : Prop :=
 if i = 0 \/ i = 5 then u = s else if i = 1 \/ i = 2 \/ i = 6 \/ i = 7 then u = v else if i = 3 then qi3 141 v u W else if i = 8 then qi3 142 v u W else if i = 4 \/ i = 10 then qcm l fA u W else qcm l fB u W
theorem qxb.below {l : List Cw} {fA fB : Nat -> Cw} {s v : Value} (i : Nat) (u : Value) (w w' : World) (h : qxb l fA fB s v i u w) (b : Below w.heap.size w w') : qxb l fA fB s v i u w' := by
 unfold qxb at h |-
 split
 ·rename_i e; rw [if_pos e] at h; exact h
 ·rename_i e
  rw [if_neg e] at h
  split
  ·rename_i e; rw [if_pos e] at h; exact h
  ·rename_i e
   rw [if_neg e] at h
   split
   ·rename_i e; rw [if_pos e] at h; exact h.below b
   ·rename_i e
    rw [if_neg e] at h
    split
    ·rename_i e; rw [if_pos e] at h; exact h.below b
    ·rename_i e
     rw [if_neg e] at h
     split
     ·rename_i e; rw [if_pos e] at h; exact h.below b
     ·rename_i e; rw [if_neg e] at h; exact h.below b
theorem qlv (vg vt : Value) (l : List Cw) (v : Value) (w : World) (hR : RwW w v l) (hlen : l.length <= 1048576) :
 Calls Tryz.prog 80 #[.agg #[Value.nilFunc, vg, vt], v] w fun e w' => ∃ u1 u2, e = .returned (.tuple #[u1, u2]) /\ qcm l (stA none1 l) u1 w' /\ qcm l (fun i => nxt none1 (l.drop (i + 1))) u2 w' /\ Below w.heap.size w w' := by
 have N1 : Hid (∀ (W : World) (u : Value), Below w.heap.size w W -> qi3 141 v u W -> Calls Tryz.prog 117 #[.agg #[Value.nilFunc, vg, vt], v, u] W fun e W' => ∃ u', e = .returned u' /\ Below W.heap.size W W' /\ qcm l (stA none1 l) u' W') := xaa fun W u b h => by
  obtain ⟨g, rfl, hg, hc⟩ := h
  refine (qg5 vg vt l v 141 #[.pointer (some ⟨g, 0, none⟩)] (List.range l.length) (stA none1 l) W (hR.below b) hlen (enters_of Tryz.func141 (by kernel_rfl) rfl) (fun n X hX => qg9 n g l v W X (hR.below b) hlen hX hg hc) (qi9 none1 l)).mono ?_
  rintro e W' ⟨gf, gl, rfl, h1, h2⟩
  exact ⟨_, rfl, h2, gf, gl, rfl, h1⟩
 have N2 : Hid (∀ (W : World) (u : Value), Below w.heap.size w W -> qi3 142 v u W -> Calls Tryz.prog 117 #[.agg #[Value.nilFunc, vg, vt], v, u] W fun e W' => ∃ u', e = .returned u' /\ Below W.heap.size W W' /\ qcm l (fun i => nxt none1 (l.drop (i + 1))) u' W') := xaa fun W u b h => by
  obtain ⟨g, rfl, hg, hc⟩ := h
  refine (qg5 vg vt l v 142 #[.pointer (some ⟨g, 0, none⟩)] (qnv l.length) (fun i => nxt none1 (l.drop (i + 1))) W (hR.below b) hlen (enters_of Tryz.func142 (by kernel_rfl) rfl) (fun n X hX => qfv n g l v W X (hR.below b) hlen hX hg hc) (qi8 none1 l)).mono ?_
  rintro e W' ⟨gf, gl, rfl, h1, h2⟩
  exact ⟨_, rfl, h2, gf, gl, rfl, h1⟩
 obtain ⟨fA, hfA⟩ : ∃ f, stA none1 l = f := ⟨_, rfl⟩
 obtain ⟨fB, hfB⟩ : ∃ f, (fun i => nxt none1 (l.drop (i + 1))) = f := ⟨_, rfl⟩
 rw [hfA] at N1 |-
 rw [hfB] at N2 |-
 obtain ⟨A, cap, rfl⟩ := hR.form
 obtain ⟨m, hm⟩ : ∃ m, l.length = m := ⟨_, rfl⟩
 rw [hm] at N1 N2 hlen |-
 clear hfA hfB hm hR
 go_enter Tryz.func80, Tryz.ntmps80
 go_wp2_with fail
 have b1 := xar w (.cells #[Value.nilFunc, vg, vt] 111)
 have B1 := Blk.new w 111 #[Value.nilFunc, vg, vt]
 obtain ⟨w1, hw1⟩ : ∃ w1, w.alloc (.cells #[Value.nilFunc, vg, vt] 111) = w1 := ⟨_, rfl⟩
 rw [hw1] at b1 B1 |-
 clear hw1
 have CC : Hid (∀ W, Below w1.heap.size w1 W -> W.cell? ⟨w.heap.size, 0, none⟩ = some (Value.nilFunc) /\ W.cell? ⟨w.heap.size, 1, none⟩ = some vg /\ W.cell? ⟨w.heap.size, 2, none⟩ = some vt) := xaa fun W h => by
  have B := B1.kb h
  exact ⟨B.cell 0, B.cell 1, B.cell 2⟩
 refine ql6 (by kernel_rfl) (fun W => Below w1.heap.size w1 W) (fun _ _ h b => xaq h b) (qxb l fA fB (.agg #[Value.nilFunc, vg, vt]) (.slice A m cap)) qxb.below (below_drewN (xas) 1) (by kernel_rfl) (by kernel_rfl) (by kernel_rfl) (by kernel_rfl) ?step ?done
 case step =>
  intro us W hSW i o ho hD
  obtain ⟨q0, q1, q2⟩ := CC.out W hSW
  simp only [qae, Act.put, xaf, xaj, xak]
  match i, ho with
  | 0, ho =>
    simp only [xab, xad, xai] at ho
    subst ho
    exact .inl ⟨qaa rfl _, .inl ⟨.agg #[Value.nilFunc, vg, vt], W, (by go_simp), xas, rfl⟩⟩
  | 1, ho =>
    simp only [xab, xad, xae, xai] at ho
    subst ho
    exact .inl ⟨qaa rfl _, .inl ⟨.slice A m cap, W, (by go_simp), xas, rfl⟩⟩
  | 2, ho =>
    simp only [xab, xad, xae, xai] at ho
    subst ho
    exact .inl ⟨qaa rfl _, .inl ⟨.slice A m cap, W, (by go_simp), xas, rfl⟩⟩
  | 3, ho =>
    simp only [xab, xad, xae, xai] at ho
    subst ho
    have h2 : us 2 = .slice A m cap := hD 2 (by kernel_rfl)
    rw [h2]
    refine .inl ⟨qaa rfl _, .inr ⟨_, _, (by go_simp), (qpw A m cap W).mono ?_⟩⟩
    rintro e W' ⟨rfl, hb, b⟩
    exact ⟨_, rfl, b, _, rfl, hb.lt, hb.cell⟩
  | 4, ho =>
    simp only [xab, xad, xae, xai] at ho
    subst ho
    have h0 : us 0 = .agg #[Value.nilFunc, vg, vt] := hD 0 (by kernel_rfl)
    have h1 : us 1 = .slice A m cap := hD 1 (by kernel_rfl)
    have h3 := hD 3 (by kernel_rfl)
    rw [h0, h1]
    refine .inl ⟨qaa rfl _, .inr ⟨_, _, (by go_simp), N1.out W (us 3) (xaq b1 hSW) h3⟩⟩
  | 5, ho =>
    simp only [xab, xad, xae, xai] at ho
    subst ho
    exact .inl ⟨qaa rfl _, .inl ⟨.agg #[Value.nilFunc, vg, vt], W, (by go_simp), xas, rfl⟩⟩
  | 6, ho =>
    simp only [xab, xad, xae, xai] at ho
    subst ho
    exact .inl ⟨qaa rfl _, .inl ⟨.slice A m cap, W, (by go_simp), xas, rfl⟩⟩
  | 7, ho =>
    simp only [xab, xad, xae, xai] at ho
    subst ho
    exact .inl ⟨qaa rfl _, .inl ⟨.slice A m cap, W, (by go_simp), xas, rfl⟩⟩
  | 8, ho =>
    simp only [xab, xad, xae, xai] at ho
    subst ho
    have h2 : us 7 = .slice A m cap := hD 7 (by kernel_rfl)
    rw [h2]
    refine .inl ⟨qaa rfl _, .inr ⟨_, _, (by go_simp), (qlw A m cap W).mono ?_⟩⟩
    rintro e W' ⟨rfl, hb, b⟩
    exact ⟨_, rfl, b, _, rfl, hb.lt, hb.cell⟩
  | 9, ho =>
    simp only [xab, xad, xae, xai] at ho
    subst ho
    have h0 : us 5 = .agg #[Value.nilFunc, vg, vt] := hD 5 (by kernel_rfl)
    have h1 : us 6 = .slice A m cap := hD 6 (by kernel_rfl)
    have h3 := hD 8 (by kernel_rfl)
    rw [h0, h1]
    refine .inl ⟨qaa rfl _, .inr ⟨_, _, (by go_simp), N2.out W (us 8) (xaq b1 hSW) h3⟩⟩
  | 10, ho =>
    simp only [xab, xad, xae, xai] at ho
    subst ho
    exact .inl ⟨qaa rfl _, .inl ⟨us 4, W, (by go_simp), xas, hD 4 (by kernel_rfl)⟩⟩
  | 11, ho =>
    simp only [xab, xad, xae, xai] at ho
    subst ho
    exact .inl ⟨qaa rfl _, .inl ⟨us 9, W, (by go_simp), xas, hD 9 (by kernel_rfl)⟩⟩
  | n + 12, ho => simp at ho
 case done =>
  intro us W hSW hD
  have h4 : qcm l fA (us 10) W := hD 10 (by decide)
  have h5 : qcm l fB (us 11) W := hD 11 (by decide)
  simp only [qae, Act.put, xaf, xaj, xak]
  generalize us 10 = u1 at *
  generalize us 11 = u2 at *
  go_wp2_with fail
  go_ret2
  exact ⟨_, _, rfl, h4, h5, xaq b1 hSW⟩
theorem qtb (vg vt : Value) (l : List Cw) (v : Value) (w : World) (hR : RwW w v l) (hlen : l.length <= 1048576) :
 Calls Tryz.prog 80 #[.agg #[.func (.func 66) #[] #[], vg, vt], v] w fun e w' => ∃ u1 u2, e = .returned (.tuple #[u1, u2]) /\ qcm l (stA whtW l) u1 w' /\ qcm l (fun i => nxt whtW (l.drop (i + 1))) u2 w' /\ Below w.heap.size w w' := by
 have N1 : Hid (∀ (W : World) (u : Value), Below w.heap.size w W -> qi3 141 v u W -> Calls Tryz.prog 117 #[.agg #[.func (.func 66) #[] #[], vg, vt], v, u] W fun e W' => ∃ u', e = .returned u' /\ Below W.heap.size W W' /\ qcm l (stA whtW l) u' W') := xaa fun W u b h => by
  obtain ⟨g, rfl, hg, hc⟩ := h
  refine (qg4 vg vt l v 141 #[.pointer (some ⟨g, 0, none⟩)] (List.range l.length) (stA whtW l) W (hR.below b) hlen (enters_of Tryz.func141 (by kernel_rfl) rfl) (fun n X hX => qg9 n g l v W X (hR.below b) hlen hX hg hc) (qi9 whtW l)).mono ?_
  rintro e W' ⟨gf, gl, rfl, h1, h2⟩
  exact ⟨_, rfl, h2, gf, gl, rfl, h1⟩
 have N2 : Hid (∀ (W : World) (u : Value), Below w.heap.size w W -> qi3 142 v u W -> Calls Tryz.prog 117 #[.agg #[.func (.func 66) #[] #[], vg, vt], v, u] W fun e W' => ∃ u', e = .returned u' /\ Below W.heap.size W W' /\ qcm l (fun i => nxt whtW (l.drop (i + 1))) u' W') := xaa fun W u b h => by
  obtain ⟨g, rfl, hg, hc⟩ := h
  refine (qg4 vg vt l v 142 #[.pointer (some ⟨g, 0, none⟩)] (qnv l.length) (fun i => nxt whtW (l.drop (i + 1))) W (hR.below b) hlen (enters_of Tryz.func142 (by kernel_rfl) rfl) (fun n X hX => qfv n g l v W X (hR.below b) hlen hX hg hc) (qi8 whtW l)).mono ?_
  rintro e W' ⟨gf, gl, rfl, h1, h2⟩
  exact ⟨_, rfl, h2, gf, gl, rfl, h1⟩
 obtain ⟨fA, hfA⟩ : ∃ f, stA whtW l = f := ⟨_, rfl⟩
 obtain ⟨fB, hfB⟩ : ∃ f, (fun i => nxt whtW (l.drop (i + 1))) = f := ⟨_, rfl⟩
 rw [hfA] at N1 |-
 rw [hfB] at N2 |-
 obtain ⟨A, cap, rfl⟩ := hR.form
 obtain ⟨m, hm⟩ : ∃ m, l.length = m := ⟨_, rfl⟩
 rw [hm] at N1 N2 hlen |-
 clear hfA hfB hm hR
 go_enter Tryz.func80, Tryz.ntmps80
 go_wp2_with fail
 have b1 := xar w (.cells #[.func (.func 66) #[] #[], vg, vt] 111)
 have B1 := Blk.new w 111 #[.func (.func 66) #[] #[], vg, vt]
 obtain ⟨w1, hw1⟩ : ∃ w1, w.alloc (.cells #[.func (.func 66) #[] #[], vg, vt] 111) = w1 := ⟨_, rfl⟩
 rw [hw1] at b1 B1 |-
 clear hw1
 have CC : Hid (∀ W, Below w1.heap.size w1 W -> W.cell? ⟨w.heap.size, 0, none⟩ = some (.func (.func 66) #[] #[]) /\ W.cell? ⟨w.heap.size, 1, none⟩ = some vg /\ W.cell? ⟨w.heap.size, 2, none⟩ = some vt) := xaa fun W h => by
  have B := B1.kb h
  exact ⟨B.cell 0, B.cell 1, B.cell 2⟩
 refine ql6 (by kernel_rfl) (fun W => Below w1.heap.size w1 W) (fun _ _ h b => xaq h b) (qxb l fA fB (.agg #[.func (.func 66) #[] #[], vg, vt]) (.slice A m cap)) qxb.below (below_drewN (xas) 1) (by kernel_rfl) (by kernel_rfl) (by kernel_rfl) (by kernel_rfl) ?step ?done
 case step =>
  intro us W hSW i o ho hD
  obtain ⟨q0, q1, q2⟩ := CC.out W hSW
  simp only [qae, Act.put, xaf, xaj, xak]
  match i, ho with
  | 0, ho =>
    simp only [xab, xad, xai] at ho
    subst ho
    exact .inl ⟨qaa rfl _, .inl ⟨.agg #[.func (.func 66) #[] #[], vg, vt], W, (by go_simp), xas, rfl⟩⟩
  | 1, ho =>
    simp only [xab, xad, xae, xai] at ho
    subst ho
    exact .inl ⟨qaa rfl _, .inl ⟨.slice A m cap, W, (by go_simp), xas, rfl⟩⟩
  | 2, ho =>
    simp only [xab, xad, xae, xai] at ho
    subst ho
    exact .inl ⟨qaa rfl _, .inl ⟨.slice A m cap, W, (by go_simp), xas, rfl⟩⟩
  | 3, ho =>
    simp only [xab, xad, xae, xai] at ho
    subst ho
    have h2 : us 2 = .slice A m cap := hD 2 (by kernel_rfl)
    rw [h2]
    refine .inl ⟨qaa rfl _, .inr ⟨_, _, (by go_simp), (qpw A m cap W).mono ?_⟩⟩
    rintro e W' ⟨rfl, hb, b⟩
    exact ⟨_, rfl, b, _, rfl, hb.lt, hb.cell⟩
  | 4, ho =>
    simp only [xab, xad, xae, xai] at ho
    subst ho
    have h0 : us 0 = .agg #[.func (.func 66) #[] #[], vg, vt] := hD 0 (by kernel_rfl)
    have h1 : us 1 = .slice A m cap := hD 1 (by kernel_rfl)
    have h3 := hD 3 (by kernel_rfl)
    rw [h0, h1]
    refine .inl ⟨qaa rfl _, .inr ⟨_, _, (by go_simp), N1.out W (us 3) (xaq b1 hSW) h3⟩⟩
  | 5, ho =>
    simp only [xab, xad, xae, xai] at ho
    subst ho
    exact .inl ⟨qaa rfl _, .inl ⟨.agg #[.func (.func 66) #[] #[], vg, vt], W, (by go_simp), xas, rfl⟩⟩
  | 6, ho =>
    simp only [xab, xad, xae, xai] at ho
    subst ho
    exact .inl ⟨qaa rfl _, .inl ⟨.slice A m cap, W, (by go_simp), xas, rfl⟩⟩
  | 7, ho =>
    simp only [xab, xad, xae, xai] at ho
    subst ho
    exact .inl ⟨qaa rfl _, .inl ⟨.slice A m cap, W, (by go_simp), xas, rfl⟩⟩
  | 8, ho =>
    simp only [xab, xad, xae, xai] at ho
    subst ho
    have h2 : us 7 = .slice A m cap := hD 7 (by kernel_rfl)
    rw [h2]
    refine .inl ⟨qaa rfl _, .inr ⟨_, _, (by go_simp), (qlw A m cap W).mono ?_⟩⟩
    rintro e W' ⟨rfl, hb, b⟩
    exact ⟨_, rfl, b, _, rfl, hb.lt, hb.cell⟩
  | 9, ho =>
    simp only [xab, xad, xae, xai] at ho
    subst ho
    have h0 : us 5 = .agg #[.func (.func 66) #[] #[], vg, vt] := hD 5 (by kernel_rfl)
    have h1 : us 6 = .slice A m cap := hD 6 (by kernel_rfl)
    have h3 := hD 8 (by kernel_rfl)
    rw [h0, h1]
    refine .inl ⟨qaa rfl _, .inr ⟨_, _, (by go_simp), N2.out W (us 8) (xaq b1 hSW) h3⟩⟩
  | 10, ho =>
    simp only [xab, xad, xae, xai] at ho
    subst ho
    exact .inl ⟨qaa rfl _, .inl ⟨us 4, W, (by go_simp), xas, hD 4 (by kernel_rfl)⟩⟩
  | 11, ho =>
    simp only [xab, xad, xae, xai] at ho
    subst ho
    exact .inl ⟨qaa rfl _, .inl ⟨us 9, W, (by go_simp), xas, hD 9 (by kernel_rfl)⟩⟩
  | n + 12, ho => simp at ho
 case done =>
  intro us W hSW hD
  have h4 : qcm l fA (us 10) W := hD 10 (by decide)
  have h5 : qcm l fB (us 11) W := hD 11 (by decide)
  simp only [qae, Act.put, xaf, xaj, xak]
  generalize us 10 = u1 at *
  generalize us 11 = u2 at *
  go_wp2_with fail
  go_ret2
  exact ⟨_, _, rfl, h4, h5, xaq b1 hSW⟩
end Wl
namespace Wl
open Go.Shelf
open Wh
def OwW (base : Nat) (w : World) (v : Value) (l : List Cw) : Prop := w.ownsRow base 116 6 v l.length (qcx l)
theorem OwW.rw_ {base : Nat} {w : World} {v : Value} {l : List Cw} (h : OwW base w v l) : RwW w v l := qzf h rfl
theorem OwW.below {base : Nat} {w w' : World} {v : Value} {l : List Cw} (h : OwW base w v l) (b : Below w.heap.size w w') : OwW base w' v l := qcd (S := fun _ => False) h (xap b) fun _ _ => id
theorem OwW.base_ {base base' : Nat} {w : World} {v : Value} {l : List Cw} (h : OwW base w v l) (hb : base' <= base) : OwW base' w v l := qmf h hb
theorem qxo : (Tryz.prog.info? 116).map (fun i => (i.zero, i.size, i.bytes)) = some (some (.agg (cwA zCw)), 6, 48) := by kernel_rfl
def room (n : Nat) : Array Value := madeCells (Value.agg (cwA zCw)).cells (n * 6)
theorem qrf (n : Nat) (hn : n <= 1048576) (w : World) : (Instr.makeSlice 104 (.int .i64 0) (.int .i64 (n : Int))).run Tryz.prog w = .ok (.slice (some ⟨w.heap.size, 0, none⟩) 0 n) (w.alloc (.cells (room n) 116)) := by
 obtain ⟨i0, hi, hz0, hz1, hz2⟩ := qbl qxo
 have h := run_make (P := Tryz.prog) w 104 116 i0 (.agg (cwA zCw)) Tryz.underlying104 hi hz0 .i64 .i64 0 (n : Int) (by omega) (by omega) (by rw [hz2]; omega) (by omega)
 rw [hz1] at h
 simp only [xax] at h
 exact h
theorem quu (n : Nat) (hn : n <= 1048576) (w : World) : OwW w.heap.size (w.alloc (.cells (room n) 116)) (.slice (some ⟨w.heap.size, 0, none⟩) 0 n) [] :=
 ⟨rfl, .inr ⟨w.heap.size, n, room n, rfl, xat, heap_alloc_new w _, Nat.zero_le _, by unfold maxLen; omega, by simp [room, size_madeCells], by simp [qcx]⟩⟩
theorem qfw (K : Nat) (gone : Cw -> Cw -> Cw -> Bool) (vp vt : Value) (l : List Cw) (v u1 u2 : Value) (fA fB : Nat -> Cw) (bs bb bl ba i : Nat) (c : Cw) (w : World)
 (heg : ∀ args w, (callFunc K args).run Tryz.prog w = .ok (.enter K args) w)
 (hG : ∀ b c a W, Below w.heap.size w W -> Calls Tryz.prog K #[.agg (cwA b), .agg (cwA c), .agg (cwA a)] W fun e w' => e = .returned (.bool (gone b c a)) /\ Below W.heap.size W w')
 (h1 : Blk w bs 111 #[vp, .func (.func K) #[] #[], vt]) (h2 : Boxed w bb 150 u1) (n1 : qcm l fA u1 w) (h3 : Boxed w bl 104 v) (hR : RwW w v l) (h4 : Boxed w ba 150 u2) (n2 : qcm l fB u2 w)
 (hi : l[i]? = some c) :
 Calls Tryz.prog 82 #[.int .i64 (i : Int), .pointer (some ⟨bs, 0, none⟩), .pointer (some ⟨bb, 0, none⟩), .pointer (some ⟨bl, 0, none⟩), .pointer (some ⟨ba, 0, none⟩)] w fun e w' => e = .returned (.bool (gone (fA i) c (fB i))) /\ Below w.heap.size w w' := by
 have hil : i < l.length := (xah hi).1
 obtain ⟨gf, gl, rfl, m1⟩ := n1
 obtain ⟨gf2, gl2, rfl, m2⟩ := n2
 have C1 : Hid (∀ W, Below w.heap.size w W -> Calls Tryz.prog 140 #[.int .i64 (i : Int), .pointer (some ⟨gf, 0, none⟩), .pointer (some ⟨gl, 0, none⟩)] W fun e w' => e = .returned (.agg (cwA (fA i))) /\ Below W.heap.size W w') := xaa fun W h => qg6 l fA gf gl i W (m1.below h) hil
 have C2 : Hid (∀ W, Below w.heap.size w W -> Calls Tryz.prog 140 #[.int .i64 (i : Int), .pointer (some ⟨gf2, 0, none⟩), .pointer (some ⟨gl2, 0, none⟩)] W fun e w' => e = .returned (.agg (cwA (fB i))) /\ Below W.heap.size W w') := xaa fun W h => qg6 l fB gf2 gl2 i W (m2.below h) hil
 have CG : Hid (∀ W, Below w.heap.size w W -> Calls Tryz.prog K #[.agg (cwA (fA i)), .agg (cwA c), .agg (cwA (fB i))] W fun e w' => e = .returned (.bool (gone (fA i) c (fB i))) /\ Below W.heap.size W w') := xaa fun W h => hG _ _ _ W h
 obtain ⟨x, hx⟩ : ∃ x, gone (fA i) c (fB i) = x := ⟨_, rfl⟩
 rw [hx] at CG |-
 obtain ⟨A, ha⟩ : ∃ x, fA i = x := ⟨_, rfl⟩
 obtain ⟨B, hb⟩ : ∃ x, fB i = x := ⟨_, rfl⟩
 rw [ha] at C1 CG
 rw [hb] at C2 CG
 obtain ⟨ad, cap, o, hv, hab, hao, hLi⟩ := hR.get (xas) hi
 obtain ⟨m, hm⟩ : ∃ m, l.length = m := ⟨_, rfl⟩
 rw [hm] at hv hil
 subst hv
 have hiz : (i : Int) < m := by omega
 have CC : Hid (∀ W, Below w.heap.size w W -> W.cell? ⟨bs, 1, none⟩ = some (.func (.func K) #[] #[]) /\ W.cell? ⟨bb, 0, none⟩ = some (.func (.func 140) #[] #[.pointer (some ⟨gf, 0, none⟩), .pointer (some ⟨gl, 0, none⟩)]) /\ W.cell? ⟨bl, 0, none⟩ = some (.slice (some ad) m cap) /\ W.cell? ⟨ba, 0, none⟩ = some (.func (.func 140) #[] #[.pointer (some ⟨gf2, 0, none⟩), .pointer (some ⟨gl2, 0, none⟩)]) /\ qar W (ad.add (i * 6)) (cwA c)) := xaa fun W h => by
  have hc2 := h2.cell
  have hc3 := h3.cell
  have hc4 := h4.cell
  exact ⟨(h.cell (p := ⟨bs, 1, none⟩) h1.lt).trans (h1.cell 1), (h.cell (p := ⟨bb, 0, none⟩) (World.block_lt_of_cell? _ _ hc2)).trans hc2, (h.cell (p := ⟨bl, 0, none⟩) (World.block_lt_of_cell? _ _ hc3)).trans hc3, (h.cell (p := ⟨ba, 0, none⟩) (World.block_lt_of_cell? _ _ hc4)).trans hc4, (hao ▸ hLi).below h⟩
 clear hG h1 h2 m1 h3 hR h4 m2 hi hx ha hb hm hLi hao
 go_enter Tryz.func82, Tryz.ntmps82
 go_wp2_with fail
 refine qax (by kernel_rfl) (fun W => Below w.heap.size w W) (below_drewN (xas) 1) (fun R hR => ?_)
 refine AllS.start ?_
 iterate 4 refine AllS.f CC.out ?_
 refine AllS.c (.agg (cwA A)) 140 #[.int .i64 (i : Int), .pointer (some ⟨gf, 0, none⟩), .pointer (some ⟨gl, 0, none⟩)] (fun W hSw => ?_) ?_
 ·exact (C1.out W hSw).mono fun e w' h => ⟨h.1, xaq hSw h.2⟩
 iterate 3 refine AllS.f CC.out ?_
 refine AllS.r (.agg (cwA c)) (fun W hSw => ?_) ?_
 ·(try dsimp only at hSw)
  obtain ⟨q1, q2, q3, q4, q5⟩ := CC.out W hSw
  exact rdW (.tmp 14) rfl _ rfl c q5
 iterate 2 refine AllS.f CC.out ?_
 refine AllS.c (.agg (cwA B)) 140 #[.int .i64 (i : Int), .pointer (some ⟨gf2, 0, none⟩), .pointer (some ⟨gl2, 0, none⟩)] (fun W hSw => ?_) ?_
 ·exact (C2.out W hSw).mono fun e w' h => ⟨h.1, xaq hSw h.2⟩
 refine AllS.c (.bool x) K #[.agg (cwA A), .agg (cwA c), .agg (cwA B)] (fun W hSw => ?_) ?_
 ·exact (CG.out W hSw).mono fun e w' h => ⟨h.1, xaq hSw h.2⟩
 refine AllS.f CC.out ?_
 refine AllS.done (by kernel_rfl) (hR.out _ ?_) _
 clear hR R
 intro w2 b2
 go_wp2_with fail
 go_ret
 exact ⟨rfl, b2⟩
theorem qhx (l : List Cw) (v : Value) (gn : Nat -> Bool) (p1 p2 p3 p4 : Value) (w : World) (hR : RwW w v l) (hlen : l.length <= 1048576)
 (hG : ∀ i W, i < l.length -> Below w.heap.size w W -> Calls Tryz.prog 82 #[.int .i64 (i : Int), p1, p2, p3, p4] W fun e w' => e = .returned (.bool (gn i)) /\ Below W.heap.size W w') :
 Calls Tryz.prog 81 #[v, .func (.func 82) #[] #[p1, p2, p3, p4]] w fun e w' => ∃ u, e = .returned u /\ OwW w.heap.size w' u (pf gn l l.length) /\ Below w.heap.size w w' := by
 have HR := xaa hR
 have HG := xaa hG
 obtain ⟨ad, cap, rfl⟩ := hR.form
 obtain ⟨m, hm⟩ : ∃ m, l.length = m := ⟨_, rfl⟩
 have HM := xaa hm
 have hmk := qrf m (by omega)
 rw [hm] at hlen HR HG |-
 clear hR hG hm
 go_enter Tryz.func81, Tryz.ntmps81
 go_wp2_with fail
 have O0 := quu m hlen w
 have b0 := xar w (.cells (room m) 116)
 obtain ⟨w0, hw0⟩ : ∃ w0, w.alloc (.cells (room m) 116) = w0 := ⟨_, rfl⟩
 rw [hw0] at O0 b0 |-
 clear hw0 hmk
 go_loopg [5, 13] m (fun kx s5 s13 wr => ∃ (k : Nat) (us : Value), us = s5 /\ s13 = .int .i64 k /\ k <= m /\ kx = m - k /\ OwW w.heap.size wr us (pf gn l k) /\ Below w.heap.size w wr)
 case atStart => exact ⟨0, _, rfl, rfl, by omega, by omega, O0, b0⟩
 case round =>
  clear O0 b0
  obtain ⟨k, us, rfl, rfl, hk, rfl, O, b⟩ := hrel
  by_cases hkm : k < m
  ·obtain ⟨c, hc⟩ := qef (l := l) (i := k) (by rw [HM.out]; exact hkm)
   obtain ⟨a2, cap2, o, hv, hab, ha, hLi⟩ := HR.out.get b hc
   rw [HM.out] at hv
   injection hv with hv1 hv2 hv3
   subst hv1 hv3
   have hpl := qmb gn l k
   have hps := qqz (gn := gn) hc
   have HO := xaa O
   have HB := xaa b
   have hbs := b.size
   obtain ⟨q, hq⟩ : ∃ q, gn k = q := ⟨_, rfl⟩
   have C : Hid (∀ W, Below w.heap.size w W -> Calls Tryz.prog 82 #[.int .i64 (k : Int), p1, p2, p3, p4] W fun e w' => e = .returned (.bool q) /\ Below W.heap.size W w') := xaa fun W h => by have := HG.out k W hkm h; rw [hq] at this; exact this
   rw [hq] at hps
   have HPS := xaa hps
   have hkz : (k : Int) < m := by omega
   clear hv2 O b hps hq hc
   go_wp2_with (first
    | (refine ldW rfl (.tmp 16) rfl _ rfl c (ha ▸ hLi) ?_)
    | (refine alWV rfl rfl ?_; intro w1 b1 B1)
    | (refine stW rfl (.tmp 7) (.tmp 17) rfl rfl _ rfl c rfl zCw B1 ?_; intro w2 m2 B2; refine Mk.out ?_))
   constructor
   have b2 : Below wr.heap.size wr w2 := b1.trans (m2.below b1.size fun k hk => by omega)
   have HB2 := xaa B2
   have hb2 := HB.out.trans (b2.mono hbs)
   have O2 := HO.out.below b2
   have H2 := xaa hb2
   have HO2 := xaa O2
   clear b1 B1 m2 B2 b2 hb2 O2
   go_wp2_with fail
   refine (C.out w2 H2.out).mono ?_
   rintro e w3 ⟨rfl, b3⟩
   have H3 := xaa (H2.out.trans (b3.mono H2.out.size))
   have O3 := HO2.out.below b3
   have L3 := (HB2.out.kb b3).lies
   have hs3 := H3.out.size
   cases q
   ·go_wp2_with (first
     | (refine ldW rfl (.tmp 7) rfl _ rfl c L3 ?_)
     | (refine apW (o1 := ⟨some 24, _, _, _, _, _⟩) rfl (.tmp 23) rfl 24 rfl rfl (.tmp 22) rfl c rfl _ (fun _ => rfl) (fun _ => rfl) w.heap.size (pf gn l k).length _ O3 (by omega) hs3 ?_; intro u4 v5 w5 O5 b5; refine Mk.out ?_))
    constructor
    have O6 : OwW w.heap.size w5 v5 (pf gn l (k + 1)) := by
     unfold OwW
     rw [HPS.out]
     simp only [Bool.false_eq_true, if_false, List.length_append, List.length_singleton]
     rw [qoj]
     exact O5
    have b6 := H3.out.trans b5
    clear O5 b5 O3 L3
    go_wp2_with fail
    go_roundg (m - (k + 1))
    case measure => omega
    case rel => exact ⟨k + 1, _, rfl, by go_num, by omega, by omega, O6, b6⟩
   ·have O6 : OwW w.heap.size w3 us (pf gn l (k + 1)) := by
     unfold OwW
     rw [HPS.out]
     simp only [if_true, List.append_nil]
     exact O3
    clear O3 L3
    go_wp2_with fail
    go_roundg (m - (k + 1))
    case measure => omega
    case rel => exact ⟨k + 1, _, rfl, by go_num, by omega, by omega, O6, H3.out⟩
  ·obtain rfl : k = m := by omega
   go_wp2_with fail
   go_ret
   exact ⟨_, rfl, O, b⟩
end Wl
end Go.Proofs.YtmceblkjbpbcoaaGreatDoor
