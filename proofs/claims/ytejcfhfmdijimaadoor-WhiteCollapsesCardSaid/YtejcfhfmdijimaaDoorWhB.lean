/- Contract of white's neighbours: two closures that find the neighbours ahead and behind. Conditions: the characters lie where the slice says, at most 1048576 of them. -/
import Derived.Test.YtejcfhfmdijimaaDoorWhO
import Derived.Test.YtejcfhfmdijimaaDoorRegP
namespace Go.Proofs.YtejcfhfmdijimaaDoor
open Go.ChangeShapes Go.WideShapes Go.ChangeAt Go.RowKit Go.Shelf
open Wh

/-- u is the closure of a neighbour, in the world W -/
def NearU (l : List Cw) (f : Nat → Cw) (u : Value) (W : World) : Prop := ∃ gf gl, u = .func (.func 70) #[] #[.pointer (some ⟨gf, 0, none⟩), .pointer (some ⟨gl, 0, none⟩)] ∧ NearAt W gf gl l f
theorem NearU.below {l : List Cw} {f : Nat → Cw} {u : Value} {w w' : World} (h : NearU l f u w) (b : Below w.heap.size w w') : NearU l f u w' := by
  obtain ⟨gf, gl, h1, h2⟩ := h
  exact ⟨gf, gl, h1, h2.below b⟩
/-- u is a function that is ranged over, over the slice v -/
def IterU (k : Nat) (v : Value) (u : Value) (W : World) : Prop := ∃ g, u = .func (.func k) #[] #[.pointer (some ⟨g, 0, none⟩)] ∧ g < W.heap.size ∧ W.cell? ⟨g, 0, none⟩ = some v
theorem IterU.below {k : Nat} {v u : Value} {w w' : World} (h : IterU k v u w) (b : Below w.heap.size w w') : IterU k v u w' := by
  obtain ⟨g, h1, h2, h3⟩ := h
  exact ⟨g, h1, Nat.lt_of_lt_of_le h2 b.size, (b.cell (p := ⟨g, 0, none⟩) h2).trans h3⟩
/-- what each operation of the region hands back -/
def phiN (l : List Cw) (fA fB : Nat → Cw) (s v : Value) (i : Nat) (u : Value) (W : World) : Prop :=
  if i = 0 ∨ i = 5 then u = s else if i = 1 ∨ i = 2 ∨ i = 6 ∨ i = 7 then u = v else if i = 3 then IterU 71 v u W else if i = 8 then IterU 72 v u W else if i = 4 ∨ i = 10 then NearU l fA u W else NearU l fB u W
theorem phiN.below {l : List Cw} {fA fB : Nat → Cw} {s v : Value} (i : Nat) (u : Value) (w w' : World) (h : phiN l fA fB s v i u w) (b : Below w.heap.size w w') : phiN l fA fB s v i u w' := by
  unfold phiN at h ⊢
  split
  · rename_i e; rw [if_pos e] at h; exact h
  · rename_i e
    rw [if_neg e] at h
    split
    · rename_i e; rw [if_pos e] at h; exact h
    · rename_i e
      rw [if_neg e] at h
      split
      · rename_i e; rw [if_pos e] at h; exact h.below b
      · rename_i e
        rw [if_neg e] at h
        split
        · rename_i e; rw [if_pos e] at h; exact h.below b
        · rename_i e
          rw [if_neg e] at h
          split
          · rename_i e; rw [if_pos e] at h; exact h.below b
          · rename_i e; rw [if_neg e] at h; exact h.below b


set_option maxRecDepth 100000 in
set_option maxHeartbeats 8000000 in
theorem wnbN_any (vg vt : Value) (l : List Cw) (v : Value) (w : World) (hR : RwW w v l) (hlen : l.length ≤ 1048576) :
    Calls Tryd.prog 51 #[.agg #[Value.nilFunc, vg, vt], v] w fun e w' => ∃ u1 u2, e = .returned (.tuple #[u1, u2]) ∧ NearU l (stA none1 l) u1 w' ∧ NearU l (fun i => nxt none1 (l.drop (i + 1))) u2 w' ∧ Below w.heap.size w w' := by
  have N1 : Hid (∀ (W : World) (u : Value), Below w.heap.size w W → IterU 71 v u W → Calls Tryd.prog 64 #[.agg #[Value.nilFunc, vg, vt], v, u] W fun e W' => ∃ u', e = .returned u' ∧ Below W.heap.size W W' ∧ NearU l (stA none1 l) u' W') := Lib.hid fun W u b h => by
    obtain ⟨g, rfl, hg, hc⟩ := h
    refine (wnearN_any vg vt l v 71 #[.pointer (some ⟨g, 0, none⟩)] (List.range l.length) (stA none1 l) W (hR.below b) hlen (enters_of Tryd.func71 (by kernel_rfl) rfl) (fun n X hX => wall_stops n g l v W X (hR.below b) hlen hX hg hc) (walkZ_all none1 l)).mono ?_
    rintro e W' ⟨gf, gl, rfl, h1, h2⟩
    exact ⟨_, rfl, h2, gf, gl, rfl, h1⟩
  have N2 : Hid (∀ (W : World) (u : Value), Below w.heap.size w W → IterU 72 v u W → Calls Tryd.prog 64 #[.agg #[Value.nilFunc, vg, vt], v, u] W fun e W' => ∃ u', e = .returned u' ∧ Below W.heap.size W W' ∧ NearU l (fun i => nxt none1 (l.drop (i + 1))) u' W') := Lib.hid fun W u b h => by
    obtain ⟨g, rfl, hg, hc⟩ := h
    refine (wnearN_any vg vt l v 72 #[.pointer (some ⟨g, 0, none⟩)] (rngW l.length) (fun i => nxt none1 (l.drop (i + 1))) W (hR.below b) hlen (enters_of Tryd.func72 (by kernel_rfl) rfl) (fun n X hX => wback_stops n g l v W X (hR.below b) hlen hX hg hc) (walkZ_rev none1 l)).mono ?_
    rintro e W' ⟨gf, gl, rfl, h1, h2⟩
    exact ⟨_, rfl, h2, gf, gl, rfl, h1⟩
  obtain ⟨fA, hfA⟩ : ∃ f, stA none1 l = f := ⟨_, rfl⟩
  obtain ⟨fB, hfB⟩ : ∃ f, (fun i => nxt none1 (l.drop (i + 1))) = f := ⟨_, rfl⟩
  rw [hfA] at N1 ⊢
  rw [hfB] at N2 ⊢
  obtain ⟨A, cap, rfl⟩ := hR.form
  obtain ⟨m, hm⟩ : ∃ m, l.length = m := ⟨_, rfl⟩
  rw [hm] at N1 N2 hlen ⊢
  clear hfA hfB hm hR
  go_enter Tryd.func51, Tryd.ntmps51
  go_wp2_with fail
  have b1 := below_alloc w (.cells #[Value.nilFunc, vg, vt] 52)
  have B1 := Blk.new w 52 #[Value.nilFunc, vg, vt]
  obtain ⟨w1, hw1⟩ : ∃ w1, w.alloc (.cells #[Value.nilFunc, vg, vt] 52) = w1 := ⟨_, rfl⟩
  rw [hw1] at b1 B1 ⊢
  clear hw1
  have CC : Hid (∀ W, Below w1.heap.size w1 W → W.cell? ⟨w.heap.size, 0, none⟩ = some (Value.nilFunc) ∧ W.cell? ⟨w.heap.size, 1, none⟩ = some vg ∧ W.cell? ⟨w.heap.size, 2, none⟩ = some vt) := Lib.hid fun W h => by
    have B := B1.keep (S := fun _ => False) (Mod.of_below h) id
    exact ⟨B.cell 0, B.cell 1, B.cell 2⟩
  refine region_P (by kernel_rfl) (fun W => Below w1.heap.size w1 W) (fun _ _ h b => below_seq h b) (phiN l fA fB (.agg #[Value.nilFunc, vg, vt]) (.slice A m cap)) phiN.below (below_drewN (Below.refl _ _) 1) (by kernel_rfl) (by kernel_rfl) (by kernel_rfl) (by kernel_rfl) ?step ?done
  case step =>
    intro us W hSW i o ho hD
    obtain ⟨q0, q1, q2⟩ := CC.out W hSW
    simp only [putAll, Act.put, List.setIfInBounds_toArray, List.set_cons_zero, List.set_cons_succ]
    match i, ho with
    | 0, ho =>
      simp only [List.getElem?_toArray, List.getElem?_cons_zero, Option.some.injEq] at ho
      subst ho
      exact .inl ⟨wanted_none rfl _, .inl ⟨.agg #[Value.nilFunc, vg, vt], W, (by go_simp), Below.refl _ _, rfl⟩⟩
    | 1, ho =>
      simp only [List.getElem?_toArray, List.getElem?_cons_zero, List.getElem?_cons_succ, Option.some.injEq] at ho
      subst ho
      exact .inl ⟨wanted_none rfl _, .inl ⟨.slice A m cap, W, (by go_simp), Below.refl _ _, rfl⟩⟩
    | 2, ho =>
      simp only [List.getElem?_toArray, List.getElem?_cons_zero, List.getElem?_cons_succ, Option.some.injEq] at ho
      subst ho
      exact .inl ⟨wanted_none rfl _, .inl ⟨.slice A m cap, W, (by go_simp), Below.refl _ _, rfl⟩⟩
    | 3, ho =>
      simp only [List.getElem?_toArray, List.getElem?_cons_zero, List.getElem?_cons_succ, Option.some.injEq] at ho
      subst ho
      have h2 : us 2 = .slice A m cap := hD 2 (by kernel_rfl)
      rw [h2]
      refine .inl ⟨wanted_none rfl _, .inr ⟨_, _, (by go_simp), (wall_mk A m cap W).mono ?_⟩⟩
      rintro e W' ⟨rfl, hb, b⟩
      exact ⟨_, rfl, b, _, rfl, hb.lt, hb.cell⟩
    | 4, ho =>
      simp only [List.getElem?_toArray, List.getElem?_cons_zero, List.getElem?_cons_succ, Option.some.injEq] at ho
      subst ho
      have h0 : us 0 = .agg #[Value.nilFunc, vg, vt] := hD 0 (by kernel_rfl)
      have h1 : us 1 = .slice A m cap := hD 1 (by kernel_rfl)
      have h3 := hD 3 (by kernel_rfl)
      rw [h0, h1]
      refine .inl ⟨wanted_none rfl _, .inr ⟨_, _, (by go_simp), N1.out W (us 3) (below_seq b1 hSW) h3⟩⟩
    | 5, ho =>
      simp only [List.getElem?_toArray, List.getElem?_cons_zero, List.getElem?_cons_succ, Option.some.injEq] at ho
      subst ho
      exact .inl ⟨wanted_none rfl _, .inl ⟨.agg #[Value.nilFunc, vg, vt], W, (by go_simp), Below.refl _ _, rfl⟩⟩
    | 6, ho =>
      simp only [List.getElem?_toArray, List.getElem?_cons_zero, List.getElem?_cons_succ, Option.some.injEq] at ho
      subst ho
      exact .inl ⟨wanted_none rfl _, .inl ⟨.slice A m cap, W, (by go_simp), Below.refl _ _, rfl⟩⟩
    | 7, ho =>
      simp only [List.getElem?_toArray, List.getElem?_cons_zero, List.getElem?_cons_succ, Option.some.injEq] at ho
      subst ho
      exact .inl ⟨wanted_none rfl _, .inl ⟨.slice A m cap, W, (by go_simp), Below.refl _ _, rfl⟩⟩
    | 8, ho =>
      simp only [List.getElem?_toArray, List.getElem?_cons_zero, List.getElem?_cons_succ, Option.some.injEq] at ho
      subst ho
      have h2 : us 7 = .slice A m cap := hD 7 (by kernel_rfl)
      rw [h2]
      refine .inl ⟨wanted_none rfl _, .inr ⟨_, _, (by go_simp), (wback_mk A m cap W).mono ?_⟩⟩
      rintro e W' ⟨rfl, hb, b⟩
      exact ⟨_, rfl, b, _, rfl, hb.lt, hb.cell⟩
    | 9, ho =>
      simp only [List.getElem?_toArray, List.getElem?_cons_zero, List.getElem?_cons_succ, Option.some.injEq] at ho
      subst ho
      have h0 : us 5 = .agg #[Value.nilFunc, vg, vt] := hD 5 (by kernel_rfl)
      have h1 : us 6 = .slice A m cap := hD 6 (by kernel_rfl)
      have h3 := hD 8 (by kernel_rfl)
      rw [h0, h1]
      refine .inl ⟨wanted_none rfl _, .inr ⟨_, _, (by go_simp), N2.out W (us 8) (below_seq b1 hSW) h3⟩⟩
    | 10, ho =>
      simp only [List.getElem?_toArray, List.getElem?_cons_zero, List.getElem?_cons_succ, Option.some.injEq] at ho
      subst ho
      exact .inl ⟨wanted_none rfl _, .inl ⟨us 4, W, (by go_simp), Below.refl _ _, hD 4 (by kernel_rfl)⟩⟩
    | 11, ho =>
      simp only [List.getElem?_toArray, List.getElem?_cons_zero, List.getElem?_cons_succ, Option.some.injEq] at ho
      subst ho
      exact .inl ⟨wanted_none rfl _, .inl ⟨us 9, W, (by go_simp), Below.refl _ _, hD 9 (by kernel_rfl)⟩⟩
    | n + 12, ho => simp at ho
  case done =>
    intro us W hSW hD
    have h4 : NearU l fA (us 10) W := hD 10 (by decide)
    have h5 : NearU l fB (us 11) W := hD 11 (by decide)
    simp only [putAll, Act.put, List.setIfInBounds_toArray, List.set_cons_zero, List.set_cons_succ]
    generalize us 10 = u1 at *
    generalize us 11 = u2 at *
    go_wp2_with fail
    go_ret2
    exact ⟨_, _, rfl, h4, h5, below_seq b1 hSW⟩


set_option maxRecDepth 100000 in
set_option maxHeartbeats 8000000 in
theorem wnbW_any (vg vt : Value) (l : List Cw) (v : Value) (w : World) (hR : RwW w v l) (hlen : l.length ≤ 1048576) :
    Calls Tryd.prog 51 #[.agg #[.func (.func 37) #[] #[], vg, vt], v] w fun e w' => ∃ u1 u2, e = .returned (.tuple #[u1, u2]) ∧ NearU l (stA whtW l) u1 w' ∧ NearU l (fun i => nxt whtW (l.drop (i + 1))) u2 w' ∧ Below w.heap.size w w' := by
  have N1 : Hid (∀ (W : World) (u : Value), Below w.heap.size w W → IterU 71 v u W → Calls Tryd.prog 64 #[.agg #[.func (.func 37) #[] #[], vg, vt], v, u] W fun e W' => ∃ u', e = .returned u' ∧ Below W.heap.size W W' ∧ NearU l (stA whtW l) u' W') := Lib.hid fun W u b h => by
    obtain ⟨g, rfl, hg, hc⟩ := h
    refine (wnearW_any vg vt l v 71 #[.pointer (some ⟨g, 0, none⟩)] (List.range l.length) (stA whtW l) W (hR.below b) hlen (enters_of Tryd.func71 (by kernel_rfl) rfl) (fun n X hX => wall_stops n g l v W X (hR.below b) hlen hX hg hc) (walkZ_all whtW l)).mono ?_
    rintro e W' ⟨gf, gl, rfl, h1, h2⟩
    exact ⟨_, rfl, h2, gf, gl, rfl, h1⟩
  have N2 : Hid (∀ (W : World) (u : Value), Below w.heap.size w W → IterU 72 v u W → Calls Tryd.prog 64 #[.agg #[.func (.func 37) #[] #[], vg, vt], v, u] W fun e W' => ∃ u', e = .returned u' ∧ Below W.heap.size W W' ∧ NearU l (fun i => nxt whtW (l.drop (i + 1))) u' W') := Lib.hid fun W u b h => by
    obtain ⟨g, rfl, hg, hc⟩ := h
    refine (wnearW_any vg vt l v 72 #[.pointer (some ⟨g, 0, none⟩)] (rngW l.length) (fun i => nxt whtW (l.drop (i + 1))) W (hR.below b) hlen (enters_of Tryd.func72 (by kernel_rfl) rfl) (fun n X hX => wback_stops n g l v W X (hR.below b) hlen hX hg hc) (walkZ_rev whtW l)).mono ?_
    rintro e W' ⟨gf, gl, rfl, h1, h2⟩
    exact ⟨_, rfl, h2, gf, gl, rfl, h1⟩
  obtain ⟨fA, hfA⟩ : ∃ f, stA whtW l = f := ⟨_, rfl⟩
  obtain ⟨fB, hfB⟩ : ∃ f, (fun i => nxt whtW (l.drop (i + 1))) = f := ⟨_, rfl⟩
  rw [hfA] at N1 ⊢
  rw [hfB] at N2 ⊢
  obtain ⟨A, cap, rfl⟩ := hR.form
  obtain ⟨m, hm⟩ : ∃ m, l.length = m := ⟨_, rfl⟩
  rw [hm] at N1 N2 hlen ⊢
  clear hfA hfB hm hR
  go_enter Tryd.func51, Tryd.ntmps51
  go_wp2_with fail
  have b1 := below_alloc w (.cells #[.func (.func 37) #[] #[], vg, vt] 52)
  have B1 := Blk.new w 52 #[.func (.func 37) #[] #[], vg, vt]
  obtain ⟨w1, hw1⟩ : ∃ w1, w.alloc (.cells #[.func (.func 37) #[] #[], vg, vt] 52) = w1 := ⟨_, rfl⟩
  rw [hw1] at b1 B1 ⊢
  clear hw1
  have CC : Hid (∀ W, Below w1.heap.size w1 W → W.cell? ⟨w.heap.size, 0, none⟩ = some (.func (.func 37) #[] #[]) ∧ W.cell? ⟨w.heap.size, 1, none⟩ = some vg ∧ W.cell? ⟨w.heap.size, 2, none⟩ = some vt) := Lib.hid fun W h => by
    have B := B1.keep (S := fun _ => False) (Mod.of_below h) id
    exact ⟨B.cell 0, B.cell 1, B.cell 2⟩
  refine region_P (by kernel_rfl) (fun W => Below w1.heap.size w1 W) (fun _ _ h b => below_seq h b) (phiN l fA fB (.agg #[.func (.func 37) #[] #[], vg, vt]) (.slice A m cap)) phiN.below (below_drewN (Below.refl _ _) 1) (by kernel_rfl) (by kernel_rfl) (by kernel_rfl) (by kernel_rfl) ?step ?done
  case step =>
    intro us W hSW i o ho hD
    obtain ⟨q0, q1, q2⟩ := CC.out W hSW
    simp only [putAll, Act.put, List.setIfInBounds_toArray, List.set_cons_zero, List.set_cons_succ]
    match i, ho with
    | 0, ho =>
      simp only [List.getElem?_toArray, List.getElem?_cons_zero, Option.some.injEq] at ho
      subst ho
      exact .inl ⟨wanted_none rfl _, .inl ⟨.agg #[.func (.func 37) #[] #[], vg, vt], W, (by go_simp), Below.refl _ _, rfl⟩⟩
    | 1, ho =>
      simp only [List.getElem?_toArray, List.getElem?_cons_zero, List.getElem?_cons_succ, Option.some.injEq] at ho
      subst ho
      exact .inl ⟨wanted_none rfl _, .inl ⟨.slice A m cap, W, (by go_simp), Below.refl _ _, rfl⟩⟩
    | 2, ho =>
      simp only [List.getElem?_toArray, List.getElem?_cons_zero, List.getElem?_cons_succ, Option.some.injEq] at ho
      subst ho
      exact .inl ⟨wanted_none rfl _, .inl ⟨.slice A m cap, W, (by go_simp), Below.refl _ _, rfl⟩⟩
    | 3, ho =>
      simp only [List.getElem?_toArray, List.getElem?_cons_zero, List.getElem?_cons_succ, Option.some.injEq] at ho
      subst ho
      have h2 : us 2 = .slice A m cap := hD 2 (by kernel_rfl)
      rw [h2]
      refine .inl ⟨wanted_none rfl _, .inr ⟨_, _, (by go_simp), (wall_mk A m cap W).mono ?_⟩⟩
      rintro e W' ⟨rfl, hb, b⟩
      exact ⟨_, rfl, b, _, rfl, hb.lt, hb.cell⟩
    | 4, ho =>
      simp only [List.getElem?_toArray, List.getElem?_cons_zero, List.getElem?_cons_succ, Option.some.injEq] at ho
      subst ho
      have h0 : us 0 = .agg #[.func (.func 37) #[] #[], vg, vt] := hD 0 (by kernel_rfl)
      have h1 : us 1 = .slice A m cap := hD 1 (by kernel_rfl)
      have h3 := hD 3 (by kernel_rfl)
      rw [h0, h1]
      refine .inl ⟨wanted_none rfl _, .inr ⟨_, _, (by go_simp), N1.out W (us 3) (below_seq b1 hSW) h3⟩⟩
    | 5, ho =>
      simp only [List.getElem?_toArray, List.getElem?_cons_zero, List.getElem?_cons_succ, Option.some.injEq] at ho
      subst ho
      exact .inl ⟨wanted_none rfl _, .inl ⟨.agg #[.func (.func 37) #[] #[], vg, vt], W, (by go_simp), Below.refl _ _, rfl⟩⟩
    | 6, ho =>
      simp only [List.getElem?_toArray, List.getElem?_cons_zero, List.getElem?_cons_succ, Option.some.injEq] at ho
      subst ho
      exact .inl ⟨wanted_none rfl _, .inl ⟨.slice A m cap, W, (by go_simp), Below.refl _ _, rfl⟩⟩
    | 7, ho =>
      simp only [List.getElem?_toArray, List.getElem?_cons_zero, List.getElem?_cons_succ, Option.some.injEq] at ho
      subst ho
      exact .inl ⟨wanted_none rfl _, .inl ⟨.slice A m cap, W, (by go_simp), Below.refl _ _, rfl⟩⟩
    | 8, ho =>
      simp only [List.getElem?_toArray, List.getElem?_cons_zero, List.getElem?_cons_succ, Option.some.injEq] at ho
      subst ho
      have h2 : us 7 = .slice A m cap := hD 7 (by kernel_rfl)
      rw [h2]
      refine .inl ⟨wanted_none rfl _, .inr ⟨_, _, (by go_simp), (wback_mk A m cap W).mono ?_⟩⟩
      rintro e W' ⟨rfl, hb, b⟩
      exact ⟨_, rfl, b, _, rfl, hb.lt, hb.cell⟩
    | 9, ho =>
      simp only [List.getElem?_toArray, List.getElem?_cons_zero, List.getElem?_cons_succ, Option.some.injEq] at ho
      subst ho
      have h0 : us 5 = .agg #[.func (.func 37) #[] #[], vg, vt] := hD 5 (by kernel_rfl)
      have h1 : us 6 = .slice A m cap := hD 6 (by kernel_rfl)
      have h3 := hD 8 (by kernel_rfl)
      rw [h0, h1]
      refine .inl ⟨wanted_none rfl _, .inr ⟨_, _, (by go_simp), N2.out W (us 8) (below_seq b1 hSW) h3⟩⟩
    | 10, ho =>
      simp only [List.getElem?_toArray, List.getElem?_cons_zero, List.getElem?_cons_succ, Option.some.injEq] at ho
      subst ho
      exact .inl ⟨wanted_none rfl _, .inl ⟨us 4, W, (by go_simp), Below.refl _ _, hD 4 (by kernel_rfl)⟩⟩
    | 11, ho =>
      simp only [List.getElem?_toArray, List.getElem?_cons_zero, List.getElem?_cons_succ, Option.some.injEq] at ho
      subst ho
      exact .inl ⟨wanted_none rfl _, .inl ⟨us 9, W, (by go_simp), Below.refl _ _, hD 9 (by kernel_rfl)⟩⟩
    | n + 12, ho => simp at ho
  case done =>
    intro us W hSW hD
    have h4 : NearU l fA (us 10) W := hD 10 (by decide)
    have h5 : NearU l fB (us 11) W := hD 11 (by decide)
    simp only [putAll, Act.put, List.setIfInBounds_toArray, List.set_cons_zero, List.set_cons_succ]
    generalize us 10 = u1 at *
    generalize us 11 = u2 at *
    go_wp2_with fail
    go_ret2
    exact ⟨_, _, rfl, h4, h5, below_seq b1 hSW⟩
end Go.Proofs.YtejcfhfmdijimaaDoor
