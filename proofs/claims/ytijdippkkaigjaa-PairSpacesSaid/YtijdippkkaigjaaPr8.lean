/- Contracts of what pair's functions tell of a verdict; rows made in a call. No conditions. -/
import Derived.Test.YtijdippkkaigjaaPr7
import Derived.Test.YtijdippkkaigjaaRangeHere
import Derived.Laws.MakeOwn
namespace Go.Proofs.Ytijdippkkaigjaa
open Go.ChangeShapes Go.WideShapes Go.ChangeAt Go.RowKit Go.Shelf

set_option maxHeartbeats 2000000 in
theorem ptoldR_any (v : Int × Bool) (w : World) : Calls Try.prog 20 #[.agg (vdC v)] w fun e w' => e = .returned (.int .u8 v.1) ∧ Below w.heap.size w w' := by
  obtain ⟨r, b⟩ := v
  have hb := below_alloc w (.cells (vdC (r, b)) 41)
  go_enter Try.func20, Try.ntmps20
  unfold vdC at hb ⊢
  go_wp2_with fail
  go_ret
  exact ⟨rfl, hb⟩
set_option maxHeartbeats 2000000 in
theorem ptoldB_any (v : Int × Bool) (w : World) : Calls Try.prog 22 #[.agg (vdC v)] w fun e w' => e = .returned (.bool v.2) ∧ Below w.heap.size w w' := by
  obtain ⟨r, b⟩ := v
  have hb := below_alloc w (.cells (vdC (r, b)) 41)
  go_enter Try.func22, Try.ntmps22
  unfold vdC at hb ⊢
  go_wp2_with fail
  go_ret
  exact ⟨rfl, hb⟩
def mstI (v : Int × Bool) : Bool := v.2 && (v.1 == 4 || v.1 == 5)
set_option maxHeartbeats 2000000 in
theorem ptoldM_any (v : Int × Bool) (w : World) : Calls Try.prog 23 #[.agg (vdC v)] w fun e w' => e = .returned (.bool (mstI v)) ∧ Below w.heap.size w w' := by
  obtain ⟨r, b⟩ := v
  have hb := below_alloc w (.cells (vdC (r, b)) 41)
  go_enter Try.func23, Try.ntmps23
  unfold vdC at hb ⊢
  cases b
  · go_wp2_with fail
    go_ret
    exact ⟨rfl, hb⟩
  · by_cases h4 : r = 4
    · subst h4
      go_wp2_with fail
      go_ret
      exact ⟨rfl, hb⟩
    · go_wp2_with fail
      go_ret
      exact ⟨by simp [mstI], hb⟩

/-! ### rows -/
def rowV (n : Nat) (f : Nat → Value) : Array Value := ((List.range n).map f).toArray
def updV (f : Nat → Value) (i : Nat) (v : Value) : Nat → Value := fun j => if j = i then v else f j
theorem rowV_size (n : Nat) (f : Nat → Value) : (rowV n f).size = n := by simp [rowV]
theorem rowV_get {n : Nat} {f : Nat → Value} {i : Nat} (h : i < n) : (rowV n f)[i]? = some (f i) := by
  simp [rowV, h]
theorem rowV_set (n : Nat) (f : Nat → Value) (i : Nat) (v : Value) : (rowV n f).setIfInBounds i v = rowV n (updV f i v) := by
  apply Array.ext_getElem?
  intro j
  rw [Array.getElem?_setIfInBounds]
  by_cases hj : j < n
  · rw [rowV_get hj, rowV_size, rowV_get hj]
    unfold updV
    by_cases e : i = j
    · subst e
      rw [if_pos rfl, if_pos hj, if_pos rfl]
    · rw [if_neg e, if_neg (fun h => e h.symm)]
  · have e1 : (rowV n f)[j]? = none := by rw [Array.getElem?_eq_none_iff, rowV_size]; omega
    have e2 : (rowV n (updV f i v))[j]? = none := by rw [Array.getElem?_eq_none_iff, rowV_size]; omega
    rw [e1, e2, rowV_size]
    split
    · rw [if_neg (by omega)]
    · rfl
theorem rowV_zero {z : Value} (hz : z.cells = #[z]) (n : Nat) : madeCells z.cells n = rowV n (fun _ => z) := by
  apply Array.ext_getElem?
  intro j
  by_cases hj : j < n
  · rw [rowV_get hj, hz]
    simp [madeCells, hj, Nat.mod_one]
  · rw [Array.getElem?_eq_none_iff.2 (by rw [size_madeCells]; omega), Array.getElem?_eq_none_iff.2 (by rw [rowV_size]; omega)]
theorem make_one {P : Program} (t e : TypeId) (z : Value) (b : Nat) (ht : P.underlying t = some (.slice e)) (hi : (P.info? e).map (fun i => (i.zero, i.size, i.bytes)) = some (some z, 1, b)) (hb : b ≤ 1000) (hz : z.cells = #[z]) (n : Nat) (hn : n ≤ 1048576) (W : World) :
    (Instr.makeSlice t (.int .i64 (n : Int)) (.int .i64 (n : Int))).run P W = .ok (.slice (some ⟨W.heap.size, 0, none⟩) n n) (W.alloc (.cells (rowV n (fun _ => z)) e)) := by
  cases hq : P.info? e with
  | none => rw [hq] at hi; cases hi
  | some i =>
    rw [hq] at hi
    injection hi with hi
    injection hi with h1 h2
    injection h2 with h2 h3
    have hbn : i.bytes * n ≤ 1000 * 1048576 := Nat.mul_le_mul (by omega) hn
    have h := run_make (P := P) W t e i z ht hq h1 .i64 .i64 (n : Int) (n : Int) (by omega) (by omega) (by omega) (by omega)
    rw [h2] at h
    simp only [Nat.mul_one, Int.toNat_natCast, rowV_zero hz] at h
    exact h
section
variable {F : Fence} {n : Nat} {ops : Array Oper} {Q : Exit → Act → World → Prop} {a : Act} {w : World} {rest : List Oper} {o1 o2 : Oper}
theorem nwTbIn (hF : ∀ f, F.fn f) (hg1 : o1.guard = none) (hg2 : o2.guard = none) (D : Tmp) (hd1 : o1.dst = some D) (ho1 : o1.op = .alloc 51) (y : Operand) (ho2 : o2.op = .store 51 (.tmp D) y) (hd2 : o2.dst = none)
    (hx : ∀ v, (a.put (some D) v).eval (.tmp D) = v) (hy : ∀ v, (a.put (some D) v).eval y = .agg tblV)
    (h : ∀ w', Below w.heap.size w w' → KeepsOthers w w' → Blk w' w.heap.size 51 tblV → wpListIn F n Try.prog ops Q rest (a.put (some D) (.pointer (some ⟨w.heap.size, 0, none⟩))) w') : wpListIn F n Try.prog ops Q (o1 :: o2 :: rest) a w :=
  wpListIn_newS hF hg1 hg2 51 D hd1 ho1 y ho2 hd2 _ alTb tblV hx hy iTb rfl (by kernel_rfl) h
end

/-! ### what the loop of tell knows -/
/-- the row behind the rounds of pre -/
def got (z : Value) (g : Nat → Value) (pre : List Nat) (j : Nat) : Value := if j ∈ pre then g j else z
theorem got_snoc (z : Value) (g : Nat → Value) (pre : List Nat) (i : Nat) : updV (got z g pre) i (g i) = got z g (pre ++ [i]) := by
  funext j
  unfold updV got
  by_cases e : j = i
  · subst e
    simp
  · rw [if_neg e]
    simp [e]
/-- the verdict on the place in front of character j -/
def vdAt (l : List Int) (j : Nat) : Int × Bool := frst (pst l (j + 1)) rl
structure Pt (w0 : World) (L : Nat) (tF tS tE tL : TypeId) (vf vl vs : Value) (G Ba T Bs : Nat) (n : Nat) (z : Value) (g : Nat → Value) (rdy : Obj) (pre : List Nat) (X : World) : Prop where
  fn : Boxed X w0.heap.size tF vf
  row : Blk X G tE (rowV n (got z g pre))
  all : Boxed X Ba tS vs
  tb : Blk X T 51 tblV
  ls : Boxed X Bs tL vl
  loop : X.heap[L]? = some rdy
  defd : X.heap[L - 1]? = some (.deferred (some []))
  below : Below w0.heap.size w0 X
  size : L < X.heap.size
theorem Pt.mod {w0 : World} {L : Nat} {tF tS tE tL : TypeId} {vf vl vs : Value} {G Ba T Bs n : Nat} {z : Value} {g : Nat → Value} {rdy : Obj} {pre : List Nat} {X Y : World} {B : Nat} (h : Pt w0 L tF tS tE tL vf vl vs G Ba T Bs n z g rdy pre X)
    (hB : L < B) (h1 : w0.heap.size < B) (h2 : G < B) (h3 : Ba < B) (h4 : T < B) (h5 : Bs < B) (m : Mod (fun k => B ≤ k) X Y) : Pt w0 L tF tS tE tL vf vl vs G Ba T Bs n z g rdy pre Y :=
  ⟨(m.block _ h.fn.lt (by omega)).trans h.fn, h.row.keep m (by omega), (m.block _ h.all.lt (by omega)).trans h.all, h.tb.keep m (by omega), (m.block _ h.ls.lt (by omega)).trans h.ls,
   (m.block _ h.size (by omega)).trans h.loop, (m.block _ (by have := h.size; omega) (by omega)).trans h.defd, h.below.trans (m.below h.below.size (fun k hk => by omega)), Nat.lt_of_lt_of_le h.size m.size⟩
theorem Pt.put {w0 : World} {L : Nat} {tF tS tE tL : TypeId} {vf vl vs : Value} {G Ba T Bs n : Nat} {z : Value} {g : Nat → Value} {rdy : Obj} {pre : List Nat} {X : World} (o : Obj) (h : Pt w0 L tF tS tE tL vf vl vs G Ba T Bs n z g rdy pre X)
    (h0 : w0.heap.size < L - 1) (h2 : G < L - 1) (h3 : Ba < L - 1) (h4 : T < L - 1) (h5 : Bs < L - 1) : Pt w0 L tF tS tE tL vf vl vs G Ba T Bs n z g o pre (X.putObj L o) := by
  have k : ∀ j, j ≠ L → (X.putObj L o).heap[j]? = X.heap[j]? := fun j hj => World.putObj_heap_other hj
  exact ⟨(k _ (by omega)).trans h.fn, (k _ (by omega)).trans h.row, (k _ (by omega)).trans h.all, (k _ (by omega)).trans h.tb, (k _ (by omega)).trans h.ls, World.putObj_heap_same h.size, (k _ (by omega)).trans h.defd,
    h.below.grown (grownBy_putObj' X L o) h.below.size (fun j e => by injection e with e; omega), by simp [World.putObj]; exact h.size⟩
theorem Pt.set_ {w0 : World} {L : Nat} {tF tS tE tL : TypeId} {vf vl vs : Value} {G Ba T Bs n : Nat} {z : Value} {g : Nat → Value} {rdy : Obj} {pre : List Nat} {X : World} (i : Nat) (h : Pt w0 L tF tS tE tL vf vl vs G Ba T Bs n z g rdy pre X)
    (h0 : w0.heap.size < G) (h1 : G ≠ Ba) (h2 : G ≠ T) (h3 : G ≠ Bs) (h4 : G ≠ L) (h5 : G ≠ L - 1) (_ : 0 < n) : Pt w0 L tF tS tE tL vf vl vs G Ba T Bs n z g rdy (pre ++ [i]) (X.setCell ⟨G, i, none⟩ (g i)) := by
  have m : Mod (fun k => k = G) X (X.setCell ⟨G, i, none⟩ (g i)) := Mod.setCell (S := fun k => k = G) (Mod.refl _ _) (.inl rfl) _
  have hr := h.row.set_ i (g i)
  rw [rowV_set, got_snoc] at hr
  exact ⟨(m.block _ h.fn.lt (by omega)).trans h.fn, hr, (m.block _ h.all.lt (by omega)).trans h.all, h.tb.keep m (by omega), (m.block _ h.ls.lt (by omega)).trans h.ls,
   (m.block _ h.size (by omega)).trans h.loop, (m.block _ (by have := h.size; omega) (by omega)).trans h.defd, h.below.trans (m.below h.below.size (fun k hk => by omega)), Nat.lt_of_lt_of_le h.size m.size⟩
end Go.Proofs.Ytijdippkkaigjaa
