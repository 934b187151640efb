/- Lists of declarations and of styles in memory; contracts of style.validParents, validDecls and of slices' ContainsFunc, IndexFunc at it. Conditions: the lists lie where the slices say, at most 1000 elements; bits are 16-bit numbers. -/
import Derived.Test.YtnoenccpbbkdeaaGD
import Derived.Test.YtnoenccpbbkdeaaGE
import Derived.Test.YtnoenccpbbkdeaaGC
import Derived.Maps.AppendAt
import Derived.OwnWalkIn
import Derived.ChangeOld
namespace Go.Proofs.Ytnoenccpbbkdeaa
open Go.ChangeShapes Go.WideShapes Go.ChangeAt Go.RowKit

/-- v is a slice of declarations that reads as ds -/
def Ds (w : World) (v : Value) (ds : List Dcl) : Prop := RowN 10 (fun _ => False) w v (ds.map fun d => d.cells.toList)
/-- v is a slice of styles that reads as l -/
def Ss (w : World) (v : Value) (l : List Sty) : Prop := RowN 9 (fun _ => False) w v (l.map fun s => s.cells.toList)
theorem Ds.below {w w' : World} {v : Value} {ds : List Dcl} (h : Ds w v ds) (b : Below w.heap.size w w') : Ds w' v ds := RowN.below h b
theorem Ss.below {w w' : World} {v : Value} {l : List Sty} (h : Ss w v l) (b : Below w.heap.size w w') : Ss w' v l := RowN.below h b
theorem Ds.form {w : World} {v : Value} {ds : List Dcl} (h : Ds w v ds) : ∃ A c, v = .slice A ds.length c := by
  have := RowN.form h
  rwa [List.length_map] at this
theorem Ss.form {w : World} {v : Value} {l : List Sty} (h : Ss w v l) : ∃ A c, v = .slice A l.length c := by
  have := RowN.form h
  rwa [List.length_map] at this
theorem lies_of {w : World} {p : Addr} {cs : Array Value} {g o : Nat} (hp : p = ⟨g, o, none⟩) (h : ∀ j u, cs.toList[j]? = some u → w.cell? ⟨g, o + j, none⟩ = some u) : Lies w p cs := by
  subst hp
  intro j v hv
  have : (⟨g, o, none⟩ : Addr).add j = ⟨g, o + j, none⟩ := by unfold Addr.add; split <;> simp_all
  rw [this]
  exact h j v (by simpa using hv)
theorem Ds.get {w wx : World} {v : Value} {ds : List Dcl} (h : Ds w v ds) (b : Below w.heap.size w wx) {i : Nat} {d : Dcl} (hi : ds[i]? = some d) :
    ∃ a cap o, v = .slice (some a) ds.length cap ∧ a.block < w.heap.size ∧ a.add (i * 10) = ⟨a.block, o, none⟩ ∧ Lies wx ⟨a.block, o, none⟩ d.cells := by
  obtain ⟨a, cap, o, hv, hb, _, ha, hc⟩ := RowN.get h b (x := d.cells.toList) (by rw [List.getElem?_map, hi]; rfl) (by simp [Dcl.cells])
  rw [List.length_map] at hv
  exact ⟨a, cap, o, hv, hb, ha, lies_of rfl hc⟩
theorem Ss.get {w wx : World} {v : Value} {l : List Sty} (h : Ss w v l) (b : Below w.heap.size w wx) {i : Nat} {s : Sty} (hi : l[i]? = some s) :
    ∃ a cap o, v = .slice (some a) l.length cap ∧ a.block < w.heap.size ∧ a.add (i * 9) = ⟨a.block, o, none⟩ ∧ Lies wx ⟨a.block, o, none⟩ s.cells := by
  obtain ⟨a, cap, o, hv, hb, _, ha, hc⟩ := RowN.get h b (x := s.cells.toList) (by rw [List.getElem?_map, hi]; rfl) (by simp [Sty.cells])
  rw [List.length_map] at hv
  exact ⟨a, cap, o, hv, hb, ha, lies_of rfl hc⟩
/-- a declaration's style, and its bits, at a plain address -/
theorem Lies.sub {w : World} {g o : Nat} {d : Dcl} (h : Lies w ⟨g, o, none⟩ d.cells) : Lies w ⟨g, o + 1, none⟩ d.s.cells := fun j v hv => by
  have hj : j < 9 := (Array.getElem?_eq_some_iff.1 hv).1
  have h2 := h (1 + j) v (by
    match j, hj with
    | 0, _ => exact hv
    | 1, _ => exact hv
    | 2, _ => exact hv
    | 3, _ => exact hv
    | 4, _ => exact hv
    | 5, _ => exact hv
    | 6, _ => exact hv
    | 7, _ => exact hv
    | 8, _ => exact hv)
  have e1 : (⟨g, o + 1, none⟩ : Addr).add j = ⟨g, o + 1 + j, none⟩ := by unfold Addr.add; split <;> simp_all
  have e2 : (⟨g, o, none⟩ : Addr).add (1 + j) = ⟨g, o + (1 + j), none⟩ := by unfold Addr.add; split <;> simp_all
  rw [e2] at h2
  rw [e1, Nat.add_assoc]
  exact h2
theorem Lies.bits {w : World} {g o : Nat} {d : Dcl} (h : Lies w ⟨g, o, none⟩ d.cells) : w.cell? ⟨g, o, none⟩ = some (.int .u16 d.n) := h 0 _ rfl

/-- all bits are 16-bit numbers -/
def Wf16 (ds : List Dcl) : Prop := ∀ i, i < ds.length → (ds.getD i .zero).n < 65536
theorem getD_of {α : Type} {l : List α} {i : Nat} (z : α) (h : i < l.length) : l[i]? = some (l.getD i z) := by
  rw [List.getD_eq_getElem?_getD, List.getElem?_eq_getElem h]
  rfl

/-- what IndexFunc says: the first that may not be, or -1 -/
def IdxOf (ds : List Dcl) (z : Int) : Prop := (z = -1 ∧ okD ds) ∨ (0 ≤ z ∧ ¬ okD ds)
theorem IdxOf.none_ {ds : List Dcl} (h : okD ds) : IdxOf ds (-1) := .inl ⟨rfl, h⟩
theorem IdxOf.some_ {ds : List Dcl} {k : Nat} (hk : k < ds.length) (h : vldD (ds.getD k .zero) = false) : IdxOf ds k := .inr ⟨by omega, fun h2 => by rw [h2 k hk] at h; cases h⟩
/-- an answer in the world behind it -/
def Idx (w : World) (ds : List Dcl) (e : Ending) (w' : World) : Prop := ∃ z : Int, e = .returned (.int .i64 z) ∧ IdxOf ds z ∧ Below w.heap.size w w'

end Go.Proofs.Ytnoenccpbbkdeaa

/- Contract of style.Styles. Conditions: the lists lie where the slices say, at most 1000 elements each; bits are 16-bit numbers. -/
namespace Go.Proofs.Ytnoenccpbbkdeaa
open Go.ChangeShapes Go.WideShapes Go.ChangeAt Go.RowKit

/-- make of a row of aggregates, the size a variable -/
theorem run_make_aggs {P : Program} (t e : TypeId) (i : TypeInfo) (z : Value) (ht : P.underlying t = some (.slice e)) (hi : P.info? e = some i) (hz : i.zero = some z)
    (kl kc : IntKind) (n c : Nat) (hnc : n ≤ c) (hbytes : i.bytes * c ≤ 281474976710656) (h63 : c ≤ 9223372036854775807) (w : World) :
    (Instr.makeSlice t (.int kl (n : Int)) (.int kc (c : Int))).run P w = .ok (.slice (some ⟨w.heap.size, 0, none⟩) n c) (w.alloc (.cells (madeCells z.cells (c * i.size)) e)) := by
  have hb : (i.bytes : Int) * (c : Int) ≤ 281474976710656 := by
    have h : ((i.bytes * c : Nat) : Int) ≤ 281474976710656 := by omega
    rwa [Int.natCast_mul] at h
  have hr := run_make (P := P) w t e i z ht hi hz kl kc n c (by omega) (by omega) hb (by omega)
  simp only [Int.toNat_natCast] at hr
  exact hr

theorem infoS : (Try.prog.info? 36).map (fun i => (i.zero, i.size, i.bytes)) = some (some (.agg Sty.zero.cells), 9, 48) := by kernel_rfl
theorem info_agg {P : Program} {t : TypeId} {z : Value} {s b : Nat} (h : (P.info? t).map (fun i => (i.zero, i.size, i.bytes)) = some (some z, s, b)) : ∃ i, P.info? t = some i ∧ i.zero = some z ∧ i.size = s ∧ i.bytes = b := by
  cases hq : P.info? t with
  | none => rw [hq] at h; cases h
  | some i =>
    rw [hq] at h
    injection h with h
    injection h with h1 h2
    injection h2 with h2 h3
    exact ⟨i, rfl, h1, h2, h3⟩
theorem mkS (n : Nat) (hn : n ≤ 1000) (w : World) :
    (Instr.makeSlice 23 (.int .i64 (n : Int)) (.int .i64 (n : Int))).run Try.prog w = .ok (.slice (some ⟨w.heap.size, 0, none⟩) n n) (w.alloc (.cells (madeCells Sty.zero.cells (n * 9)) 36)) := by
  obtain ⟨i0, hi, hz0, hz1, hz2⟩ := info_agg infoS
  have := run_make_aggs (P := Try.prog) 23 36 i0 (.agg Sty.zero.cells) Try.underlying23 hi hz0 .i64 .i64 n n (Nat.le_refl _) (by rw [hz2]; omega) (by omega) w
  rw [hz1] at this
  exact this
theorem made_get (z : Array Value) (k n i j : Nat) (hk : z.size = k) (hi : i < n) (hj : j < k) : (madeCells z (n * k))[i * k + j]? = z[j]? := by
  have h1 : i * k + j < n * k := by have := row_le (k := k) hi; omega
  unfold madeCells
  have hm : (i * k + j) % z.size = j := by rw [hk, Nat.mul_comm, Nat.mul_add_mod]; exact Nat.mod_eq_of_lt hj
  rw [Array.getElem?_map, Array.getElem?_range, if_pos h1]
  simp only [Option.map_some, hm]
  rw [getElem!_pos z j (by omega), Array.getElem?_eq_getElem (by omega)]
theorem strs_made (w : World) (n : Nat) : Strs (w.alloc (.cells (madeCells Sty.zero.cells (n * 9)) 36)) w.heap.size 36 9 ((List.replicate n Sty.zero).map Sty.cells) := by
  refine ⟨_, Blk.new _ _ _, by simp [size_madeCells], fun i x hi => ?_⟩
  rw [List.getElem?_map] at hi
  have hin : i < n := by
    cases h : (List.replicate n Sty.zero)[i]? with
    | none => rw [h] at hi; cases hi
    | some y => have := (List.getElem?_eq_some_iff.1 h).1; simpa using this
  rw [List.getElem?_eq_getElem (by simpa using hin), List.getElem_replicate] at hi
  injection hi with hi
  subst hi
  refine ⟨rfl, fun j v hv => ?_⟩
  have hj : j < 9 := (Array.getElem?_eq_some_iff.1 hv).1
  rw [made_get _ 9 n i j rfl hin hj]
  exact hv

/-- what Styles says -/
def StyRes (base : Sty) (ps : List Int) (ds : List Dcl) (z : Int) (l : List Sty) : Prop :=
  (¬ (ps.length = ds.length ∧ okP ps) ∧ z = 2 ∧ l = []) ∨ ((ps.length = ds.length ∧ okP ps) ∧ ¬ (vld base = true ∧ okD ds) ∧ z = 60 ∧ l = []) ∨
    ((ps.length = ds.length ∧ okP ps) ∧ (vld base = true ∧ okD ds) ∧ z = 0 ∧ l = styK base ps ds ds.length)
theorem StyRes.uniq {base : Sty} {ps : List Int} {ds : List Dcl} {z z' : Int} {l l' : List Sty} (h : StyRes base ps ds z l) (h' : StyRes base ps ds z' l') : z = z' ∧ l = l' := by
  rcases h with ⟨h1, rfl, rfl⟩ | ⟨h1, h2, rfl, rfl⟩ | ⟨h1, h2, rfl, rfl⟩ <;> rcases h' with ⟨h3, rfl, rfl⟩ | ⟨h3, h4, rfl, rfl⟩ | ⟨h3, h4, rfl, rfl⟩ <;>
    first
      | exact ⟨rfl, rfl⟩
      | exact absurd h3 h1
      | exact absurd h1 h3
      | exact absurd h4 h2
      | exact absurd h2 h4
def StyPost (w : World) (base : Sty) (ps : List Int) (ds : List Dcl) (e : Ending) (w' : World) : Prop :=
  ∃ v z l, e = .returned (.tuple #[v, .int .i64 z]) ∧ StyRes base ps ds z l ∧ Ss w' v l ∧ Below w.heap.size w w'
theorem StyPost.bad {w w' : World} {base : Sty} {ps : List Int} {ds : List Dcl} {z : Int} (h : StyRes base ps ds z []) (b : Below w.heap.size w w') : StyPost w base ps ds (.returned (.tuple #[.slice none 0 0, .int .i64 z])) w' :=
  ⟨_, z, [], rfl, h, .inl ⟨rfl, rfl⟩, b⟩
theorem Strs.ss {w : World} {g n c : Nat} {l : List Sty} (h : Strs w g 36 9 (l.map Sty.cells)) (hn : l.length = n) : Ss w (.slice (some ⟨g, 0, none⟩) n c) l := by
  have h2 : RowN 9 _ w (.slice (some ⟨g, 0, none⟩) n c) ((l.map Sty.cells).map Array.toList) := h.row (by rw [List.length_map]; exact hn)
  rw [List.map_map] at h2
  exact RowN.mono (S := fun b => b < g) (T := fun _ => False) h2 fun _ _ h => h.elim

end Go.Proofs.Ytnoenccpbbkdeaa

/- Appends of a style to a row of the call's own; a row of the call's own that reads as a list of structs. No walk. -/
namespace Go.Proofs.Ytnoenccpbbkdeaa
open Go.ChangeShapes Go.WideShapes Go.ChangeAt Go.RowKit

theorem flat_get (k : Nat) : ∀ (rows : List (List Value)), (∀ x ∈ rows, x.length = k) → ∀ (i : Nat) (x : List Value), rows[i]? = some x → ∀ (j : Nat) (u : Value), x[j]? = some u → rows.flatten[i * k + j]? = some u
  | [], _, i, x, hx, _, _, _ => by simp at hx
  | r :: rows, hk, i, x, hx, j, u, hu => by
    have hr := hk r (List.mem_cons_self ..)
    rw [List.flatten_cons]
    cases i with
    | zero =>
      rw [List.getElem?_cons_zero] at hx
      injection hx with hx
      subst hx
      have hj : j < r.length := (List.getElem?_eq_some_iff.1 hu).1
      rw [Nat.zero_mul, Nat.zero_add, List.getElem?_append_left hj]
      exact hu
    | succ i =>
      rw [List.getElem?_cons_succ] at hx
      rw [List.getElem?_append_right (by rw [hr, Nat.succ_mul]; omega), hr, show (i + 1) * k + j - k = i * k + j by rw [Nat.succ_mul]; omega]
      exact flat_get k rows (fun x hx => hk x (List.mem_cons_of_mem _ hx)) i x hx j u hu
theorem RowN.of_own {w : World} {base : Nat} {e : TypeId} {k n : Nat} {v : Value} {xs : List Value} {rows : List (List Value)} (h : w.ownsRow base e k v n xs) (hx : rows.flatten = xs) (hn : rows.length = n) (hk : ∀ x ∈ rows, x.length = k) : RowN k (fun b => b < base) w v rows := by
  subst hx hn
  rcases h.2 with ⟨rfl, h0⟩ | ⟨g, cap, cur, rfl, hb, hg, rest⟩
  · exact .inl ⟨rfl, List.length_eq_zero_iff.1 h0⟩
  · refine .inr ⟨⟨g, 0, none⟩, cap, rfl, .inr ⟨(Array.getElem?_eq_some_iff.1 hg).1, by show ¬ g < base; omega⟩, fun i x hx j u hu => ?_⟩
    exact World.ownsRow.cells h (g := g) rfl _ u (flat_get k rows hk i x hx j u hu)

/-- styles as cells, one after the other -/
def flatS (l : List Sty) : List Value := (l.map fun s => s.cells.toList).flatten
theorem flatS_snoc (l : List Sty) (s : Sty) : flatS (l ++ [s]) = flatS l ++ s.cells.toList := by simp [flatS]
theorem own_ss {w : World} {base n : Nat} {v : Value} {l : List Sty} (h : w.ownsRow base 36 9 v n (flatS l)) (hn : l.length = n) : Ss w v l := by
  have h2 : RowN 9 (fun b => b < base) w v (l.map fun s => s.cells.toList) := RowN.of_own h rfl (by rw [List.length_map]; exact hn) (fun x hx => by
    obtain ⟨s, _, rfl⟩ := List.mem_map.1 hx
    rfl)
  exact RowN.mono (T := fun _ => False) h2 fun _ _ h => h.elim

theorem bsS (s : Sty) (w : World) : (Instr.buildSlice 23 1 #[(0, .agg s.cells)]).run Try.prog w = .ok (.slice (some ⟨w.heap.size, 0, none⟩) 1 1) (w.alloc (.cells s.cells 36)) := by kernel_rfl
theorem below_grown {B : Nat} {w w' : World} {r : Option Nat} (h : w.grownBy w' r) (hB : B ≤ w.heap.size) (hr : ∀ g, r = some g → B ≤ g) : Below B w w' :=
  ⟨h.os, h.tape, h.output, h.size, fun k hk => h.block k (by omega) (fun e => by have := hr k e.symm; omega)⟩

/-- out = append(out, s) -/
theorem apS {ops : Array Oper} {Q : Exit → Act → World → Prop} {a : Act} {w : World} {rest : List Oper} {o1 o2 : Oper} (hg1 : o1.guard = none) (x : Operand) (ho1 : o1.op = .buildSlice 23 1 #[(0, x)]) (D : Tmp) (hd1 : o1.dst = some D)
    (hg2 : o2.guard = none) (sl : Operand) (ho2 : o2.op = .call { callee := .builtin .append, args := #[sl, .tmp D], argTypes := #[23, 23] }) (s : Sty) (hx : a.eval x = .agg s.cells)
    (v : Value) (hs : ∀ u, (a.put (some D) u).eval sl = v) (hD : ∀ u, (a.put (some D) u).eval (.tmp D) = u) (base n : Nat) (xs : List Value) (hown : w.ownsRow base 36 9 v n xs) (hn : n < 1000) (hbase : base ≤ w.heap.size)
    (h : ∀ u v' w', w'.ownsRow base 36 9 v' (n + 1) (xs ++ s.cells.toList) → Below base w w' → wpList Try.prog ops Q rest ((a.put (some D) u).put o2.dst v') w') : wpList Try.prog ops Q (o1 :: o2 :: rest) a w := by
  refine wpList_valIf (wanted_none hg1 _) _ hd1 (.slice (some ⟨w.heap.size, 0, none⟩) 1 1) (w.alloc (.cells s.cells 36)) ?_ ?_
  · unfold execOp
    simp only [ho1, List.map_toArray, List.map_cons, List.map_nil, hx, Sem.run_bind, bsS, Sem.run_pure, Result.andThen_ok]
  · obtain ⟨i0, hi, hz0, hz1, hz2⟩ := info_agg infoS
    have B0 := Blk.new w 36 s.cells
    refine wpList_append_own _ hg2 sl (.tmp D) 23 ho2 base 36 i0 (.agg Sty.zero.cells) 9 48 Try.underlying23 hi hz0 hz1 hz2 rfl (by decide) v n xs (hs _) (hown.alloc _) ⟨w.heap.size, 0, none⟩ 1 1 s.cells.toList (hD _) rfl (fun j u hu => B0.lies j u (by simpa using hu)) (fun u hu => (Array.all_eq_true_iff_forall_mem.1 (one23 s)) u (by simpa using hu)) (by unfold maxLen; omega) (by omega) (by simp; omega) ?_
    intro v' w' h1 h2 h3
    refine h _ v' w' h1 (((below_alloc w _).mono hbase).trans (below_grown h2 (by simp; omega) (fun g hg => ?_)))
    rcases hown.2 with ⟨rfl, _⟩ | ⟨g', cap, cur, rfl, hb, _⟩
    · simp [Value.ownBlock] at hg
    · have e : g' = g := by simpa [Value.ownBlock] using hg
      omega
end Go.Proofs.Ytnoenccpbbkdeaa

/- 'out = append(out, x)' onto a row of the call's own, for an element of any kind of cells; outside and inside a round. For any layer. No walk. -/
namespace Go.Proofs.Ytnoenccpbbkdeaa
open Go.ChangeShapes Go.WideShapes Go.ChangeAt Go.RowKit

/-- how an element's type is laid -/
structure Elm (P : Program) (T E : TypeId) (size bytes : Nat) : Prop where
  und : P.underlying T = some (.slice E)
  info : ∃ z : Value, ((P.info? E).map (fun i => (i.zero, i.size, i.bytes)) = some (some z, size, bytes)) ∧ z.cells.size = size
  pos : 0 < size
  small : bytes ≤ 1024

theorem apG {P : Program} {T E : TypeId} {size bytes : Nat} (hE : Elm P T E size bytes) {ops : Array Oper} {Q : Exit → Act → World → Prop} {a : Act} {w : World} {rest : List Oper} {o1 o2 : Oper} (hg1 : o1.guard = none) (x : Operand) (ho1 : o1.op = .buildSlice T 1 #[(0, x)]) (D : Tmp) (hd1 : o1.dst = some D)
    (hg2 : o2.guard = none) (sl : Operand) (ho2 : o2.op = .call { callee := .builtin .append, args := #[sl, .tmp D], argTypes := #[T, T] }) (val : Value) (cs : Array Value) (hx : a.eval x = val) (hcs : cs.size = size) (h1 : cs.all (·.oneCell') = true)
    (hbs : ∀ w, (Instr.buildSlice T 1 #[(0, val)]).run P w = .ok (.slice (some ⟨w.heap.size, 0, none⟩) 1 1) (w.alloc (.cells cs E)))
    (v : Value) (hs : ∀ u, (a.put (some D) u).eval sl = v) (hD : ∀ u, (a.put (some D) u).eval (.tmp D) = u) (base n : Nat) (xs : List Value) (hown : w.ownsRow base E size v n xs) (hn : n < 4194304) (hbase : base ≤ w.heap.size)
    (h : ∀ u v' w', w'.ownsRow base E size v' (n + 1) (xs ++ cs.toList) → Below base w w' → wpList P ops Q rest ((a.put (some D) u).put o2.dst v') w') : wpList P ops Q (o1 :: o2 :: rest) a w := by
  obtain ⟨z, hi0, hzc⟩ := hE.info
  obtain ⟨i0, hi, hz0, hz1, hz2⟩ := info_agg hi0
  have hsm := hE.small
  refine wpList_valIf (wanted_none hg1 _) _ hd1 (.slice (some ⟨w.heap.size, 0, none⟩) 1 1) (w.alloc (.cells cs E)) ?_ ?_
  · unfold execOp
    simp only [ho1, List.map_toArray, List.map_cons, List.map_nil, hx, Sem.run_bind, hbs, Sem.run_pure, Result.andThen_ok]
  · have B0 := Blk.new w E cs
    refine wpList_append_own _ hg2 sl (.tmp D) T ho2 base E i0 z size bytes hE.und hi hz0 hz1 hz2 hzc hE.pos v n xs (hs _) (hown.alloc _) ⟨w.heap.size, 0, none⟩ 1 1 cs.toList (hD _) (by rw [Array.length_toList, hcs, Nat.one_mul]) (fun j u hu => B0.lies j u (by simpa using hu)) (fun u hu => (Array.all_eq_true_iff_forall_mem.1 h1) u (by simpa using hu)) (by unfold maxLen; omega) (Nat.le_trans (Nat.mul_le_mul (show n + 1 ≤ 4194304 by omega) hsm) (by omega)) (by simp; omega) ?_
    intro v' w' h1 h2 h3
    refine h _ v' w' h1 (((below_alloc w _).mono hbase).trans (below_grown h2 (by simp; omega) (fun g hg => ?_)))
    rcases hown.2 with ⟨rfl, _⟩ | ⟨g', cap, cur, rfl, hb, _⟩
    · simp [Value.ownBlock] at hg
    · have e : g' = g := by simpa [Value.ownBlock] using hg
      omega

/-! ### ints -/
theorem elmI : Elm Try.prog 24 3 1 8 := ⟨Try.underlying24, ⟨.int .i64 0, by kernel_rfl, rfl⟩, by decide, by decide⟩
theorem bsI (z : Int) (w : World) : (Instr.buildSlice 24 1 #[(0, .int .i64 z)]).run Try.prog w = .ok (.slice (some ⟨w.heap.size, 0, none⟩) 1 1) (w.alloc (.cells #[.int .i64 z] 3)) := by kernel_rfl
theorem apI {ops : Array Oper} {Q : Exit → Act → World → Prop} {a : Act} {w : World} {rest : List Oper} {o1 o2 : Oper} (hg1 : o1.guard = none) (x : Operand) (ho1 : o1.op = .buildSlice 24 1 #[(0, x)]) (D : Tmp) (hd1 : o1.dst = some D)
    (hg2 : o2.guard = none) (sl : Operand) (ho2 : o2.op = .call { callee := .builtin .append, args := #[sl, .tmp D], argTypes := #[24, 24] }) (z : Int) (hx : a.eval x = .int .i64 z)
    (v : Value) (hs : ∀ u, (a.put (some D) u).eval sl = v) (hD : ∀ u, (a.put (some D) u).eval (.tmp D) = u) (base n : Nat) (xs : List Value) (hown : w.ownsRow base 3 1 v n xs) (hn : n < 4194304) (hbase : base ≤ w.heap.size)
    (h : ∀ u v' w', w'.ownsRow base 3 1 v' (n + 1) (xs ++ [.int .i64 z]) → Below base w w' → wpList Try.prog ops Q rest ((a.put (some D) u).put o2.dst v') w') : wpList Try.prog ops Q (o1 :: o2 :: rest) a w :=
  apG elmI hg1 x ho1 D hd1 hg2 sl ho2 (.int .i64 z) #[.int .i64 z] hx rfl (by simp [Value.oneCell']) (bsI z) v hs hD base n xs hown hn hbase h
end Go.Proofs.Ytnoenccpbbkdeaa

/- Arguments that are styles, declarations, lists of them, three declarations, a node and a declaration, opened to values. No walk. -/
namespace Go.Proofs.Ytnoenccpbbkdeaa
open Go.ChangeShapes Go.WideShapes Go.ChangeAt Go.RowKit Go.Deep

theorem own : ownKnob Try.prog.godebug = none := by kernel_rfl
theorem laidOut : laidOutB Try.prog = true := by kernel_rfl
theorem w64_of {a : Int} (h : (Lit.int .i64 a).wf = true) : -9223372036854775808 ≤ a ∧ a ≤ 9223372036854775807 := by
  simpa [Lit.wf, IntKind.min, IntKind.max, IntKind.signed, IntKind.bits] using h
theorem w16_of {a : Int} (h : (Lit.int .u16 a).wf = true) : 0 ≤ a ∧ a ≤ 65535 := by
  simpa [Lit.wf, IntKind.min, IntKind.max, IntKind.signed, IntKind.bits] using h

/-- three declarations' cells -/
def thr (a b c : Dcl) : Array Value := #[.int .u16 (a.n : Int), .int .u8 a.s.a0, .int .u8 a.s.a1, .int .u8 a.s.a2, .int .u8 a.s.a3, .int .i64 a.s.a4, .int .i64 a.s.a5, .int .i64 a.s.a6, .int .u8 a.s.a7, .int .i64 a.s.a8, .int .u16 (b.n : Int), .int .u8 b.s.a0, .int .u8 b.s.a1, .int .u8 b.s.a2, .int .u8 b.s.a3, .int .i64 b.s.a4, .int .i64 b.s.a5, .int .i64 b.s.a6, .int .u8 b.s.a7, .int .i64 b.s.a8, .int .u16 (c.n : Int), .int .u8 c.s.a0, .int .u8 c.s.a1, .int .u8 c.s.a2, .int .u8 c.s.a3, .int .i64 c.s.a4, .int .i64 c.s.a5, .int .i64 c.s.a6, .int .u8 c.s.a7, .int .i64 c.s.a8]
/-- a node's and a declaration's cells -/
def chg (z : Int) (d : Dcl) : Array Value := #[.int .i64 z, .int .u16 (d.n : Int), .int .u8 d.s.a0, .int .u8 d.s.a1, .int .u8 d.s.a2, .int .u8 d.s.a3, .int .i64 d.s.a4, .int .i64 d.s.a5, .int .i64 d.s.a6, .int .u8 d.s.a7, .int .i64 d.s.a8]

set_option maxRecDepth 100000
section
variable {H : Type} {enc : TypeId × Value → H} {W : World} {r : Reach} {b0 : Nat} {v : Value} {d : DataW H} {ps : List MemPlace} {fuel : Nat} {cs : List Value} {y : DataW H × List MemPlace}

theorem c5 : Try.prog.cellsOf 5 = 1 := by kernel_rfl
theorem c3 : Try.prog.cellsOf 3 = 1 := by kernel_rfl
theorem c2 : Try.prog.cellsOf 2 = 1 := by kernel_rfl
theorem c23 : Try.prog.cellsOf 36 = 9 := by kernel_rfl
theorem sty_of (h : DataW.trod enc Try.prog W 0 (fun _ => true) true fuel 36 cs = some y) : ∃ s : Sty, cs = s.cells.toList := by
  obtain ⟨xs, n, _, _, hl, hyl, hf⟩ := DataW.trod_struct Try.underlying36 h
  have hl9 : cs.length = 9 := hl.trans c23
  have hy9 : xs.length = 9 := hyl
  match cs, hl9 with
  | [q0, q1, q2, q3, q4, q5, q6, q7, q8], _ =>
    obtain ⟨z0, g0, _, _⟩ := DataW.trod_int Try.underlying5 ((hf 0 _ rfl).trans (List.getElem?_eq_getElem (by omega)))
    obtain ⟨z1, g1, _, _⟩ := DataW.trod_int Try.underlying5 ((hf 1 _ rfl).trans (List.getElem?_eq_getElem (by omega)))
    obtain ⟨z2, g2, _, _⟩ := DataW.trod_int Try.underlying5 ((hf 2 _ rfl).trans (List.getElem?_eq_getElem (by omega)))
    obtain ⟨z3, g3, _, _⟩ := DataW.trod_int Try.underlying5 ((hf 3 _ rfl).trans (List.getElem?_eq_getElem (by omega)))
    obtain ⟨z4, g4, _, _⟩ := DataW.trod_int Try.underlying3 ((hf 4 _ rfl).trans (List.getElem?_eq_getElem (by omega)))
    obtain ⟨z5, g5, _, _⟩ := DataW.trod_int Try.underlying3 ((hf 5 _ rfl).trans (List.getElem?_eq_getElem (by omega)))
    obtain ⟨z6, g6, _, _⟩ := DataW.trod_int Try.underlying2 ((hf 6 _ rfl).trans (List.getElem?_eq_getElem (by omega)))
    obtain ⟨z7, g7, _, _⟩ := DataW.trod_int Try.underlying5 ((hf 7 _ rfl).trans (List.getElem?_eq_getElem (by omega)))
    obtain ⟨z8, g8, _, _⟩ := DataW.trod_int Try.underlying2 ((hf 8 _ rfl).trans (List.getElem?_eq_getElem (by omega)))
    simp [c5] at g0
    simp [c5] at g1
    simp [c5] at g2
    simp [c5] at g3
    simp [c3] at g4
    simp [c3] at g5
    simp [c2] at g6
    simp [c5] at g7
    simp [c2] at g8
    subst g0 g1 g2 g3 g4 g5 g6 g7 g8
    exact ⟨⟨z0, z1, z2, z3, z4, z5, z6, z7, z8⟩, rfl⟩

/-- a slice of structs that are read by hf -/
theorem open_rowsP {P : Program} {t e : TypeId} {k : Nat} {α : Type} (f : α → List Value) (p : α → Prop) (ht : P.underlying t = some (.slice e)) (hC : P.cellsOf e = k) (hpos : 0 < k) (hk : ∀ x, (f x).length = k)
    (hf : ∀ (n : Nat) (cs : List Value) (y : DataW H × List MemPlace), DataW.trod enc P W 0 (fun _ => true) true n e cs = some y → ∃ x, cs = f x ∧ p x) (h : DataW.trod enc P W 0 (fun _ => true) true fuel t [v] = some y) :
    ∃ xs : List α, RowN k (fun b => W.heap.size ≤ b) W v (xs.map f) ∧ ∀ x ∈ xs, p x := by
  rcases open_slice ht h with ⟨hcs, _⟩ | ⟨a, len, cap, m, n, D, Pl, hcs, _, hl, hm, hmm, _, hi⟩
  · injection hcs with hcs
    subst hcs
    exact ⟨[], .inl ⟨rfl, rfl⟩, by simp⟩
  · injection hcs with hcs
    subst hcs
    simp only [if_true] at hmm
    subst hmm
    have key : ∀ i, i < len → ∃ x : α, p x ∧ ∀ j u, (f x)[j]? = some u → W.cell? (a.add (i * k + j)) = some u := by
      intro i hil
      obtain ⟨cs', hc, ht'⟩ := hi i (by omega)
      rw [hC] at hc
      obtain ⟨_, hcl, hat⟩ := World.cells?_some hc
      obtain ⟨x, rfl, hp⟩ := hf _ _ _ ht'
      refine ⟨x, hp, fun j u hj => ?_⟩
      have hjl : j < (f x).length := (List.getElem?_eq_some_iff.1 hj).1
      rw [hk] at hjl
      rw [← add_add, hat j (by omega)]
      exact hj
    have hnil : len = 0 ∨ ∃ x : α, True := by
      rcases Nat.eq_zero_or_pos len with h0 | h0
      · exact .inl h0
      · obtain ⟨x, _⟩ := key 0 h0
        exact .inr ⟨x, trivial⟩
    rcases hnil with rfl | ⟨x0, _⟩
    · refine ⟨[], .inr ⟨a, m, rfl, .inl rfl, fun i x hx => by simp at hx⟩, by simp⟩
    let X : Nat → α := fun i => if h : i < len then (key i h).choose else x0
    have hX : ∀ i, i < len → p (X i) ∧ ∀ j u, (f (X i))[j]? = some u → W.cell? (a.add (i * k + j)) = some u := by
      intro i hil
      have := (key i hil).choose_spec
      simp only [X, dif_pos hil]
      exact this
    refine ⟨(List.range len).map X, .inr ⟨a, m, by simp, ?_, fun i x hx => ?_⟩, fun x hx => ?_⟩
    · rcases Nat.eq_zero_or_pos len with h0 | h0
      · subst h0; exact .inl rfl
      · right
        obtain ⟨_, hc⟩ := hX 0 h0
        have h2 := hc 0 _ (List.getElem?_eq_getElem (by rw [hk]; exact hpos))
        have := World.block_lt_of_cell? _ _ h2
        rw [block_of_add] at this
        exact ⟨this, by omega⟩
    · rw [List.map_map, List.getElem?_map] at hx
      cases hr : (List.range len)[i]? with
      | none => rw [hr] at hx; cases hx
      | some q =>
        obtain ⟨hq, hq2⟩ := List.getElem?_eq_some_iff.1 hr
        simp at hq hq2
        subst hq2
        rw [hr] at hx
        injection hx with hx
        subst hx
        exact (hX _ hq).2
    · obtain ⟨i, hir, rfl⟩ := List.mem_map.1 hx
      exact (hX i (List.mem_range.1 hir)).1

theorem open_sty (hv : Value.okWide Try.prog W r b0 36 v) (h : DataW.Trod enc Try.prog W 0 (fun _ => true) true 36 v d ps) : ∃ s : Sty, v = .agg s.cells := by
  obtain ⟨cs, rfl, hsz⟩ := okWide_struct Try.underlying36 hv
  obtain ⟨f, hf⟩ := h
  obtain ⟨s, hs⟩ := sty_of hf
  exact ⟨s, by rw [← Array.toList_inj.1 hs]; rfl⟩
end
end Go.Proofs.Ytnoenccpbbkdeaa
