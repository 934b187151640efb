/- Contracts of the document's Styles for layer 7, and of SameStops. Conditions: the nodes lie where the slice says, at most 900 of them; bits are 16-bit numbers. -/
import Derived.Test.YtgpobhnonjdamaaDoorWkB
import Derived.Test.YtgpobhnonjdamaaDoorWkA
import Derived.Test.YtgpobhnonjdamaaDoorAr5
namespace Go.Proofs.YtgpobhnonjdamaaDoor
open Go.ChangeShapes Go.WideShapes Go.ChangeAt Go.RowKit

/-- ... and what else lay lies as it lay -/
theorem apG2 {P : Program} {T E : TypeId} {size bytes : Nat} (hE : Elm P T E size bytes) {ops : Array Oper} {Q : Exit → Act → World → Prop} {a : Act} {w : World} {rest : List Oper} {o1 o2 : Oper} (hg1 : o1.guard = none) (x : Operand) (ho1 : o1.op = .buildSlice T 1 #[(0, x)]) (D : Tmp) (hd1 : o1.dst = some D)
    (hg2 : o2.guard = none) (sl : Operand) (ho2 : o2.op = .call { callee := .builtin .append, args := #[sl, .tmp D], argTypes := #[T, T] }) (val : Value) (cs : Array Value) (hx : a.eval x = val) (hcs : cs.size = size) (h1 : cs.all (·.oneCell') = true)
    (hbs : ∀ w, (Instr.buildSlice T 1 #[(0, val)]).run P w = .ok (.slice (some ⟨w.heap.size, 0, none⟩) 1 1) (w.alloc (.cells cs E)))
    (v : Value) (hs : ∀ u, (a.put (some D) u).eval sl = v) (hD : ∀ u, (a.put (some D) u).eval (.tmp D) = u) (base n : Nat) (xs : List Value) (hown : w.ownsRow base E size v n xs) (hn : n < 4194304) (hbase : base ≤ w.heap.size)
    (h : ∀ u v' w', w'.ownsRow base E size v' (n + 1) (xs ++ cs.toList) → Below base w w' → (∀ k, k < w.heap.size → v.ownBlock ≠ some k → w'.heap[k]? = w.heap[k]?) → wpList P ops Q rest ((a.put (some D) u).put o2.dst v') w') : wpList P ops Q (o1 :: o2 :: rest) a w := by
  obtain ⟨z, hi0, hzc⟩ := hE.info
  obtain ⟨i0, hi, hz0, hz1, hz2⟩ := info_agg hi0
  have hsm := hE.small
  refine wpList_valIf (wanted_none hg1 _) _ hd1 (.slice (some ⟨w.heap.size, 0, none⟩) 1 1) (w.alloc (.cells cs E)) ?_ ?_
  · unfold execOp
    simp only [ho1, List.map_toArray, List.map_cons, List.map_nil, hx, Sem.run_bind, hbs, Sem.run_pure, Result.andThen_ok]
  · have B0 := Blk.new w E cs
    refine wpList_append_own _ hg2 sl (.tmp D) T ho2 base E i0 z size bytes hE.und hi hz0 hz1 hz2 hzc hE.pos v n xs (hs _) (hown.alloc _) ⟨w.heap.size, 0, none⟩ 1 1 cs.toList (hD _) (by rw [Array.length_toList, hcs, Nat.one_mul]) (fun j u hu => B0.lies j u (by simpa using hu)) (fun u hu => (Array.all_eq_true_iff_forall_mem.1 h1) u (by simpa using hu)) (by unfold maxLen; omega) (Nat.le_trans (Nat.mul_le_mul (show n + 1 ≤ 4194304 by omega) hsm) (by omega)) (by simp; omega) ?_
    intro v' w' h1 h2 h3
    refine h _ v' w' h1 (((below_alloc w _).mono hbase).trans (below_grown h2 (by simp; omega) (fun g hg => ?_))) (fun k hk hne => (h2.block k (by simp; omega) (fun e => hne e.symm)).trans ((below_alloc w _).block k hk))
    rcases hown.2 with ⟨rfl, _⟩ | ⟨g', cap, cur, rfl, hb, _⟩
    · simp [Value.ownBlock] at hg
    · have e : g' = g := by simpa [Value.ownBlock] using hg
      omega

theorem elmD : Elm Tryd.prog 81 33 10 56 := ⟨Tryd.underlying81, ⟨.agg Dcl.zero.cells, by kernel_rfl, rfl⟩, by decide, by decide⟩
theorem bsDc (x : Dcl) (w : World) : (Instr.buildSlice 81 1 #[(0, .agg x.cells)]).run Tryd.prog w = .ok (.slice (some ⟨w.heap.size, 0, none⟩) 1 1) (w.alloc (.cells x.cells 33)) := by kernel_rfl
theorem oneDc (x : Dcl) : x.cells.all (·.oneCell') = true := by kernel_rfl
theorem apD {ops : Array Oper} {Q : Exit → Act → World → Prop} {a : Act} {w : World} {rest : List Oper} {o1 o2 : Oper} (hg1 : o1.guard = none) (x : Operand) (ho1 : o1.op = .buildSlice 81 1 #[(0, x)]) (D : Tmp) (hd1 : o1.dst = some D)
    (hg2 : o2.guard = none) (sl : Operand) (ho2 : o2.op = .call { callee := .builtin .append, args := #[sl, .tmp D], argTypes := #[81, 81] }) (s : Dcl) (hx : a.eval x = .agg s.cells)
    (v : Value) (hs : ∀ u, (a.put (some D) u).eval sl = v) (hD : ∀ u, (a.put (some D) u).eval (.tmp D) = u) (base n : Nat) (xs : List Value) (hown : w.ownsRow base 33 10 v n xs) (hn : n < 4194304) (hbase : base ≤ w.heap.size)
    (h : ∀ u v' w', w'.ownsRow base 33 10 v' (n + 1) (xs ++ s.cells.toList) → Below base w w' → wpList Tryd.prog ops Q rest ((a.put (some D) u).put o2.dst v') w') : wpList Tryd.prog ops Q (o1 :: o2 :: rest) a w :=
  apG elmD hg1 x ho1 D hd1 hg2 sl ho2 (.agg s.cells) s.cells hx rfl (oneDc s) (bsDc s) v hs hD base n xs hown hn hbase h
def flatDc (l : List Dcl) : List Value := (l.map fun s => s.cells.toList).flatten
theorem flatDc_snoc (l : List Dcl) (s : Dcl) : flatDc (l ++ [s]) = flatDc l ++ s.cells.toList := by simp [flatDc]
theorem own_dcs {w : World} {base n : Nat} {v : Value} {l : List Dcl} (h : w.ownsRow base 33 10 v n (flatDc l)) (hn : l.length = n) : Ds w v l := by
  have h2 : RowN 10 (fun b => b < base) w v (l.map fun s => s.cells.toList) := RowN.of_own h rfl (by rw [List.length_map]; exact hn) (fun x hx => by
    obtain ⟨s, _, rfl⟩ := List.mem_map.1 hx
    rfl)
  exact RowN.mono (T := fun _ => False) h2 fun _ _ h => h.elim
/-- rows beside each other: one grows, the other lies -/
theorem own_other {w w' : World} {b1 b2 n1 n2 s1 s2 : Nat} {e1 e2 : TypeId} {v1 v2 v' : Value} {xs ys : List Value} (h1 : w.ownsRow b1 e1 s1 v1 n1 xs) (h2 : w.ownsRow b2 e2 s2 v2 n2 ys) (he : e1 ≠ e2) (hk : ∀ k, k < w.heap.size → v2.ownBlock ≠ some k → w'.heap[k]? = w.heap[k]?) (_ : v' = v') : w'.ownsRow b1 e1 s1 v1 n1 xs := by
  refine ⟨h1.1, ?_⟩
  rcases h1.2 with hn | ⟨g, cap, cur, rfl, hb, hg, rest⟩
  · exact .inl hn
  · refine .inr ⟨g, cap, cur, rfl, hb, ?_, rest⟩
    rw [hk g (Array.getElem?_eq_some_iff.1 hg).1 (fun e => ?_)]
    · exact hg
    · rcases h2.2 with ⟨rfl, _⟩ | ⟨g2, cap2, cur2, rfl, _, hg2, _⟩
      · simp [Value.ownBlock] at e
      · obtain rfl : g2 = g := by simpa [Value.ownBlock] using e
        rw [hg] at hg2
        injection hg2 with hg2
        injection hg2 with _ hg2 _
        exact he hg2
theorem own_kept {w w' : World} {b1 n1 s1 : Nat} {e1 : TypeId} {v1 : Value} {xs : List Value} (h1 : w.ownsRow b1 e1 s1 v1 n1 xs) (b : Below w.heap.size w w') : w'.ownsRow b1 e1 s1 v1 n1 xs := own_keep h1 (S := fun _ => False) (Mod.of_below b) (fun _ _ h => h)

set_option maxRecDepth 100000 in
set_option maxHeartbeats 8000000 in
theorem rsty_any (base : Sty) (l : List Nod) (v : Value) (w : World) (hR : Ns w v l) (hn : l.length ≤ 900) (h16 : Wf16 (l.map Nod.d)) :
    Calls Tryd.prog 24 #[.agg base.cells, v] w (StyPost w base (psOf l) (l.map Nod.d)) := by
  have HR := Lib.hid hR
  have H16 := Lib.hid h16
  obtain ⟨A, cap, rfl⟩ := hR.form
  obtain ⟨n, hl⟩ : ∃ n, l.length = n := ⟨_, rfl⟩
  have HL := Lib.hid hl
  rw [hl] at hn HR ⊢
  clear hR hl h16
  go_enter Tryd.func24, Tryd.ntmps24
  go_wp2_with (refine bxSV rfl (.tmp 0) rfl base rfl ?_; intro w1 b1 B1)
  have s1 := b1.size
  have l1 := B1.lt
  have HB1 := Lib.hid B1
  clear B1
  go_loopg [6, 7, 8] n (fun kx s6 s7 s8 wr => ∃ (k : Nat) (u0 u1 : Value), s8 = .int .i64 k ∧ u0 = s6 ∧ u1 = s7 ∧ k ≤ n ∧ kx = n - k ∧ Below w1.heap.size w1 wr ∧ wr.ownsRow w1.heap.size 3 1 u0 k (((psOf l).take k).map (Value.int .i64)) ∧ wr.ownsRow w1.heap.size 33 10 u1 k (flatDc ((l.map Nod.d).take k)))
  case atStart => exact ⟨0, _, _, rfl, rfl, rfl, by omega, rfl, Below.refl _ _, ⟨rfl, .inl ⟨rfl, rfl⟩⟩, ⟨rfl, .inl ⟨rfl, rfl⟩⟩⟩
  case round =>
    obtain ⟨k, u0, u1, rfl, rfl, rfl, hk, rfl, bel, hp, hd⟩ := hrel
    have HP := Lib.hid hp
    have HD := Lib.hid hd
    have hbs := bel.size
    have b0r := b1.trans (bel.mono b1.size)
    clear hp hd
    by_cases hlt : k < n
    · have hkl : k < l.length := by rw [HL.out]; exact hlt
      have hz : (k : Int) < n := by omega
      obtain ⟨x, hx⟩ := at_of hkl
      obtain ⟨ad, cap2, o, hv, hab, ha, hLi⟩ := HR.out.get b0r hx
      rw [HL.out] at hv
      injection hv with hv1 hv2 hv3
      subst hv1 hv3
      have hc := hLi.p
      have HSP : Hid ((psOf l).take (k + 1) = (psOf l).take k ++ [x.p]) := Lib.hid (by rw [List.take_add_one]; unfold psOf; rw [List.getElem?_map, hx]; rfl)
      have HSD : Hid ((l.map Nod.d).take (k + 1) = (l.map Nod.d).take k ++ [x.d]) := Lib.hid (by rw [List.take_add_one, List.getElem?_map, hx]; rfl)
      have HLI := Lib.hid hLi.d
      have habo : (⟨ad.block, o + 3, none⟩ : Addr).block < w.heap.size := hab
      have hadb : ad.block < w.heap.size := hab
      obtain ⟨p, hpp⟩ : ∃ p, x.p = p := ⟨_, rfl⟩
      obtain ⟨d, hdd⟩ : ∃ d, x.d = d := ⟨_, rfl⟩
      rw [hpp] at hc HSP
      rw [hdd] at HSD HLI
      clear hv2 hx hkl hpp hdd hLi
      go_wp2_with (first
        | (refine apG2 elmI rfl (.tmp 20) rfl 21 rfl rfl (.tmp 15) rfl (.int .i64 p) #[.int .i64 p] rfl rfl (by simp [Value.oneCell']) (bsI p) u0 (fun _ => rfl) (fun _ => rfl) w1.heap.size k _ HP.out (by omega) hbs ?_; intro uu v5 w5 own5 b5 o5; have hd5 := own_other HD.out HP.out (by decide) o5 (rfl : v5 = v5); have hs5 := Nat.le_trans hbs b5.size; have hL5 : Lies w5 ⟨ad.block, o + 3, none⟩ d.cells := lies_keep HLI.out (b5.block _ (by omega)))
        | (refine ldD rfl (.tmp 27) rfl _ rfl d hL5 ?_)
        | (refine apG2 elmD rfl (.tmp 28) rfl 29 rfl rfl (.tmp 23) rfl (.agg d.cells) d.cells rfl rfl (oneDc d) (bsDc d) u1 (fun _ => rfl) (fun _ => rfl) w1.heap.size k _ hd5 (by omega) hs5 ?_; intro uu2 v6 w6 own6 b6 o6; have hp6 := own_other own5 hd5 (by decide) o6 (rfl : v6 = v6)))
      go_roundg (n - (k + 1))
      case measure => omega
      case rel =>
        refine ⟨k + 1, _, _, by go_num, rfl, rfl, by omega, rfl, bel.trans (b5.trans b6), ?_, ?_⟩
        · rw [HSP.out, List.map_append]; exact hp6
        · rw [HSD.out, flatDc_snoc]; exact own6
    · obtain rfl : k = n := by omega
      have hrow : Row (fun _ => False) wr u0 ((psOf l).map (Value.int .i64)) := by
        have := (Row.of_own HP.out).mono (T := fun _ => False) fun _ _ h => h.elim
        rwa [List.take_of_length_le (by rw [psOf_len, HL.out]; exact Nat.le_refl _)] at this
      have hds : Ds wr u1 (l.map Nod.d) := by
        have := HD.out
        rw [List.take_of_length_le (by rw [List.length_map, HL.out]; exact Nat.le_refl _)] at this
        exact own_dcs this (by rw [List.length_map]; exact HL.out)
      have CS := Lib.hid (rstyles_any base _ _ (psOf l) (l.map Nod.d) wr hrow hds H16.out (by rw [psOf_len, HL.out]; omega) (by rw [List.length_map, HL.out]; omega))
      have hB1 := HB1.out.keep (S := fun _ => False) (Mod.of_below bel) id
      clear hrow hds HP HD
      go_wp2_with (refine ldS rfl (.tmp 2) rfl _ rfl base hB1.lies ?_)
      refine CS.out.mono ?_
      rintro e w8 ⟨v8, z8, l8, rfl, hres, hss, b8⟩
      go_wp2_with fail
      go_ret2
      exact ⟨v8, z8, l8, rfl, hres, hss, below_seq b0r b8⟩
end Go.Proofs.YtgpobhnonjdamaaDoor

/- Contract of arena's visit, which calls itself in a loop over a function. Conditions: the tree lies in memory as New lays it; what the stops are handed to keeps what is not its own. -/
namespace Go.Proofs.YtgpobhnonjdamaaDoor
open Go.ChangeShapes Go.WideShapes Go.ChangeAt Go.RowKit Go.Shelf

attribute [local go_sem] Oper.semAt_some

/-- a stop's cells -/
def stp (x : Nat × Bool) : List Value := [.int .i64 (x.1 : Int), .bool x.2]
def encS (x : Nat × Bool) : Array Value := #[.agg #[.int .i64 (x.1 : Int), .bool x.2]]
/-- the stops of a walk, whatever the fuel -/
def walkL (ps : List Int) (n : Nat) : List (Nat × Bool) := wlk ps ps.length n
theorem walkL_step {ps : List Int} (h : Tre ps) {n : Nat} (hn : n < ps.length) : walkL ps n = (n, true) :: ((kidsL ps n).flatMap (walkL ps) ++ [(n, false)]) := by
  unfold walkL
  obtain ⟨m, hm⟩ : ∃ m, ps.length = m + 1 := ⟨ps.length - 1, by omega⟩
  have e : wlk ps ps.length n = (n, true) :: ((kidsL ps n).flatMap (wlk ps m) ++ [(n, false)]) := by rw [hm]; rfl
  rw [e]
  congr 2
  refine flatMap_same _ _ _ fun k hk => ?_
  obtain ⟨h1, h2⟩ := mem_kids hk
  have h3 := (h.lt k (by omega)).1
  rw [h2, Int.toNat_natCast] at h3
  exact (wlk_fuel h m k (by omega) (by omega) ps.length (by omega)).symm

/-- the block that a slice in the box B lies in -/
def rowOf (W : World) (B : Nat) : Option Nat := match W.cell? ⟨B, 0, none⟩ with
  | some v => v.ownBlock
  | none => none
/-- what a round keeps: all blocks but the box B, its row, and the loop's record L; the row is the one it was, or new -/
structure Kpo (B L : Nat) (W W' : World) : Prop where
  size : W.heap.size ≤ W'.heap.size
  os : W'.os = W.os
  tape : W'.tape = W.tape
  output : W'.output = W.output
  same : ∀ k, k < W.heap.size → k ≠ B → k ≠ L → rowOf W B ≠ some k → W'.heap[k]? = W.heap[k]?
  row : ∀ k, rowOf W' B = some k → rowOf W B = some k ∨ W.heap.size ≤ k
theorem Kpo.refl (B L : Nat) (W : World) : Kpo B L W W := ⟨Nat.le_refl _, rfl, rfl, rfl, fun _ _ _ _ _ => rfl, fun _ h => .inl h⟩
theorem Kpo.trans {B L : Nat} {X Y Z : World} (h : Kpo B L X Y) (k : Kpo B L Y Z) : Kpo B L X Z :=
  ⟨Nat.le_trans h.size k.size, k.os.trans h.os, k.tape.trans h.tape, k.output.trans h.output, fun i hi h1 h2 h3 => by
    refine (k.same i (Nat.lt_of_lt_of_le hi h.size) h1 h2 fun h4 => ?_).trans (h.same i hi h1 h2 h3)
    rcases h.row i h4 with h5 | h5
    · exact h3 h5
    · omega, fun i hi => by
    rcases k.row i hi with h1 | h1
    · exact h.row i h1
    · exact .inr (Nat.le_trans h.size h1)⟩
theorem rowOf_same {W W' : World} {B : Nat} (h : W'.heap[B]? = W.heap[B]?) : rowOf W' B = rowOf W B := by
  unfold rowOf
  rw [World.cell?_of_block (a := ⟨B, 0, none⟩) h]
/-- where nothing old has changed -/
theorem Kpo.below {B L : Nat} {W W' : World} (b : Below W.heap.size W W') (hB : B < W.heap.size) : Kpo B L W W' :=
  ⟨b.size, b.os, b.tape, b.output, fun k hk _ _ _ => b.block k hk, fun k hk => .inl (by rw [← rowOf_same (b.block B hB)]; exact hk)⟩
/-- where only blocks from c on have changed, which are not the row, the box -/
theorem Kpo.from_ {B L c : Nat} {W W' : World} (b : Below c W W') (hB : B < c) (hc : ∀ k, c ≤ k → k < W.heap.size → W'.heap[k]? = W.heap[k]?) : Kpo B L W W' :=
  ⟨b.size, b.os, b.tape, b.output, fun k hk _ _ _ => by
    rcases Nat.lt_or_ge k c with h | h
    · exact b.block k h
    · exact hc k h hk, fun k hk => .inl (by rw [← rowOf_same (b.block B hB)]; exact hk)⟩

/-- what the caller's loop says between two rounds: the box B holds a slice of the call's own of all stops that have come; the loop's record is as it was -/
structure Pst (w0 : World) (n0 B L : Nat) (rec dfr : Obj) (pre : List (Nat × Bool)) (W : World) : Prop where
  box : ∃ v, Boxed W B 57 v ∧ W.ownsRow n0 62 2 v pre.length (pre.flatMap stp)
  loop : W.heap[L]? = some rec
  defd : W.heap[L - 1]? = some dfr
  below : Below n0 w0 W
  size : L < W.heap.size
end Go.Proofs.YtgpobhnonjdamaaDoor

/- Contracts of the document's Walk and SameStops for layer 7. Conditions: the nodes lie where the slice says, they are a tree, at most 1000 of them. -/
namespace Go.Proofs.YtgpobhnonjdamaaDoor
open Go.ChangeShapes Go.WideShapes Go.ChangeAt Go.RowKit

/-! ### stops in memory -/
def stA (x : Nat × Bool) : Array Value := #[.int .i64 (x.1 : Int), .bool x.2]
theorem stA_list (x : Nat × Bool) : (stA x).toList = stp x := rfl
theorem uT : Tryd.prog.underlying 62 = some (.struct (Tryd.prog.fieldsOf 62)) := by kernel_rfl
theorem iT (x : Nat × Bool) : (Tryd.prog.info? 62).map (·.size) = some (stA x).size := by kernel_rfl
theorem oneT (x : Nat × Bool) : (stA x).all (·.oneCell') = true := by simp [stA, Value.oneCell']
theorem elmT : Elm Tryd.prog 57 62 2 16 := ⟨Tryd.underlying57, ⟨.agg (stA (0, false)), by kernel_rfl, rfl⟩, by decide, by decide⟩
theorem bsT (x : Nat × Bool) (w : World) : (Instr.buildSlice 57 1 #[(0, .agg (stA x))]).run Tryd.prog w = .ok (.slice (some ⟨w.heap.size, 0, none⟩) 1 1) (w.alloc (.cells (stA x) 62)) := by kernel_rfl
theorem rdT {a : Act} {w : World} {o : Oper} (x : Operand) (ho : o.op = .load 62 x) (p : Addr) (hx : a.eval x = .pointer (some p)) (s : Nat × Bool) (hL : Lies w p (stA s)) : (execOp a.eval o).run Tryd.prog w = .ok (.value (.agg (stA s))) w := run_op_load 62 x ho p hx (stA s) _ hL uT rfl (iT s)
theorem neT (s : Nat × Bool) (w : World) : (binOp .neq 62 (.agg (stA s)) (.agg (stA s))).run Tryd.prog w = .ok (.bool false) w := by
  have u1 := Tryd.underlying4
  have u2 := Tryd.underlying3
  unfold stA
  rw [run_neq_struct, show (10000 : Nat) = 9999 + 1 from rfl, run_equalIn_agg w 9999 62 _ _ uT (by kernel_rfl)]
  simp only [Program.fieldsOf, Tryd.underlying62]
  go_simp
/-- v is a slice of stops that reads as xs -/
def Sts (w : World) (v : Value) (xs : List (Nat × Bool)) : Prop := RowN 2 (fun _ => False) w v (xs.map stp)
theorem Sts.below {w w' : World} {v : Value} {l : List (Nat × Bool)} (h : Sts w v l) (b : Below w.heap.size w w') : Sts w' v l := RowN.below h b
theorem Sts.form {w : World} {v : Value} {l : List (Nat × Bool)} (h : Sts w v l) : ∃ A c, v = .slice A l.length c := by
  have := RowN.form h
  rwa [List.length_map] at this
theorem Sts.get {w wx : World} {v : Value} {l : List (Nat × Bool)} (h : Sts w v l) (b : Below w.heap.size w wx) {i : Nat} {s : Nat × Bool} (hi : l[i]? = some s) :
    ∃ a cap o, v = .slice (some a) l.length cap ∧ a.block < w.heap.size ∧ a.add (i * 2) = ⟨a.block, o, none⟩ ∧ Lies wx ⟨a.block, o, none⟩ (stA s) := by
  obtain ⟨a, cap, o, hv, hb, _, ha, hc⟩ := RowN.get h b (x := stp s) (by rw [List.getElem?_map, hi]; rfl) (by simp [stp])
  rw [List.length_map] at hv
  exact ⟨a, cap, o, hv, hb, ha, lies_of rfl hc⟩
theorem flatT (l : List (Nat × Bool)) : l.flatMap stp = (l.map stp).flatten := by rw [List.flatMap_def]
theorem own_sts {w : World} {base n : Nat} {v : Value} {l : List (Nat × Bool)} (h : w.ownsRow base 62 2 v n (l.flatMap stp)) (hn : l.length = n) : Sts w v l := by
  have h2 : RowN 2 (fun b => b < base) w v (l.map stp) := RowN.of_own h (flatT l).symm (by rw [List.length_map]; exact hn) (fun x hx => by
    obtain ⟨s, _, rfl⟩ := List.mem_map.1 hx
    rfl)
  exact RowN.mono (T := fun _ => False) h2 fun _ _ h => h.elim
theorem flatT_len (l : List (Nat × Bool)) : (l.flatMap stp).length = l.length * 2 := by
  induction l with
  | nil => rfl
  | cons x l ih => rw [List.flatMap_cons, List.length_append, ih, List.length_cons]; show 2 + _ = _; omega
theorem flatT_one (l : List (Nat × Bool)) : ∀ u ∈ l.flatMap stp, u.oneCell' = true := fun u hu => by
  obtain ⟨x, _, hx⟩ := List.mem_flatMap.1 hu
  simp [stp] at hx
  rcases hx with rfl | rfl <;> simp [Value.oneCell']
theorem Sts.flat {w : World} {a : Addr} {n c : Nat} {l : List (Nat × Bool)} (h : Sts w (.slice (some a) n c) l) : ∀ j u, (l.flatMap stp)[j]? = some u → w.cell? (a.add j) = some u := fun j u hu => by
  rw [flatT] at hu
  obtain ⟨i, x, j', h1, h2, rfl⟩ := flat_inv 2 (l.map stp) (fun x hx => by obtain ⟨s, _, rfl⟩ := List.mem_map.1 hx; rfl) j u hu
  rcases h with ⟨h, _⟩ | ⟨a', cap', hv, _, h3⟩
  · cases h
  · injection hv with hv1
    injection hv1 with hv1
    subst hv1
    exact h3 i x h1 j' u h2
/-- out = append(out, u...) -/
theorem apT {ops : Array Oper} {Q : Exit → Act → World → Prop} {a : Act} {w : World} {rest : List Oper} {o : Oper} (hg : o.guard = none) (sl x : Operand) (ho : o.op = .call { callee := .builtin .append, args := #[sl, x], argTypes := #[57, 57] })
    (v u : Value) (hs : a.eval sl = v) (hx : a.eval x = u) (base n : Nat) (xs : List Value) (ys : List (Nat × Bool)) (hown : w.ownsRow base 62 2 v n xs) (hu : Sts w u ys) (hpos : 0 < ys.length) (hn : n + ys.length < 4194304) (hbase : base ≤ w.heap.size)
    (h : ∀ v' w', w'.ownsRow base 62 2 v' (n + ys.length) (xs ++ ys.flatMap stp) → Below base w w' → (∀ k, k < w.heap.size → v.ownBlock ≠ some k → w'.heap[k]? = w.heap[k]?) → (v'.ownBlock = v.ownBlock ∨ v'.ownBlock = some w.heap.size) → wpList Tryd.prog ops Q rest (a.put o.dst v') w') : wpList Tryd.prog ops Q (o :: rest) a w := by
  obtain ⟨z, hi0, hzc⟩ := elmT.info
  obtain ⟨i0, hi, hz0, hz1, hz2⟩ := info_agg hi0
  obtain ⟨A, c, rfl⟩ := hu.form
  obtain ⟨ad, rfl⟩ : ∃ ad, A = some ad := by
    rcases hu with ⟨h, h2⟩ | ⟨a', c', hv, _⟩
    · have h3 : ys.length = 0 := by
        have := congrArg List.length h2
        simpa using this
      omega
    · injection hv with hv
      exact ⟨_, hv⟩
  refine wpList_append_own_at _ hg sl x 57 ho base 62 i0 z 2 16 elmT.und hi hz0 hz1 hz2 hzc (by decide) v n xs hs hown ad ys.length c (ys.flatMap stp) hx (flatT_len ys) hu.flat (flatT_one ys) (by unfold maxLen; omega) (by omega) hbase ?_
  intro v' w' h1 h2 _ h4
  refine h v' w' h1 (below_grown h2 hbase fun g hg => ?_) (fun k hk hne => h2.block k hk (fun e => hne e.symm)) h4
  rcases hown.2 with ⟨rfl, _⟩ | ⟨g', cap, cur, rfl, hb, _⟩
  · simp [Value.ownBlock] at hg
  · have e : g' = g := by simpa [Value.ownBlock] using hg
    omega

set_option maxRecDepth 100000 in
set_option maxHeartbeats 4000000 in
theorem rkids_own (l : List Nod) (v : Value) (a : Nat) (w : World) (hR : Ns w v l) (hn : l.length ≤ 1000) :
    Calls Tryd.prog 20 #[v, .int .i64 (a : Int)] w fun e w' => ∃ u, e = .returned u ∧ Row (fun k => k < w.heap.size) w' u ((kidsL (psOf l) a).map iv) ∧ Below w.heap.size w w' := by
  have HR := Lib.hid hR
  have FIN : Hid (kidsL (psOf l) a = kidsT (psOf l) a l.length) := Lib.hid (by unfold kidsL kidsT; rw [psOf_len])
  obtain ⟨A, cap, rfl⟩ := hR.form
  obtain ⟨n, hl⟩ : ∃ n, l.length = n := ⟨_, rfl⟩
  have HL := Lib.hid hl
  rw [hl] at hn HR FIN ⊢
  obtain ⟨ks, hks⟩ : ∃ ks, kidsL (psOf l) a = ks := ⟨_, rfl⟩
  rw [hks] at FIN ⊢
  clear hR hl hks
  go_enter Tryd.func20, Tryd.ntmps20
  go_wp2_with fail
  go_loopg [5, 6] n (fun kx s5 s6 wr => ∃ (k : Nat) (v0 : Value) (m : Nat), s6 = .int .i64 k ∧ v0 = s5 ∧ k ≤ n ∧ kx = n - k ∧ m ≤ k ∧ Hid (m = (kidsT (psOf l) a k).length) ∧ Below w.heap.size w wr ∧ wr.ownsRow w.heap.size 3 1 v0 m ((kidsT (psOf l) a k).map iv))
  case atStart => exact ⟨0, _, 0, rfl, rfl, by omega, rfl, by omega, Lib.hid rfl, Below.refl _ _, ⟨rfl, .inl ⟨rfl, rfl⟩⟩⟩
  case round =>
    obtain ⟨k, v0, m, rfl, rfl, hk, rfl, hmk, HM, bel, hown⟩ := hrel
    have HOWN := Lib.hid hown
    clear hown
    by_cases hlt : k < n
    · have hkl : k < l.length := by rw [HL.out]; exact hlt
      have hz : (k : Int) < n := by omega
      obtain ⟨x, hx⟩ := at_of hkl
      have hp := pr_of hx
      have hs := kidsT_succ (psOf l) a k
      rw [hp] at hs
      obtain ⟨ad, cap2, o, hv, _, ha, hLi⟩ := HR.out.get bel hx
      rw [HL.out] at hv
      injection hv with hv1 hv2 hv3
      subst hv1 hv3
      have hc := hLi.p
      obtain ⟨p, hpp⟩ : ∃ p, x.p = p := ⟨_, rfl⟩
      rw [hpp] at hc hs
      have hbs := bel.size
      clear hv2 hx hp hpp hLi hkl
      by_cases he : p = (a : Int)
      · have HS : Hid (kidsT (psOf l) a (k + 1) = kidsT (psOf l) a k ++ [k]) := Lib.hid (by rw [hs, if_pos he])
        subst he
        clear hs
        go_wp2_with (refine apI rfl (.tmp 21) rfl 22 rfl rfl (.tmp 20) rfl (k : Int) rfl v0 (fun _ => rfl) (fun _ => rfl) w.heap.size m _ HOWN.out (by omega) hbs ?_; intro uu v5 w5 hown5 b5)
        go_roundg (n - (k + 1))
        case measure => omega
        case rel => exact ⟨k + 1, _, m + 1, by go_num, rfl, by omega, rfl, by omega, Lib.hid (by rw [HS.out, List.length_append, ← HM.out]; rfl), bel.trans b5, by rw [HS.out, List.map_append]; exact hown5⟩
      · have HS : Hid (kidsT (psOf l) a (k + 1) = kidsT (psOf l) a k) := Lib.hid (by rw [hs, if_neg he])
        have he2 : ((p == (a : Int)) = false) := by simpa using he
        clear hs
        go_wp2_with fail
        go_roundg (n - (k + 1))
        case measure => omega
        case rel => exact ⟨k + 1, _, m, by go_num, rfl, by omega, rfl, by omega, Lib.hid (by rw [HS.out]; exact HM.out), bel, by rw [HS.out]; exact HOWN.out⟩
    · obtain rfl : k = n := by omega
      go_wp2_with fail
      go_ret
      refine ⟨_, rfl, ?_, bel⟩
      rw [FIN.out]
      exact Row.of_own HOWN.out

/-! ### how long a walk is -/
theorem Chn.len_ {ps : List Int} {e n : Nat} {l : List Nat} (h : Chn ps e n l) (g : Nat → List (Nat × Bool)) (hg : ∀ k f, k ∈ l → EndOf ps k f → (g k).length = 2 * (f - k)) : (l.flatMap g).length = 2 * (e - n) ∧ n ≤ e := by
  induction h with
  | nil => exact ⟨by simp, Nat.le_refl _⟩
  | cons hf _ ih =>
    rename_i n f l _
    obtain ⟨h1, h2⟩ := ih fun k f hk => hg k f (List.mem_cons_of_mem _ hk)
    have h3 := hg n f (List.mem_cons_self ..) hf
    have h4 := hf.lt
    rw [List.flatMap_cons, List.length_append, h1, h3]
    omega
theorem wlk_len {ps : List Int} (h : Tre ps) : ∀ f n e, ps.length ≤ n + f → 0 < f → EndOf ps n e → (wlk ps f n).length = 2 * (e - n) := by
  intro f
  induction f with
  | zero => intro n e _ h0; omega
  | succ f ih =>
    intro n e hn _ he
    obtain ⟨h1, h2⟩ := (kids_chain h he).len_ (wlk ps f) (fun k f' hk hf' => by
      obtain ⟨m1, m2⟩ := mem_kids hk
      have h3 := (h.lt k (by omega)).1
      rw [m2, Int.toNat_natCast] at h3
      exact ih k f' (by omega) (by omega) hf')
    show ((n, true) :: ((kidsL ps n).flatMap (wlk ps f) ++ [(n, false)])).length = _
    simp only [List.length_cons, List.length_append, List.length_nil, h1]
    omega
theorem walkL_len {ps : List Int} (h : Tre ps) {n e : Nat} (hn : n < ps.length) (he : EndOf ps n e) : (walkL ps n).length = 2 * (e - n) :=
  wlk_len h _ n e (by omega) (by omega) he
theorem walkL_le {ps : List Int} (h : Tre ps) {n : Nat} (hn : n < ps.length) : (walkL ps n).length ≤ 2 * ps.length ∧ 0 < (walkL ps n).length := by
  obtain ⟨e, he⟩ := EndOf.exists_ (ps := ps) n hn
  rw [walkL_len h hn he]
  have := he.le
  have := he.lt
  omega
/-- what has been walked when i kids have -/
def walkP (ps : List Int) (n i : Nat) : List (Nat × Bool) := (n, true) :: ((kidsL ps n).take i).flatMap (walkL ps)
theorem walkP_succ {ps : List Int} {n i k : Nat} (h : (kidsL ps n)[i]? = some k) : walkP ps n (i + 1) = walkP ps n i ++ walkL ps k := by
  unfold walkP
  rw [List.take_add_one, h, List.flatMap_append]
  simp
theorem walkP_end {ps : List Int} (h : Tre ps) {n i : Nat} (hn : n < ps.length) (hi : (kidsL ps n).length ≤ i) : walkL ps n = walkP ps n i ++ [(n, false)] := by
  rw [walkL_step h hn]
  unfold walkP
  rw [List.take_of_length_le hi]
  rfl
theorem walkP_le {ps : List Int} (h : Tre ps) {n : Nat} (hn : n < ps.length) (i : Nat) : (walkP ps n i).length ≤ 2 * ps.length := by
  have h1 := (walkL_le h hn).1
  rw [walkP_end h hn (Nat.le_refl _), List.length_append] at h1
  have h2 : (walkP ps n i).length ≤ (walkP ps n (kidsL ps n).length).length := by
    unfold walkP
    rw [List.take_length]
    simp only [List.length_cons]
    have h3 := List.take_append_drop i (kidsL ps n)
    have h4 : (kidsL ps n).flatMap (walkL ps) = ((kidsL ps n).take i).flatMap (walkL ps) ++ ((kidsL ps n).drop i).flatMap (walkL ps) := by rw [← List.flatMap_append, h3]
    rw [h4, List.length_append]
    omega
  omega

set_option maxRecDepth 100000 in
set_option maxHeartbeats 8000000 in
theorem rwalk_any (l : List Nod) (v : Value) (hT : Tre (psOf l)) (hn : l.length ≤ 1000) : ∀ (m n : Nat) (w : World), l.length ≤ n + m → n < l.length → Ns w v l →
    Calls Tryd.prog 28 #[v, .int .i64 (n : Int)] w fun e w' => ∃ u, e = .returned u ∧ Sts w' u (walkL (psOf l) n) ∧ Below w.heap.size w w' := by
  intro m
  induction m with
  | zero => intro n w h1 h2; omega
  | succ m ih =>
    intro n w hnm hnl hR
    have IH : Hid (∀ (k : Nat) (W : World), n < k → k < l.length → Below w.heap.size w W → Calls Tryd.prog 28 #[v, .int .i64 (k : Int)] W fun e w' => ∃ u, e = .returned u ∧ Sts w' u (walkL (psOf l) k) ∧ Below W.heap.size W w') := Lib.hid fun k W h1 h2 b => ih k W (by omega) h2 (hR.below b)
    have CK := Lib.hid fun W (b : Below w.heap.size w W) => rkids_own l v n W (hR.below b) hn
    have hps := psOf_len l
    have HW : Hid (∀ i, (kidsL (psOf l) n).length ≤ i → walkL (psOf l) n = walkP (psOf l) n i ++ [(n, false)]) := Lib.hid fun i hi => walkP_end hT (by omega) hi
    have HK : Hid (∀ i k, (kidsL (psOf l) n)[i]? = some k → n < k ∧ k < l.length ∧ (walkL (psOf l) k).length ≤ 2000 ∧ 0 < (walkL (psOf l) k).length ∧ walkP (psOf l) n (i + 1) = walkP (psOf l) n i ++ walkL (psOf l) k) := Lib.hid fun i k hk => by
      obtain ⟨h1, h2⟩ := mem_kids (List.mem_of_getElem? hk)
      have h3 := (hT.lt k (by omega)).1
      rw [h2, Int.toNat_natCast] at h3
      obtain ⟨h4, h5⟩ := walkL_le hT h1
      exact ⟨h3, by omega, by omega, h5, walkP_succ hk⟩
    have HP : Hid (∀ i, (walkP (psOf l) n i).length ≤ 2000) := Lib.hid fun i => by
      have := walkP_le hT (n := n) (by omega) i
      omega
    have hkl : (kidsL (psOf l) n).length ≤ 1000 := Nat.le_trans (kidsL_len _ _) (by omega)
    obtain ⟨A, cap, rfl⟩ := hR.form
    obtain ⟨N, hl⟩ : ∃ N, l.length = N := ⟨_, rfl⟩
    have HLN := Lib.hid hl
    rw [hl] at IH CK ⊢
    clear ih hR hps hl
    go_enter Tryd.func28, Tryd.ntmps28
    go_wp2_with fail
    have B1 := Blk.new w 62 (stA (n, true))
    have own1 : (w.alloc (.cells (stA (n, true)) 62)).ownsRow w.heap.size 62 2 (.slice (some ⟨w.heap.size, 0, none⟩) 1 1) 1 (stp (n, true)) := ⟨rfl, .inr ⟨w.heap.size, 1, _, rfl, Nat.le_refl _, B1, Nat.le_refl _, by unfold maxLen; omega, rfl, rfl⟩⟩
    have b1 := below_alloc w (.cells (stA (n, true)) 62)
    have hw1' : w.alloc (.cells #[.int .i64 (n : Int), .bool true] 62) = w.alloc (.cells (stA (n, true)) 62) := rfl
    rw [hw1']
    obtain ⟨w1, hw1⟩ : ∃ w1, w.alloc (.cells (stA (n, true)) 62) = w1 := ⟨_, rfl⟩
    have hs1 : w1.heap.size = w.heap.size + 1 := by rw [← hw1]; simp
    rw [hw1] at own1 b1 ⊢
    clear hw1 hw1' B1
    refine (CK.out w1 b1).mono ?_
    rintro e w2 ⟨u, rfl, hu, b2⟩
    have b02 := below_seq b1 b2
    have own2 := own_kept own1 b2
    obtain ⟨B, cap2, rfl⟩ := hu.form
    rw [List.length_map] at hu ⊢
    have HU := Lib.hid hu
    obtain ⟨q, hq⟩ : ∃ q, (kidsL (psOf l) n).length = q := ⟨_, rfl⟩
    have HQ := Lib.hid hq
    rw [hq] at hkl HU ⊢
    have hq2 : Hid (∀ i, q ≤ i → walkL (psOf l) n = walkP (psOf l) n i ++ [(n, false)]) := Lib.hid fun i hi => HW.out i (by rw [HQ.out]; exact hi)
    clear hu own1 CK hq HW
    have hu0 : Row (fun k => (Value.slice (some ⟨w.heap.size, 0, none⟩) 1 1).ownBlock = some k) w2 (.slice B q cap2) ((kidsL (psOf l) n).map iv) := HU.out.mono fun k _ h => by
      have : w.heap.size = k := by simpa [Value.ownBlock] using h
      show k < w1.heap.size
      omega
    have HU0 := Lib.hid hu0
    clear hu0 HU
    go_wp2_with fail
    go_loopg [5, 7] q (fun kx s5 s7 wr => ∃ (i m' : Nat) (v0 : Value), s7 = .int .i64 i ∧ v0 = s5 ∧ i ≤ q ∧ kx = q - i ∧ m' ≤ 2000 ∧ Hid (m' = (walkP (psOf l) n i).length) ∧ Below w.heap.size w wr ∧ wr.ownsRow w.heap.size 62 2 v0 m' ((walkP (psOf l) n i).flatMap stp) ∧ Hid (Row (fun k => v0.ownBlock = some k) wr (.slice B q cap2) ((kidsL (psOf l) n).map iv)))
    case atStart =>
      refine ⟨0, 1, _, rfl, rfl, by omega, rfl, by omega, Lib.hid rfl, b02, ?_, HU0⟩
      show w2.ownsRow w.heap.size 62 2 _ 1 ([(n, true)].flatMap stp)
      exact own2
    case round =>
      obtain ⟨i, m', v0, rfl, rfl, hi, rfl, hm', HM, bel, hown, HU⟩ := hrel
      have HOWN := Lib.hid hown
      have hbs := bel.size
      clear hown own2 HU0 b02
      by_cases hlt : i < q
      · have hiz : (i : Int) < q := by omega
        have hil : i < (kidsL (psOf l) n).length := by rw [HQ.out]; exact hlt
        obtain ⟨k, hk⟩ : ∃ k, (kidsL (psOf l) n)[i]? = some k := ⟨_, List.getElem?_eq_getElem hil⟩
        obtain ⟨hk1, hk2, hk3, hk4, hk5⟩ := HK.out i k hk
        obtain ⟨ad, cap3, hv, hab, _, hcell⟩ := HU.out.at_ (by rw [List.length_map]; omega)
        rw [List.length_map, HQ.out] at hv
        injection hv with hv1 hv2 hv3
        subst hv1 hv3
        have hc : wr.cell? (ad.add i) = some (.int .i64 (k : Int)) := hcell i _ (by rw [List.getElem?_map, hk]; rfl)
        have HK2 := Lib.hid hk2
        have HK4 := Lib.hid hk4
        have HK5 := Lib.hid hk5
        have C := Lib.hid (IH.out k wr hk1 (by rw [← HLN.out]; exact hk2) bel)
        have hm2 : m' + (walkL (psOf l) k).length ≤ 2000 := by
          have h1 := HP.out (i + 1)
          rw [hk5, List.length_append, ← HM.out] at h1
          exact h1
        clear hv2 hcell hk hil hk1 hk2 hk4 hk5
        go_wp2_with fail
        refine C.out.mono ?_
        rintro e w5 ⟨u5, rfl, hu5, b5⟩
        have own5 := own_kept HOWN.out b5
        have hU5 := HU.out.below b5
        have hbs5 := Nat.le_trans hbs b5.size
        have bel5 := bel.trans (b5.mono bel.size)
        have HU5 := Lib.hid hu5
        have HKU := Lib.hid hU5
        clear HOWN HU hu5 hU5 hc C
        go_wp2_with (refine apT rfl (.tmp 20) (.tmp 26) rfl v0 u5 rfl rfl w.heap.size m' _ (walkL (psOf l) k) own5 HU5.out HK4.out (by omega) hbs5 ?_; intro v6 w6 own6 b6 o6 ob6)
        go_roundg (q - (i + 1))
        case measure => omega
        case rel =>
          refine ⟨i + 1, _, _, by go_num, rfl, by omega, rfl, hm2, Lib.hid ?_, bel5.trans b6, ?_, Lib.hid ?_⟩
          · rw [HK5.out, List.length_append, HM.out]
          · rw [HK5.out, List.flatMap_append]; exact own6
          · have h1 := (HKU.out.mono (T := fun k => v0.ownBlock = some k ∨ w5.heap.size ≤ k) fun k hk h => by
              rcases h with h | h
              · exact h
              · omega).keep (w' := w6) (T := fun k => v0.ownBlock = some k ∨ w5.heap.size ≤ k) ⟨b6.os, b6.tape, b6.output, b6.size, fun k hk hne => o6 k hk (fun e => hne (.inl e))⟩ (fun _ _ h => h)
            refine h1.mono fun k _ h => ?_
            rcases ob6 with h2 | h2
            · exact .inl (h2.symm.trans h)
            · rw [h2] at h
              injection h with h
              exact .inr (by omega)
      · obtain rfl : i = q := by omega
        have HF := Lib.hid (hq2.out i (Nat.le_refl _))
        clear HU IH
        go_wp2_with (refine apG elmT rfl (.tmp 30) rfl 31 rfl rfl (.tmp 28) rfl (.agg (stA (n, false))) (stA (n, false)) rfl rfl (oneT _) (bsT _) v0 (fun _ => rfl) (fun _ => rfl) w.heap.size m' _ HOWN.out (by omega) hbs ?_; intro uu v6 w6 own6 b6)
        go_ret
        refine ⟨_, rfl, ?_, bel.trans b6⟩
        refine own_sts (base := w.heap.size) (n := m' + 1) ?_ ?_
        · rw [HF.out, List.flatMap_append]; exact own6
        · rw [HF.out, List.length_append, ← HM.out]; rfl

set_option maxRecDepth 100000 in
set_option maxHeartbeats 4000000 in
theorem rstops_any (v1 v2 : Value) (xs : List (Nat × Bool)) (w : World) (h1 : Sts w v1 xs) (h2 : Sts w v2 xs) (hn : xs.length ≤ 1000000) :
    Calls Tryd.prog 27 #[v1, v2] w fun e w' => e = .returned (.bool true) ∧ Below w.heap.size w w' := by
  have H1 := Lib.hid h1
  have H2 := Lib.hid h2
  obtain ⟨A, c, rfl⟩ := h1.form
  obtain ⟨B, c2, rfl⟩ := h2.form
  obtain ⟨n, hl⟩ : ∃ n, xs.length = n := ⟨_, rfl⟩
  have HL := Lib.hid hl
  rw [hl] at hn H1 H2 ⊢
  clear h1 h2 hl
  go_enter Tryd.func27, Tryd.ntmps27
  go_wp2_with fail
  go_loopg [5] n (fun kx s5 wr => ∃ k : Nat, s5 = .int .i64 k ∧ k ≤ n ∧ kx = n - k ∧ Below w.heap.size w wr)
  case atStart => exact ⟨0, rfl, by omega, rfl, Below.refl _ _⟩
  case round =>
    obtain ⟨k, rfl, hk, rfl, bel⟩ := hrel
    by_cases hlt : k < n
    · have hz : (k : Int) < n := by omega
      have hkl : k < xs.length := by rw [HL.out]; exact hlt
      obtain ⟨s, hs⟩ : ∃ s, xs[k]? = some s := ⟨_, List.getElem?_eq_getElem hkl⟩
      obtain ⟨a1, cap1, o1, hv, _, ha1, hL1⟩ := H1.out.get bel hs
      rw [HL.out] at hv
      injection hv with hv1 hv2 hv3
      subst hv1 hv3
      obtain ⟨a2, cap2, o2, hv, _, ha2, hL2⟩ := H2.out.get bel hs
      rw [HL.out] at hv
      injection hv with hv1 hv4 hv3
      subst hv1 hv3
      have HNE := Lib.hid (fun w => neT s w)
      clear hv2 hv4 hkl hs
      go_wp2_with fail
      refine region_any (by kernel_rfl) (fun W => Below wr.heap.size wr W) (below_drewN (Below.refl _ _) 1) (fun R hR => ?_)
      refine AllS.take (i := 0) (v := ?_) (by rw [List.getElem?_toArray]; rfl) (by kernel_rfl) (by kernel_rfl) (by kernel_rfl) (KeepsIf.read (by rfl) ?_) ?_
      rotate_left
      · intro W hSw
        (try dsimp only at hSw)
        go_simp
        (try with_reducible rfl)
      rotate_left
      (try simp only [Act.put, List.setIfInBounds_toArray, List.set_cons_zero, List.set_cons_succ])
      refine AllS.take (i := 1) (v := ?_) (by rw [List.getElem?_toArray]; rfl) (by kernel_rfl) (by kernel_rfl) (by kernel_rfl) (KeepsIf.read (by rfl) ?_) ?_
      rotate_left
      · intro W hSw
        (try dsimp only at hSw)
        go_simp
        (try with_reducible rfl)
      rotate_left
      (try simp only [Act.put, List.setIfInBounds_toArray, List.set_cons_zero, List.set_cons_succ])
      refine AllS.take (i := 2) (v := ?_) (by rw [List.getElem?_toArray]; rfl) (by kernel_rfl) (by kernel_rfl) (by kernel_rfl) (KeepsIf.read (by rfl) ?_) ?_
      rotate_left
      · intro W hSw
        (try dsimp only at hSw)
        go_simp
        (try with_reducible rfl)
      rotate_left
      (try simp only [Act.put, List.setIfInBounds_toArray, List.set_cons_zero, List.set_cons_succ])
      refine AllS.take (i := 3) (v := .agg (stA s)) (by rw [List.getElem?_toArray]; rfl) (by kernel_rfl) (by kernel_rfl) (by kernel_rfl) (KeepsIf.read (by rfl) (fun W hSw => ?_)) ?_
      · (try dsimp only at hSw)
        exact rdT (.tmp 19) rfl _ rfl s (ha1 ▸ hL1.below hSw)
      (try simp only [Act.put, List.setIfInBounds_toArray, List.set_cons_zero, List.set_cons_succ])
      refine AllS.take (i := 4) (v := ?_) (by rw [List.getElem?_toArray]; rfl) (by kernel_rfl) (by kernel_rfl) (by kernel_rfl) (KeepsIf.read (by rfl) ?_) ?_
      rotate_left
      · intro W hSw
        (try dsimp only at hSw)
        go_simp
        (try with_reducible rfl)
      rotate_left
      (try simp only [Act.put, List.setIfInBounds_toArray, List.set_cons_zero, List.set_cons_succ])
      refine AllS.take (i := 5) (v := ?_) (by rw [List.getElem?_toArray]; rfl) (by kernel_rfl) (by kernel_rfl) (by kernel_rfl) (KeepsIf.read (by rfl) ?_) ?_
      rotate_left
      · intro W hSw
        (try dsimp only at hSw)
        go_simp
        (try with_reducible rfl)
      rotate_left
      (try simp only [Act.put, List.setIfInBounds_toArray, List.set_cons_zero, List.set_cons_succ])
      refine AllS.take (i := 6) (v := ?_) (by rw [List.getElem?_toArray]; rfl) (by kernel_rfl) (by kernel_rfl) (by kernel_rfl) (KeepsIf.read (by rfl) ?_) ?_
      rotate_left
      · intro W hSw
        (try dsimp only at hSw)
        go_simp
        (try with_reducible rfl)
      rotate_left
      (try simp only [Act.put, List.setIfInBounds_toArray, List.set_cons_zero, List.set_cons_succ])
      refine AllS.take (i := 7) (v := .agg (stA s)) (by rw [List.getElem?_toArray]; rfl) (by kernel_rfl) (by kernel_rfl) (by kernel_rfl) (KeepsIf.read (by rfl) (fun W hSw => ?_)) ?_
      · (try dsimp only at hSw)
        exact rdT (.tmp 23) rfl _ rfl s (ha2 ▸ hL2.below hSw)
      (try simp only [Act.put, List.setIfInBounds_toArray, List.set_cons_zero, List.set_cons_succ])
      refine AllS.take (i := 8) (v := .bool false) (by rw [List.getElem?_toArray]; rfl) (by kernel_rfl) (by kernel_rfl) (by kernel_rfl) (KeepsIf.read (by rfl) (fun W hSw => ?_)) ?_
      · (try dsimp only at hSw)
        have hq := HNE.out; go_simp
      (try simp only [Act.put, List.setIfInBounds_toArray, List.set_cons_zero, List.set_cons_succ])
      refine AllS.done (by kernel_rfl) (hR.out _ ?_) _
      clear hR R
      intro w2 b2
      go_wp2_with fail
      go_roundg (n - (k + 1))
      case measure => omega
      case rel => exact ⟨k + 1, by go_num, by omega, rfl, below_seq bel b2⟩
    · obtain rfl : k = n := by omega
      go_wp2_with fail
      go_ret
      exact ⟨rfl, bel⟩
end Go.Proofs.YtgpobhnonjdamaaDoor
