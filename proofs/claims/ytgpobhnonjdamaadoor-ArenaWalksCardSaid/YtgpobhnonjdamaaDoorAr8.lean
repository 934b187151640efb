/- Contracts of strings.Clone, slices.Clone at nodes, slices.Backward at nodes (a function that is ranged over). Conditions: lengths within what memory holds; the nodes lie where the slice says. -/
import Derived.Test.YtgpobhnonjdamaaDoorAr5
import Derived.Test.YtgpobhnonjdamaaDoorYApp
import Derived.Lib.Strings
import Derived.Lib.Walk
import Derived.Lib.BufferWrite
import Derived.Lib.UnsafeStr
import Derived.Laws.MakeOwn
namespace Go.Proofs.YtgpobhnonjdamaaDoor
open Go.ChangeShapes Go.WideShapes Go.ChangeAt Go.RowKit Go.Shelf

theorem infoU : (Tryd.prog.info? 5).map (fun i => (i.zero, i.size, i.bytes)) = some (some (.int .u8 0), 1, 1) := by kernel_rfl

set_option maxHeartbeats 4000000 in
set_option maxRecDepth 100000 in
theorem lclone_any (s : ByteArray) (w : World) (hlim : s.size ≤ 281474976710656) :
    Calls Tryd.prog 46 #[.string s] w fun e w' => e = .returned (.string s) ∧ Below w.heap.size w w' := by
  by_cases h0 : s.size = 0
  · have hs : s = ⟨#[]⟩ := by
      apply ByteArray.ext
      exact Array.eq_empty_of_size_eq_zero h0
    subst hs
    go_enter Tryd.func46, Tryd.ntmps46
    go_wp2
    go_ret
    exact ⟨rfl, Below.refl _ _⟩
  · obtain ⟨i0, hi, hz0, hz1, hz2⟩ := info_agg infoU
    have hinfo : (Tryd.prog.info? 5).map (·.size) = some 1 := by rw [hi]; simp [hz1]
    have hco : Tryd.prog.cellsOf 5 = 1 := by simp [Program.cellsOf, hi, hz1]
    obtain ⟨M, hM⟩ : ∃ M, M = madeCells (Value.int .u8 0).cells (((s.size : Nat) : Int).toNat * i0.size) := ⟨_, rfl⟩
    have hMs : M.size = s.size := by rw [hM, size_madeCells, hz1]; simp
    have hmk : ∀ W : World, (Instr.makeSlice 106 (.int .i64 (s.size : Int)) (.int .i64 (s.size : Int))).run Tryd.prog W = .ok (.slice (some ⟨W.heap.size, 0, none⟩) s.size s.size) (W.alloc (.cells M 5)) := fun W => by
      have h := run_make (P := Tryd.prog) W 106 5 i0 (.int .u8 0) Tryd.underlying106 hi hz0 .i64 .i64 (s.size : Int) (s.size : Int) (by omega) (by omega) (by rw [hz2]; omega) (by omega)
      rw [← hM] at h
      simpa using h
    clear hM
    have hcp := Lib.run_copy_row_string (P := Tryd.prog) (w.alloc (.cells M 5)) 106 9 3 5 w.heap.size 0 s.size s.size s M 5 Tryd.underlying106 hinfo (heap_alloc_new w _) (Nat.le_refl _) (by omega)
    obtain ⟨Y, hY⟩ : ∃ Y, Y = (M.toList.take 0 ++ Lib.byteCells s.data.toList ++ M.toList.drop (0 + s.size)).toArray := ⟨_, rfl⟩
    rw [← hY] at hcp
    have hYl : Y.toList = Lib.byteCells s.data.toList := by
      rw [hY, List.toList_toArray, List.take_zero, List.nil_append, List.drop_of_length_le (by rw [Array.length_toList]; omega), List.append_nil]
    have hYs : Y.size = s.size := by rw [← Array.length_toList, hYl, Lib.byteCells_length, ← Lib.size_eq]
    have hgY : ((w.alloc (.cells M 5)).setRow w.heap.size Y).heap[w.heap.size]? = some (.cells Y 5 (0, 0)) := setRow_heap _ _ M _ 5 (0, 0) (heap_alloc_new w _)
    have hne : s.data.toList ≠ [] := fun e => h0 (by rw [Lib.size_eq, e]; rfl)
    have hUS := Lib.run_unsafeString_row (P := Tryd.prog) ((w.alloc (.cells M 5)).setRow w.heap.size Y) 107 3 9 5 Tryd.underlying107 hco w.heap.size Y.size (by unfold World.shape?; rw [hgY]) s.data.toList hne (by rw [← Lib.size_eq]; omega) (by rw [← Lib.size_eq]; omega)
      (fun j x hx => Lib.cells_of_row hgY Y.size j _ (by rw [List.take_of_length_le (by rw [Array.length_toList]; exact Nat.le_refl _), hYl]; simp [Lib.byteCells, hx]))
    rw [← Lib.size_eq] at hUS
    clear hY
    go_enter Tryd.func46, Tryd.ntmps46
    go_wp2
    go_ret
    have hb1 : Below w.heap.size w (w.alloc (.cells M 5)) := (Below.refl _ w).alloc (Nat.le_refl _) _
    have hb2 : Below w.heap.size (w.alloc (.cells M 5)) ((w.alloc (.cells M 5)).setRow w.heap.size Y) := ⟨rfl, rfl, rfl, by simp, fun k hk => setRow_other _ _ _ _ (by omega)⟩
    exact ⟨rfl, Lib.below_freeze (hb1.trans hb2) (p := ⟨w.heap.size, 0, none⟩) (Nat.le_refl _) _⟩
set_option maxHeartbeats 1000000 in
theorem sclone_any (s : ByteArray) (w : World) (hlim : s.size ≤ 281474976710656) :
    Calls Tryd.prog 35 #[.string s] w fun e w' => e = .returned (.string s) ∧ Below w.heap.size w w' := by
  have C := Lib.hid (lclone_any s w hlim)
  go_enter Tryd.func35, Tryd.ntmps35
  go_wp2_with fail
  refine C.out.mono ?_
  rintro e w2 ⟨rfl, b2⟩
  go_wp2_with fail
  go_ret
  exact ⟨rfl, b2⟩

/-! ### slices.Clone -/
def flatN (l : List Nod) : List Value := (l.map fun s => s.cells.toList).flatten
theorem flatN_len (l : List Nod) : (flatN l).length = l.length * 22 := by
  unfold flatN
  induction l with
  | nil => rfl
  | cons d l ih =>
    rw [List.map_cons, List.flatten_cons, List.length_append, ih, List.length_cons, Nat.succ_mul]
    show 22 + l.length * 22 = l.length * 22 + 22
    omega
theorem flatN_one (l : List Nod) : ∀ u ∈ flatN l, u.oneCell' = true := fun u hu => by
  obtain ⟨x, hx, hu2⟩ := List.mem_flatten.1 hu
  obtain ⟨d, _, rfl⟩ := List.mem_map.1 hx
  exact (Array.all_eq_true_iff_forall_mem.1 (oneN d)) u (by simpa using hu2)
theorem flatN_get {l : List Nod} {i : Nat} {x : Nod} (hi : l[i]? = some x) {j : Nat} {v : Value} (hv : x.cells[j]? = some v) : (flatN l)[i * 22 + j]? = some v :=
  flat_get 22 _ (fun y hy => by obtain ⟨d, _, rfl⟩ := List.mem_map.1 hy; rfl) i x.cells.toList (by rw [List.getElem?_map, hi]; rfl) j v (by simpa using hv)
theorem flat_inv (k : Nat) : ∀ (rows : List (List Value)), (∀ x ∈ rows, x.length = k) → ∀ (j : Nat) (u : Value), rows.flatten[j]? = some u → ∃ i x j', rows[i]? = some x ∧ x[j']? = some u ∧ j = i * k + j'
  | [], _, j, u, h => by simp at h
  | r :: rows, hk, j, u, h => by
    have hr := hk r (List.mem_cons_self ..)
    rw [List.flatten_cons] at h
    by_cases hj : j < r.length
    · rw [List.getElem?_append_left hj] at h
      exact ⟨0, r, j, rfl, h, by simp⟩
    · rw [List.getElem?_append_right (by omega)] at h
      obtain ⟨i, x, j', h1, h2, h3⟩ := flat_inv k rows (fun x hx => hk x (List.mem_cons_of_mem _ hx)) _ u h
      exact ⟨i + 1, x, j', by simpa using h1, h2, by rw [Nat.succ_mul]; omega⟩
theorem Ns.flat {w : World} {a : Addr} {n c : Nat} {l : List Nod} (h : Ns w (.slice (some a) n c) l) : ∀ j u, (flatN l)[j]? = some u → w.cell? (a.add j) = some u := fun j u hu => by
  obtain ⟨i, x, j', h1, h2, h3⟩ := flat_inv 22 _ (fun x hx => by obtain ⟨d, _, rfl⟩ := List.mem_map.1 hx; rfl) j u hu
  rcases h with ⟨h, _⟩ | ⟨a', cap', hv, _, hc⟩
  · cases h
  · injection hv with hv1 _ _
    injection hv1 with hv1
    subst hv1
    rw [h3]
    exact hc i x h1 j' u h2
theorem infoN : (Tryd.prog.info? 37).map (fun i => (i.zero, i.size, i.bytes)) = some (some (.agg Nod.zero.cells), 22, 160) := by kernel_rfl
theorem bsN0 (w : World) : (Instr.buildSlice 22 0 #[]).run Tryd.prog w = .ok (.slice (some ⟨w.heap.size, 0, none⟩) 0 0) (w.alloc (.cells #[] 37)) := by kernel_rfl
theorem nilN (a : Addr) (n c : Nat) (w : World) : (binOp .eql 22 (.slice (some a) n c) (.slice none 0 0)).run Tryd.prog w = .ok (.bool false) w := by kernel_rfl
theorem own_emptyN (w : World) (base : Nat) (hb : base ≤ w.heap.size) : (w.alloc (.cells #[] 37)).ownsRow base 37 22 (.slice (some ⟨w.heap.size, 0, none⟩) 0 0) 0 [] :=
  ⟨rfl, .inr ⟨w.heap.size, 0, #[], rfl, hb, heap_alloc_new w _, Nat.le_refl _, Nat.zero_le _, rfl, rfl⟩⟩

set_option maxRecDepth 100000 in
set_option maxHeartbeats 2000000 in
theorem nclone_any (l : List Nod) (v : Value) (w : World) (hR : Ns w v l) (hlen : l.length ≤ 1048576) (hpos : 0 < l.length) :
    Calls Tryd.prog 33 #[v] w fun e w' => ∃ u, e = .returned u ∧ w'.ownsRow w.heap.size 37 22 u l.length (flatN l) ∧ Below w.heap.size w w' := by
  have HR := Lib.hid hR
  obtain ⟨A, cap, rfl⟩ := hR.form
  rcases hR with ⟨h, h2⟩ | ⟨a, cap', hv, hb, hc⟩
  · have : l.length = 0 := by
      have := congrArg List.length h2
      simpa using this
    omega
  · injection hv with hv1 hv2 hv3
    subst hv1 hv3
    obtain ⟨n, hl⟩ : ∃ n, l.length = n := ⟨_, rfl⟩
    have HL := Lib.hid hl
    rw [hl] at hlen hpos HR ⊢
    obtain ⟨i0, hi, hz0, hz1, hz2⟩ := info_agg infoN
    have hfl := flatN_len l
    rw [hl] at hfl
    have hbs := bsN0 w
    have hnil := nilN a n cap w
    clear hb hc hv2 hl
    go_enter Tryd.func33, Tryd.ntmps33
    go_wp2_with (refine wpList_append_own _ rfl (.tmp 5) (.tmp 6) 22 rfl w.heap.size 37 i0 (.agg Nod.zero.cells) 22 160 Tryd.underlying22 hi hz0 hz1 hz2 rfl (by decide) _ 0 [] rfl (own_emptyN w w.heap.size (Nat.le_refl _)) a n cap (flatN l) rfl hfl (fun j u hu => (HR.out.below (below_alloc w _)).flat j u hu) (flatN_one l) (by unfold maxLen; omega) (by omega) (by simp) ?_; intro v' w3 hown' hgrow _)
    go_ret
    refine ⟨v', rfl, ?_, ?_⟩
    · simpa using hown'
    · exact (below_alloc w _).trans (below_grown hgrow (by simp) (fun g hg => by cases hg; exact Nat.le_refl _))
end Go.Proofs.YtgpobhnonjdamaaDoor
