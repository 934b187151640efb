/- An argument that is a slice of Items, opened to cells: and how long its texts and slices may be. No walk. -/
import Derived.Test.YtfhceblmjahgjaaPkGreat
import Derived.Test.YtfhceblmjahgjaaPkOpen
import Derived.Deep.Slices
import Derived.Deep.Fields
import Derived.SizedLaws
namespace Go.Proofs.Ytfhceblmjahgjaa
open Go.ChangeShapes Go.WideShapes Go.ChangeAt Go.RowKit

theorem each_all {H : Type} {P : Program} {e : TypeId} (l : List (DataW H)) (d : DataW H) (h : d ∈ l) (q : Nat) (hq : q ∈ d.weights P e) : q ∈ DataW.weightsAll P e l := by
  induction l with
  | nil => cases h
  | cons y r ih =>
    simp only [DataW.weightsAll, List.mem_append]
    rcases List.mem_cons.1 h with rfl | h
    · exact .inl hq
    · exact .inr (ih h)

section
variable {H : Type} {enc : TypeId × Value → H} {P : Program} {W : World} {t e : TypeId} {v : Value} {fuel : Nat} {y : DataW H × List MemPlace}

theorem cell_ints {k : IntKind} (ht : P.underlying t = some (.slice e)) (he : P.underlying e = some (.int k)) (hC : P.cellsOf e = 1) (hB : 1 ≤ P.bytesOf e) (h : DataW.trod enc P W 0 (fun _ => true) true fuel t [v] = some y) (hw : ∀ q ∈ y.1.weights P t, q ≤ reachBytes) :
    ∃ zs : List Int, Row (fun b => W.heap.size ≤ b) W v (zs.map (Value.int k)) ∧ (∀ z ∈ zs, (Lit.int k z).wf = true) ∧ zs.length ≤ reachBytes := by
  rcases open_ints ht he hC h with ⟨hcs, _⟩ | ⟨x, len, c, zs, hcs, _, hl, hm, hz, hx, hcell, hwz⟩
  · injection hcs with hcs
    subst hcs
    exact ⟨[], .inl ⟨rfl, rfl⟩, by simp, by simp⟩
  · injection hcs with hcs
    subst hcs
    simp at hz
    refine ⟨zs.take len, row_of_cells (by simp; omega) (fun j u hj => ?_), fun z hz' => hwz z (List.mem_of_mem_take hz'), ?_⟩
    · rw [List.map_take, List.getElem?_take] at hj
      split at hj
      · rename_i hjl
        have hjz : j < zs.length := by omega
        rw [List.getElem?_map, List.getElem?_eq_getElem hjz] at hj
        simp at hj
        subst hj
        rw [hcell j hjz]
        simp [List.getD, hjz]
      · cases hj
    · rw [hx] at hw
      simp only [DataW.weights, ht] at hw
      have h1 := hw _ (by exact List.mem_cons_self)
      have h2 : (zs.take len).length ≤ (lits (H := H) k (zs.take len)).length := by simp [lits]
      have h3 := Nat.mul_le_mul_left ((lits (H := H) k (zs.take len)).length + (lits (H := H) k (zs.drop len)).length) hB
      omega

theorem cell_strs (ht : P.underlying t = some (.slice e)) (he : P.underlying e = some .string) (hC : P.cellsOf e = 1) (hB : 1 ≤ P.bytesOf e) (h : DataW.trod enc P W 0 (fun _ => true) true fuel t [v] = some y) (hw : ∀ q ∈ y.1.weights P t, q ≤ reachBytes) :
    ∃ ss : List ByteArray, Row (fun b => W.heap.size ≤ b) W v (ss.map fS) ∧ (∀ s ∈ ss, s.size ≤ reachBytes) ∧ ss.length ≤ reachBytes := by
  rcases open_strings ht he hC h with ⟨hcs, _⟩ | ⟨x, len, c, ss, hcs, _, hl, hm, hz, hx, hcell, hwz⟩
  · injection hcs with hcs
    subst hcs
    exact ⟨[], .inl ⟨rfl, rfl⟩, by simp, by simp⟩
  · injection hcs with hcs
    subst hcs
    simp at hz
    rw [hx] at hw
    simp only [DataW.weights, ht] at hw
    refine ⟨ss.take len, row_of_cells (by simp; omega) (fun j u hj => ?_), fun s hs => ?_, ?_⟩
    · rw [List.map_take, List.getElem?_take] at hj
      split at hj
      · rename_i hjl
        have hjz : j < ss.length := by omega
        rw [List.getElem?_map, List.getElem?_eq_getElem hjz] at hj
        simp at hj
        subst hj
        rw [hcell j hjz]
        simp [List.getD, hjz, fS]
      · cases hj
    · have hm : (.lit (.string s.data.toList) : DataW H) ∈ strs (ss.take len) := List.mem_map.2 ⟨s, hs, rfl⟩
      have := hw s.size (List.mem_cons_of_mem _ (List.mem_append_left _ (each_all _ _ hm _ (by simp [DataW.weights]))))
      exact this
    · have h1 := hw _ (by exact List.mem_cons_self)
      have h2 : (ss.take len).length ≤ (strs (H := H) (ss.take len)).length := by simp [strs]
      have h3 := Nat.mul_le_mul_left ((strs (H := H) (ss.take len)).length + (strs (H := H) (ss.drop len)).length) hB
      omega

/-- the types that an Item is made of -/
structure ItemTypes (P : Program) (tS tI t0 t1 t2 t3 t4 t5 t6 t7 : TypeId) (fs : Array Field) : Prop where
  s : P.underlying tS = some (.slice tI)
  u : P.underlying tI = some (.struct fs)
  one : Go.Deep.oneCellFields P fs = true
  c : P.cellsOf tI = 8
  n : fs.size = 8
  ty : fs.toList.map (·.type) = [t0, t1, t2, t3, t4, t5, t6, t7]
  u0 : P.underlying t0 = some (.int .u8)
  u1 : P.underlying t1 = some (.int .u64)
  u2 : P.underlying t2 = some (.int .i64)
  u3 : P.underlying t3 = some .bool
  u4 : P.underlying t4 = some .string
  u5 : P.underlying t5 = some (.slice t1)
  u6 : P.underlying t6 = some (.slice t2)
  u7 : P.underlying t7 = some (.slice t4)
  c1 : P.cellsOf t1 = 1
  c2 : P.cellsOf t2 = 1
  c4 : P.cellsOf t4 = 1
  b1 : 1 ≤ P.bytesOf t1
  b2 : 1 ≤ P.bytesOf t2
  b4 : 1 ≤ P.bytesOf t4
  bI : 1 ≤ P.bytesOf tI

theorem nat_row (zs : List Int) (h : ∀ z ∈ zs, (Lit.int .u64 z).wf = true) : ∃ l : List Nat, zs.map (Value.int .u64) = l.map fN ∧ l.length = zs.length ∧ ∀ x ∈ l, Pk.OkN x := by
  refine ⟨zs.map Int.toNat, ?_, by simp, ?_⟩
  · rw [List.map_map]
    apply List.map_congr_left
    intro z hz
    have := bounds_u64 (h z hz)
    unfold fN Function.comp
    congr 1
    omega
  · intro x hx
    obtain ⟨z, hz, rfl⟩ := List.mem_map.1 hx
    have := bounds_u64 (h z hz)
    unfold Pk.OkN
    omega

variable {tS tI t0 t1 t2 t3 t4 t5 t6 t7 : TypeId} {fs : Array Field}
theorem eight {α : Type} (l : List α) (h : l.length = 8) : ∃ a0 a1 a2 a3 a4 a5 a6 a7, l = [a0, a1, a2, a3, a4, a5, a6, a7] := by
  match l, h with
  | [a0, a1, a2, a3, a4, a5, a6, a7], _ => exact ⟨a0, a1, a2, a3, a4, a5, a6, a7, rfl⟩

theorem open_item (T : ItemTypes P tS tI t0 t1 t2 t3 t4 t5 t6 t7 fs) {cs : List Value} (h : DataW.trod enc P W 0 (fun _ => true) true fuel tI cs = some y) (hw : ∀ q ∈ y.1.weights P tI, q ≤ reachBytes) :
    ∃ x : Itm, cs = x.cells.toList ∧ x.In (fun b => W.heap.size ≤ b) W ∧ x.Raw := by
  obtain ⟨xs, m, _, hy, hcl, hxl, hf⟩ := DataW.trod_struct T.u h
  rw [T.c] at hcl
  rw [T.n] at hxl
  have hone := Go.Deep.hone_of T.one
  -- each field: its cell, and its reading
  have hfield : ∀ j (hj : j < 8) tj, [t0, t1, t2, t3, t4, t5, t6, t7][j]? = some tj → ∃ z, xs[j]? = some z ∧ DataW.trod enc P W 0 (fun _ => true) true m tj [cs[j]'(by omega)] = some z ∧ ∀ q ∈ z.1.weights P tj, q ≤ reachBytes := by
    intro j hj tj htj
    have hjs : j < fs.size := by rw [T.n]; exact hj
    have hfj : fs[j]? = some fs[j] := Array.getElem?_eq_getElem hjs
    obtain ⟨ho, hk⟩ := hone j fs[j] hfj
    have ht : fs[j].type = tj := by
      rw [← T.ty, List.getElem?_map] at htj
      simp [hjs] at htj
      exact htj
    have h1 := hf j fs[j] hfj
    rw [ho, hk, ht] at h1
    have e1 : (cs.drop j).take 1 = [cs[j]'(by omega)] := by
      rw [List.drop_eq_getElem_cons (by omega)]
      rfl
    rw [e1] at h1
    have hz : xs[j]? = some (xs[j]'(by omega)) := List.getElem?_eq_getElem (by omega)
    refine ⟨_, hz, h1.trans hz, fun q hq => hw q ?_⟩
    rw [hy]
    simp only [DataW.weights, T.u]
    refine DataW.weights_mem_each (j := j) (t := tj) (d := (xs[j]'(by omega)).1) ?_ ?_ q hq
    · rw [T.ty]; exact htj
    · rw [List.getElem?_map, hz]; rfl
  obtain ⟨c0, c1, c2, c3, c4, c5, c6, c7, hcs⟩ := eight cs hcl
  subst hcs
  obtain ⟨z0, _, g0, _⟩ := hfield 0 (by omega) t0 rfl
  obtain ⟨z1, _, g1, _⟩ := hfield 1 (by omega) t1 rfl
  obtain ⟨z2, _, g2, _⟩ := hfield 2 (by omega) t2 rfl
  obtain ⟨z3, _, g3, _⟩ := hfield 3 (by omega) t3 rfl
  obtain ⟨z4, _, g4, w4⟩ := hfield 4 (by omega) t4 rfl
  obtain ⟨z5, _, g5, w5⟩ := hfield 5 (by omega) t5 rfl
  obtain ⟨z6, _, g6, w6⟩ := hfield 6 (by omega) t6 rfl
  obtain ⟨z7, _, g7, w7⟩ := hfield 7 (by omega) t7 rfl
  replace g0 : DataW.trod enc P W 0 (fun _ => true) true m t0 [c0] = some z0 := g0
  replace g1 : DataW.trod enc P W 0 (fun _ => true) true m t1 [c1] = some z1 := g1
  replace g2 : DataW.trod enc P W 0 (fun _ => true) true m t2 [c2] = some z2 := g2
  replace g3 : DataW.trod enc P W 0 (fun _ => true) true m t3 [c3] = some z3 := g3
  replace g4 : DataW.trod enc P W 0 (fun _ => true) true m t4 [c4] = some z4 := g4
  replace g5 : DataW.trod enc P W 0 (fun _ => true) true m t5 [c5] = some z5 := g5
  replace g6 : DataW.trod enc P W 0 (fun _ => true) true m t6 [c6] = some z6 := g6
  replace g7 : DataW.trod enc P W 0 (fun _ => true) true m t7 [c7] = some z7 := g7
  obtain ⟨k, hk, _, wk⟩ := DataW.trod_int T.u0 g0
  obtain ⟨n, hn, _, wn⟩ := DataW.trod_int T.u1 g1
  obtain ⟨z, hz, _, wz⟩ := DataW.trod_int T.u2 g2
  obtain ⟨b, hb, _⟩ := DataW.trod_bool T.u3 g3
  obtain ⟨s, hs, e4, _⟩ := DataW.trod_string T.u4 g4
  obtain ⟨zl, rl, wl, ll⟩ := cell_ints T.u5 T.u1 T.c1 T.b1 g5 w5
  obtain ⟨zm, rm, wm, lm⟩ := cell_ints T.u6 T.u2 T.c2 T.b2 g6 w6
  obtain ⟨ss, rs, ws, ls⟩ := cell_strs T.u7 T.u4 T.c4 T.b4 g7 w7
  obtain ⟨l0, hl0, len0, ok0⟩ := nat_row zl wl
  rw [hl0] at rl
  have bk := bounds_u8 wk
  have bn := bounds_u64 wn
  have bz := bounds_i64 wz
  have hsz : s.size ≤ reachBytes := w4 s.size (by rw [e4]; simp [DataW.weights])
  obtain ⟨k', rfl⟩ : ∃ k' : Nat, k = k' := ⟨k.toNat, by omega⟩
  obtain ⟨n', rfl⟩ : ∃ n' : Nat, n = n' := ⟨n.toNat, by omega⟩
  injection hk with hk
  injection hn with hn
  injection hz with hz
  injection hb with hb
  injection hs with hs
  subst hk hn hz hb hs
  have hR : reachBytes ≤ 140737488355328 := by decide
  refine ⟨⟨k', n', z, b, s, c5, c6, c7, l0, zm, ss⟩, rfl, ⟨rl, rm, rs⟩, ?_⟩
  exact ⟨by show k' ≤ 255; omega, by show n' < _; omega, bz, ok0, fun x hx => bounds_i64 (wm x hx), Nat.le_trans hsz hR, by show l0.length ≤ _; omega, Nat.le_trans lm hR, Nat.le_trans ls hR, fun x hx => Nat.le_trans (ws x hx) hR⟩

theorem open_items (T : ItemTypes P tS tI t0 t1 t2 t3 t4 t5 t6 t7 fs) {r : Reach} {b0 : Nat} {d : DataW H} {ps : List MemPlace} (hv : Value.okWide P W r b0 tS v) (h : DataW.Trod enc P W 0 (fun _ => true) true tS v d ps) (hw : ∀ q ∈ d.weights P tS, q ≤ reachBytes) :
    ∃ l : List Itm, Its (fun b => W.heap.size ≤ b) W v l ∧ (∀ x ∈ l, x.Raw) ∧ l.length ≤ 140737488355328 := by
  have hR : reachBytes ≤ 140737488355328 := by decide
  obtain ⟨A, len, cap, rfl⟩ := okWide_slice T.s hv
  obtain ⟨fuel, hf⟩ := h
  rcases Go.Deep.open_slice T.s hf with ⟨hcs, _⟩ | ⟨a, len', cap', m, n, D, Pl, hcs, _, hl, hm, hmm, hx, hi⟩
  · simp [Value.cells] at hcs
    obtain ⟨rfl, rfl, rfl⟩ := hcs
    exact ⟨[], ⟨.inl ⟨rfl, rfl⟩, by simp⟩, by simp, by simp⟩
  · simp [Value.cells] at hcs
    obtain ⟨rfl, rfl, rfl⟩ := hcs
    simp at hmm
    subst hmm
    simp only [Prod.mk.injEq] at hx
    rw [hx.1] at hw
    simp only [DataW.weights, T.s] at hw
    have hlen : len ≤ 140737488355328 := by
      have h1 := hw _ (by exact List.mem_cons_self)
      simp only [List.length_map, List.length_range] at h1
      have h3 := Nat.mul_le_mul_left (len + (m - len)) T.bI
      omega
    have each : ∀ i, i < len → ∃ x : Itm, (∀ (j : Nat) (c : Value), x.cells[j]? = some c → W.cell? (a.add (i * 8 + j)) = some c) ∧ x.In (fun b => W.heap.size ≤ b) W ∧ x.Raw := by
      intro i hil
      obtain ⟨cs', hc, ht⟩ := hi i (by omega)
      rw [T.c] at hc
      obtain ⟨x, hxc, hin, hraw⟩ := open_item T (y := (D i, Pl i)) ht (fun q hq => hw q (List.mem_cons_of_mem _ (List.mem_append_left _ (each_all _ (D i) (List.mem_map.2 ⟨i, List.mem_range.2 hil, rfl⟩) q hq))))
      refine ⟨x, fun j c hj => ?_, hin, hraw⟩
      obtain ⟨_, hcl, hat⟩ := World.cells?_some hc
      have hj8 : j < 8 := by
        have := (Array.getElem?_eq_some_iff.1 hj).1
        exact this
      have := hat j hj8
      rw [add_of_add] at this
      rw [this, hxc]
      simpa using hj
    -- one list of them
    have build : ∀ n, n ≤ len → ∃ l : List Itm, l.length = n ∧ (∀ i (hi : i < l.length) (j : Nat) (c : Value), l[i].cells[j]? = some c → W.cell? (a.add (i * 8 + j)) = some c) ∧ (∀ x ∈ l, x.In (fun b => W.heap.size ≤ b) W) ∧ ∀ x ∈ l, x.Raw := by
      intro n
      induction n with
      | zero => intro _; exact ⟨[], rfl, fun i hi => by simp at hi, by simp, by simp⟩
      | succ n ih =>
        intro hn
        obtain ⟨l, hll, h1, h2, h3⟩ := ih (by omega)
        obtain ⟨x, g1, g2, g3⟩ := each n (by omega)
        refine ⟨l ++ [x], by simp [hll], fun i hi j c hj => ?_, ?_, ?_⟩
        · by_cases hlt : i < l.length
          · rw [List.getElem_append_left hlt] at hj
            exact h1 i hlt j c hj
          · have : i = l.length := by simp at hi; omega
            subst this
            rw [List.getElem_append_right (Nat.le_refl _)] at hj
            simp at hj
            rw [hll]
            exact g1 j c hj
        · intro y hy
          rcases List.mem_append.1 hy with hy | hy
          · exact h2 y hy
          · simp at hy; subst hy; exact g2
        · intro y hy
          rcases List.mem_append.1 hy with hy | hy
          · exact h3 y hy
          · simp at hy; subst hy; exact g3
    obtain ⟨l, hll, h1, h2, h3⟩ := build len (Nat.le_refl _)
    refine ⟨l, ⟨.inr ⟨a, m, by rw [hll], ?_, h1⟩, h2⟩, h3, by omega⟩
    cases l with
    | nil => exact .inl rfl
    | cons x r =>
      have h0 := h1 0 (by simp) 0 _ rfl
      have := World.block_lt_of_cell? _ _ h0
      rw [block_of_add] at this
      exact .inr ⟨this, by omega⟩
end
end Go.Proofs.Ytfhceblmjahgjaa
