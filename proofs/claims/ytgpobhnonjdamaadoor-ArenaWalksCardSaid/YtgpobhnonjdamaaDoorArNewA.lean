/- Contract of arena's endsOf. Conditions: the nodes lie where the slice says, they are a tree. -/
import Derived.Test.YtgpobhnonjdamaaDoorArEnds
namespace Go.Proofs.YtgpobhnonjdamaaDoor
open Go.ChangeShapes Go.WideShapes Go.ChangeAt Go.RowKit Go.Shelf

attribute [local go_sem] Oper.semAt_some

/-- a row of numbers -/
def rowF (n : Nat) (f : Nat → Nat) : Array Value := ((List.range n).map fun i => iv (f i)).toArray
theorem rowF_size (n : Nat) (f : Nat → Nat) : (rowF n f).size = n := by simp [rowF]
theorem rowF_get {n : Nat} {f : Nat → Nat} {i : Nat} (h : i < n) : (rowF n f)[i]? = some (iv (f i)) := by
  simp [rowF, h]
theorem rowF_set (n : Nat) (f : Nat → Nat) (i v : Nat) : (rowF n f).setIfInBounds i (iv v) = rowF n (updF f i v) := by
  apply Array.ext_getElem?
  intro j
  rw [Array.getElem?_setIfInBounds]
  by_cases hj : j < n
  · rw [rowF_get hj, rowF_size, rowF_get hj]
    unfold updF
    by_cases e : i = j
    · subst e
      rw [if_pos rfl, if_pos hj, if_pos rfl]
    · rw [if_neg e, if_neg (fun h => e h.symm)]
  · have e1 : (rowF n f)[j]? = none := by rw [Array.getElem?_eq_none_iff, rowF_size]; omega
    have e2 : (rowF n (updF f i v))[j]? = none := by rw [Array.getElem?_eq_none_iff, rowF_size]; omega
    rw [e1, e2, rowF_size]
    split
    · rw [if_neg (by omega)]
    · rfl
theorem rowF_zero (n : Nat) : madeCells (Value.int .i64 0).cells n = rowF n (fun _ => 0) := by
  apply Array.ext_getElem?
  intro j
  by_cases hj : j < n
  · rw [rowF_get hj]
    simp [madeCells, Value.cells, hj, iv, Nat.mod_one]
  · rw [Array.getElem?_eq_none_iff.2 (by rw [size_madeCells]; omega), Array.getElem?_eq_none_iff.2 (by rw [rowF_size]; omega)]
theorem make_ints (n : Nat) (hn : n ≤ 1048576) (W : World) : (Instr.makeSlice 42 (.int .i64 (n : Int)) (.int .i64 (n : Int))).run Tryd.prog W = .ok (.slice (some ⟨W.heap.size, 0, none⟩) n n) (W.alloc (.cells (rowF n (fun _ => 0)) 3)) := by
  obtain ⟨i0, hi, hz0, hz1, hz2⟩ := info_agg infoI
  have h := run_make (P := Tryd.prog) W 42 3 i0 (.int .i64 0) Tryd.underlying42 hi hz0 .i64 .i64 (n : Int) (n : Int) (by omega) (by omega) (by rw [hz2]; omega) (by omega)
  rw [hz1] at h
  simp only [Nat.mul_one, Int.toNat_natCast, rowF_zero] at h
  exact h

/-- the row behind the nodes that have been looked at -/
def fld {l : List Nod} (pre : List (NI l)) : Nat → Nat := pre.foldl (fun f x => stepF f x.1.1 x.1.2.p) (fun _ => 0)
theorem fld_snoc {l : List Nod} (pre : List (NI l)) (x : NI l) : fld (pre ++ [x]) = stepF (fld pre) x.1.1 x.1.2.p := by simp [fld]
theorem fld_es {l : List Nod} (hT : Tre (psOf l)) : ∀ (k : Nat) (pre : List (NI l)), k ≤ l.length → pre.map (fun (x : NI l) => x.1.1) ++ rng k = rng l.length → ∀ i, i < l.length → fld pre i = esF (psOf l) k i := by
  suffices H : ∀ (N k : Nat) (pre : List (NI l)), pre.length = N → k ≤ l.length → pre.map (fun (x : NI l) => x.1.1) ++ rng k = rng l.length → ∀ i, i < l.length → fld pre i = esF (psOf l) k i from fun k pre => H _ k pre rfl
  intro N
  induction N with
  | zero =>
    intro k pre h0 hk h i hi
    obtain rfl := List.length_eq_zero_iff.1 h0
    have h2 := congrArg List.length h
    simp [rng] at h2
    subst h2
    rw [← psOf_len] at hi ⊢
    exact (esF_start (psOf l) i hi).symm
  | succ N ih =>
    intro k pre' h0 hk h i hi
    obtain ⟨pre, x, rfl⟩ : ∃ pre x, pre' = pre ++ [x] := by
      rcases List.eq_nil_or_concat pre' with rfl | ⟨L, b, rfl⟩
      · cases h0
      · exact ⟨L, b, List.concat_eq_append⟩
    obtain ⟨⟨j, nd⟩, hx⟩ := x
    have hj : j < l.length := (List.getElem?_eq_some_iff.1 hx).1
    have h2 := congrArg List.length h
    simp [rng] at h2
    have hkl : k < l.length := by omega
    have e : j = k := by
      have h3 := congrArg (fun (s : List Nat) => s[pre.length]?) h
      simp only [List.map_append, List.map_cons, List.map_nil, List.append_assoc] at h3
      rw [List.getElem?_append_right (by simp), List.length_map, Nat.sub_self] at h3
      simp only [List.cons_append, List.getElem?_cons_zero] at h3
      unfold rng at h3
      rw [List.getElem?_reverse (by simp; omega), List.getElem?_range (by simp; omega)] at h3
      simp at h3
      omega
    subst e
    have ih' := ih (j + 1) pre (by simpa using h0) (by omega) (by rw [rng_succ]; simpa using h)
    rw [fld_snoc]
    have hs := stepF_es hT (n := j) (by rw [psOf_len]; exact hj) (f := fld pre) (by rw [psOf_len]; exact ih')
    rw [psOf_len] at hs
    have := hs i hi
    rw [pr_of hx] at this
    exact this
theorem Blk.own_ {w w' : World} {g : Nat} {t : TypeId} {cs : Array Value} {row : Option Nat} (h : Blk w g t cs) (hg : w.grownBy w' row) (hr : ∀ r, row = some r → ∃ o : Obj, w.heap[r]? = some o ∧ o.isCells = false) : Blk w' g t cs :=
  h.grown hg (fun e => by
    obtain ⟨o, ho, hc⟩ := hr g e.symm
    rw [show w.heap[g]? = _ from h] at ho
    cases ho
    cases hc)
theorem KeepsOthers.below_none {W W' : World} (b : Below W.heap.size W W') : KeepsOthers W W' := ⟨b.size, fun k _ hk _ => (b.block k (Array.getElem?_eq_some_iff.1 hk).1).trans hk⟩

set_option maxRecDepth 100000 in
set_option maxHeartbeats 8000000 in
theorem aends_any (l : List Nod) (v : Value) (w : World) (hR : Ns w v l) (hT : Tre (psOf l)) (hlen : l.length ≤ 1048576) :
    Calls Tryd.prog 34 #[v] w fun e w' => ∃ g f, e = .returned (.slice (some ⟨g, 0, none⟩) l.length l.length) ∧ w.heap.size ≤ g ∧ Blk w' g 3 (rowF l.length f) ∧ (∀ i, i < l.length → f i = endC (psOf l) i) ∧ Below w.heap.size w w' := by
  have HR := Lib.hid hR
  have HT := Lib.hid hT
  obtain ⟨A, cap, rfl⟩ := hR.form
  have FE : Hid (∀ xs : List (NI l), xs.map (fun (x : NI l) => x.1.1) = rng l.length → ∀ i, i < l.length → fld xs i = endC (psOf l) i) := Lib.hid fun xs h i hi => by
    rw [fld_es hT 0 xs (by omega) (by rw [h]; simp [rng]) i hi, esF_end]
  obtain ⟨m, hm⟩ : ∃ m, l.length = m := ⟨_, rfl⟩
  have HM := Lib.hid hm
  have hmk := make_ints m (by omega)
  rw [hm] at hlen HR FE ⊢
  clear hR hT hm
  refine (callsIn_wide (n := 5)).1 ?_
  refine callsIn_of_wp_marks Tryd.func34 rfl trivial ?_ rfl
  simp only [Tryd.ntmps34, List.size_toArray, List.length_cons, List.length_nil, Nat.reduceAdd, Nat.reduceSub, Array.replicate_succ, Array.replicate_zero, List.push_toArray, List.append_toArray, List.nil_append, List.cons_append]
  gi_wp2_with fail
  refine ⟨trivial, (back_mk _ _ _ _ _).mono ?_⟩
  rintro e w1 ⟨rfl, rfl⟩
  gi_wp2_with fail
  have hE := Blk.new w 3 (rowF m fun _ => 0)
  have hX := Boxed.new (w.alloc (.cells (rowF m fun _ => 0) 3)) 42 (.slice (some ⟨w.heap.size, 0, none⟩) m m)
  have hY := Boxed.new ((w.alloc (.cells (rowF m fun _ => 0) 3)).alloc (.cells #[.slice (some ⟨w.heap.size, 0, none⟩) m m] 42)) 22 (.slice A m cap)
  simp only [World.size_alloc] at hX hY
  have b0 : Below w.heap.size w (((w.alloc (.cells (rowF m fun _ => 0) 3)).alloc (.cells #[.slice (some ⟨w.heap.size, 0, none⟩) m m] 42)).alloc (.cells #[.slice A m cap] 22)) := (((Below.refl _ w).alloc (Nat.le_refl _) _).alloc (by simp) _).alloc (by simp; omega) _
  have hsz : (((w.alloc (.cells (rowF m fun _ => 0) 3)).alloc (.cells #[.slice (some ⟨w.heap.size, 0, none⟩) m m] 42)).alloc (.cells #[.slice A m cap] 22)).heap.size = w.heap.size + 3 := by simp
  have hE3 := (hE.alloc (.cells #[.slice (some ⟨w.heap.size, 0, none⟩) m m] 42)).alloc (.cells #[.slice A m cap] 22)
  have hX3 := hX.alloc (.cells #[.slice A m cap] 22)
  obtain ⟨W3, hW3⟩ : ∃ W3, ((w.alloc (.cells (rowF m fun _ => 0) 3)).alloc (.cells #[.slice (some ⟨w.heap.size, 0, none⟩) m m] 42)).alloc (.cells #[.slice A m cap] 22) = W3 := ⟨_, rfl⟩
  rw [hW3] at hE3 hX3 hY b0 hsz ⊢
  clear hW3 hE hX
  refine wpIn_rangeFunc_ownH rfl (by omega) (gf := 62) (lb := #[.pointer (some ⟨w.heap.size + 1 + 1, 0, none⟩)]) rfl trivial (enters_of Tryd.func62 (by kernel_rfl) rfl)
    (back_stops _ (w.heap.size + 1 + 1) l (.slice A m cap) w W3 HR.out (by rw [HM.out]; exact hlen) b0 (by omega) hY.cell) (fun h k => KBel.trans h k) (KBel.obj (by omega) (by omega)) (Below.refl _ _) (fun _ => rfl)
    (fun pre W => Blk W w.heap.size 3 (rowF m (fld pre)) ∧ Boxed W (w.heap.size + 1) 42 (.slice (some ⟨w.heap.size, 0, none⟩) m m) ∧ Below w.heap.size w W ∧ w.heap.size + 3 ≤ W.heap.size)
    (fun _ _ _ => False)
    (fun s X Y row hs hg hr => ⟨hs.1.own_ hg (fun r e => (hr r e).2), boxed_own _ _ (fun _ => _) s X Y row hs.2.1 hg (fun r e => (hr r e).2), ownFrom_below (β := List (NI l)) (Nat.le_refl _) (by omega) s X Y row hs.2.2.1 hg hr, Nat.le_trans hs.2.2.2 hg.size⟩)
    (fun _ _ _ _ _ hs _ _ => hs)
    ⟨hE3, hX3, b0, by omega⟩
    (fun x a' W => ∃ P, a' = { tmps := #[.slice A m cap, undef, .slice none 0 0, .pointer (some ⟨w.heap.size + 1, 0, none⟩), .int .i64 (x.1.1 : Int), .pointer (some ⟨P, 0, none⟩), .slice A m cap, .int .i64 (m : Int), .slice (some ⟨w.heap.size, 0, none⟩) m m, .slice A m cap, .func (.func 62) #[] #[.pointer (some ⟨w.heap.size + 1 + 1, 0, none⟩)], .int .i64 (x.1.1 : Int), .agg x.1.2.cells, undef, undef, undef, undef, undef, undef, undef, undef, undef, undef, undef, undef, undef, undef, undef, undef, undef, undef, undef, undef, undef, undef, undef, undef, undef, undef, undef], defers := [] } ∧ Blk W P 37 x.1.2.cells ∧ w.heap.size + 3 ≤ P)
    (fun x a' s X Y row hs hg hr => by
      obtain ⟨P, h1, h2, h3⟩ := hs
      exact ⟨P, h1, h2.own_ hg (fun r e => (hr r e).2), h3⟩)
    ?assign ?body ?done ?stop
  case assign =>
    rintro L pre x W K ⟨i1, i2, i3, i4⟩ hK
    simp only [encI]
    gi_wp2_with (refine nwNIn (fun _ => trivial) rfl rfl 5 rfl rfl (.tmp 12) rfl rfl x.1.2 (fun _ => rfl) (fun _ => rfl) ?_; intro w5 b5 k5 B5)
    exact hK _ _ (k5.from _) ⟨b5.mono i3.size, b5.block _ (by omega)⟩ ⟨i1.keep (S := fun _ => False) (Mod.of_below b5) id, (b5.block _ (by omega)).trans i2, i3.trans (b5.mono i3.size), Nat.le_trans i4 b5.size⟩ ⟨_, rfl, B5, i4⟩
  case body =>
    rintro L pre ⟨⟨n, nd⟩, hx⟩ a' W0 hL hrec ⟨i1, i2, i3, i4⟩ ⟨P, rfl, hP, hPn⟩ _
    have hnl : n < l.length := (List.getElem?_eq_some_iff.1 hx).1
    have hn : n < m := by rw [← HM.out]; exact hnl
    obtain ⟨q1, q2⟩ := par_bd HT.out hx
    have q3 : 0 < n → 0 ≤ nd.p := fun h0 => by
      have := (HT.out.par n h0 (by rw [psOf_len]; exact hnl)).1
      rwa [pr_of hx] at this
    have HS : Hid (fld (pre ++ [⟨(n, nd), hx⟩]) = stepF (fld pre) n nd.p) := Lib.hid (fld_snoc pre ⟨(n, nd), hx⟩)
    obtain ⟨f, hf⟩ : ∃ f, fld pre = f := ⟨_, rfl⟩
    rw [hf] at i1 HS
    obtain ⟨c, hc⟩ : ∃ c, n + 1 = c := ⟨_, rfl⟩
    have hwr : IntKind.i64.wrap ((n : Int) + 1) = (c : Int) := (IntWalk.i64_in _ (by omega)).trans (by omega)
    obtain ⟨e, he⟩ : ∃ e, max (f n) c = e := ⟨_, rfl⟩
    have hmx : max ((f n : Nat) : Int) (c : Int) = (e : Int) := by omega
    have HSE : Hid (stepF f n nd.p = if 0 < n then updF (updF f n e) nd.p.toNat (max (updF f n e nd.p.toNat) (updF f n e n)) else updF f n e) := Lib.hid (by unfold stepF; rw [hc, he])
    have HU : Hid (updF f n e n = e) := Lib.hid (by unfold updF; rw [if_pos rfl])
    have hcp : ∀ W', Below W0.heap.size W0 W' → W'.cell? ⟨P, 1, none⟩ = some (.int .i64 nd.p) := fun W' h => (h.cell (p := ⟨P, 1, none⟩) hP.lt).trans (hP.cell 1)
    obtain ⟨p, hp⟩ : ∃ p, nd.p = p := ⟨_, rfl⟩
    rw [hp] at q1 q2 q3 HS HSE hcp
    have CB : Hid (∀ W', Below W0.heap.size W0 W' → W'.cell? ⟨w.heap.size + 1, 0, none⟩ = some (.slice (some ⟨w.heap.size, 0, none⟩) m m)) := Lib.hid fun W' h => (h.cell (p := ⟨w.heap.size + 1, 0, none⟩) (by show w.heap.size + 1 < _; omega)).trans i2.cell
    have CE : Hid (∀ W', Below W0.heap.size W0 W' → ∀ i, i < m → W'.cell? ⟨w.heap.size, i, none⟩ = some (.int .i64 (f i : Int)) ∧ W'.frozen? ⟨w.heap.size, i, none⟩ = false) := Lib.hid fun W' h i hi => by
      have hb := i1.keep (S := fun _ => False) (Mod.of_below h) id
      exact ⟨(hb.cell i).trans (rowF_get hi), hb.frozen i⟩
    have HPP := Lib.hid hp
    have HP := Lib.hid hP
    have H1 := Lib.hid i1
    have H2 := Lib.hid i2
    have hnz : (n : Int) < m := by omega
    dsimp only
    clear hP hcp i1 i2 hrec hp hf hc
    gi_wp2_with fail
    refine region_tailIn (by kernel_rfl) (fun W => Below W0.heap.size W0 W) (below_drewN (Below.refl _ _) 1) (by kernel_rfl) 10 (by rfl) (by kernel_rfl) (by kernel_rfl) (fun R hR => ?_)
    refine AllS.take (i := 0) (v := ?_) (by rw [List.getElem?_toArray]; rfl) (by kernel_rfl) (by kernel_rfl) (by kernel_rfl) (KeepsIf.read (by rfl) ?_) ?_
    rotate_left
    · intro W hSw
      (try dsimp only at hSw)
      have hq := CB.out W hSw
      go_simp
      (try with_reducible rfl)
    rotate_left
    (try simp only [Act.put, List.setIfInBounds_toArray, List.set_cons_zero, List.set_cons_succ])
    refine AllS.take (i := 1) (v := ?_) (by rw [List.getElem?_toArray]; rfl) (by kernel_rfl) (by kernel_rfl) (by kernel_rfl) (KeepsIf.read (by rfl) ?_) ?_
    rotate_left
    · intro W hSw
      (try dsimp only at hSw)
      go_simp
      (try with_reducible rfl)
    rotate_left
    (try simp only [Act.put, List.setIfInBounds_toArray, List.set_cons_zero, List.set_cons_succ])
    refine AllS.take (i := 2) (v := ?_) (by rw [List.getElem?_toArray]; rfl) (by kernel_rfl) (by kernel_rfl) (by kernel_rfl) (KeepsIf.read (by rfl) ?_) ?_
    rotate_left
    · intro W hSw
      (try dsimp only at hSw)
      have hq := CB.out W hSw
      go_simp
      (try with_reducible rfl)
    rotate_left
    (try simp only [Act.put, List.setIfInBounds_toArray, List.set_cons_zero, List.set_cons_succ])
    refine AllS.take (i := 3) (v := ?_) (by rw [List.getElem?_toArray]; rfl) (by kernel_rfl) (by kernel_rfl) (by kernel_rfl) (KeepsIf.read (by rfl) ?_) ?_
    rotate_left
    · intro W hSw
      (try dsimp only at hSw)
      go_simp
      (try with_reducible rfl)
    rotate_left
    (try simp only [Act.put, List.setIfInBounds_toArray, List.set_cons_zero, List.set_cons_succ])
    refine AllS.take (i := 4) (v := ?_) (by rw [List.getElem?_toArray]; rfl) (by kernel_rfl) (by kernel_rfl) (by kernel_rfl) (KeepsIf.read (by rfl) ?_) ?_
    rotate_left
    · intro W hSw
      (try dsimp only at hSw)
      go_simp
      (try with_reducible rfl)
    rotate_left
    (try simp only [Act.put, List.setIfInBounds_toArray, List.set_cons_zero, List.set_cons_succ])
    refine AllS.take (i := 5) (v := ?_) (by rw [List.getElem?_toArray]; rfl) (by kernel_rfl) (by kernel_rfl) (by kernel_rfl) (KeepsIf.read (by rfl) ?_) ?_
    rotate_left
    · intro W hSw
      (try dsimp only at hSw)
      have hq := (CE.out W hSw n hn).1
      go_simp
      (try with_reducible rfl)
    rotate_left
    (try simp only [Act.put, List.setIfInBounds_toArray, List.set_cons_zero, List.set_cons_succ])
    refine AllS.take (i := 6) (v := ?_) (by rw [List.getElem?_toArray]; rfl) (by kernel_rfl) (by kernel_rfl) (by kernel_rfl) (KeepsIf.read (by rfl) ?_) ?_
    rotate_left
    · intro W hSw
      (try dsimp only at hSw)
      go_simp
      (try with_reducible rfl)
    rotate_left
    (try simp only [Act.put, List.setIfInBounds_toArray, List.set_cons_zero, List.set_cons_succ])
    refine AllS.take (i := 7) (v := ?_) (by rw [List.getElem?_toArray]; rfl) (by kernel_rfl) (by kernel_rfl) (by kernel_rfl) (KeepsIf.read (by rfl) ?_) ?_
    rotate_left
    · intro W hSw
      (try dsimp only at hSw)
      go_simp
      (try with_reducible rfl)
    rotate_left
    (try simp only [Act.put, List.setIfInBounds_toArray, List.set_cons_zero, List.set_cons_succ])
    refine AllS.take (i := 8) (v := ?_) (by rw [List.getElem?_toArray]; rfl) (by kernel_rfl) (by kernel_rfl) (by kernel_rfl) (KeepsIf.read (by rfl) ?_) ?_
    rotate_left
    · intro W hSw
      (try dsimp only at hSw)
      go_simp
      (try with_reducible rfl)
    rotate_left
    (try simp only [Act.put, List.setIfInBounds_toArray, List.set_cons_zero, List.set_cons_succ])
    refine AllS.take (i := 9) (v := ?_) (by rw [List.getElem?_toArray]; rfl) (by kernel_rfl) (by kernel_rfl) (by kernel_rfl) (KeepsIf.read (by rfl) ?_) ?_
    rotate_left
    · intro W hSw
      (try dsimp only at hSw)
      go_simp
      (try with_reducible rfl)
    rotate_left
    (try simp only [Act.put, List.setIfInBounds_toArray, List.set_cons_zero, List.set_cons_succ])
    refine AllS.done (by kernel_rfl) (hR.out _ ?_) _
    clear hR R
    intro W6 b6
    refine wpOpIn_of (by rw [List.getElem?_toArray]; rfl) rfl ?_
    obtain ⟨hq, hfz⟩ := CE.out W6 b6 n hn
    refine wpIn_skp (fun _ => trivial) (fun c hc => by cases hc) (w' := W6.setCell ⟨w.heap.size, n, none⟩ (.int .i64 (e : Int))) (by go_simp) ?_
    have B7 : Blk (W6.setCell ⟨w.heap.size, n, none⟩ (.int .i64 (e : Int))) w.heap.size 3 (rowF m (updF f n e)) := by
      rw [← rowF_set]
      exact (H1.out.keep (S := fun _ => False) (Mod.of_below b6) id).set_ n _
    have m7 : Mod (fun k => k = w.heap.size) W0 (W6.setCell ⟨w.heap.size, n, none⟩ (.int .i64 (e : Int))) := Mod.setCell (S := fun k => k = w.heap.size) (Mod.of_below b6) (.inl rfl) _
    have k7 : KeepsOthers W0 (W6.setCell ⟨w.heap.size, n, none⟩ (.int .i64 (e : Int))) := (KeepsOthers.below_none b6).trans (KeepsOthers.setCell _ _ _)
    obtain ⟨W7, hW7⟩ : ∃ W7, W6.setCell ⟨w.heap.size, n, none⟩ (.int .i64 (e : Int)) = W7 := ⟨_, rfl⟩
    rw [hW7] at B7 m7 k7 ⊢
    clear hW7 hq hfz b6 CE CB hwr hmx
    have X7 : Boxed W7 (w.heap.size + 1) 42 (.slice (some ⟨w.heap.size, 0, none⟩) m m) := (m7.block _ (by omega) (by omega)).trans H2.out
    have P7 : Blk W7 P 37 nd.cells := HP.out.keep m7 (by omega)
    have s7 := m7.size
    by_cases h0 : 0 < n
    · obtain ⟨q, rfl⟩ : ∃ q : Nat, p = q := ⟨p.toNat, by have := q3 h0; omega⟩
      have hqm : q < m := by omega
      have hqz : (q : Int) < m := by omega
      obtain ⟨f2, hf2⟩ : ∃ f2, updF f n e = f2 := ⟨_, rfl⟩
      obtain ⟨e2, he2⟩ : ∃ e2, max (f2 q) e = e2 := ⟨_, rfl⟩
      have hmx : max ((f2 q : Nat) : Int) (e : Int) = (e2 : Int) := by omega
      have hse := HSE.out
      have hu := HU.out
      rw [if_pos h0, Int.toNat_natCast, hf2] at hse
      rw [hf2] at B7 hu
      rw [hu, he2] at hse
      have HSE2 : Hid (stepF f n (q : Int) = updF f2 q e2) := Lib.hid hse
      have CB : Hid (∀ W', Below W7.heap.size W7 W' → W'.cell? ⟨w.heap.size + 1, 0, none⟩ = some (.slice (some ⟨w.heap.size, 0, none⟩) m m)) := Lib.hid fun W' h => (h.cell (p := ⟨w.heap.size + 1, 0, none⟩) (by show w.heap.size + 1 < _; omega)).trans X7.cell
      have CE : Hid (∀ W', Below W7.heap.size W7 W' → ∀ i, i < m → W'.cell? ⟨w.heap.size, i, none⟩ = some (.int .i64 (f2 i : Int)) ∧ W'.frozen? ⟨w.heap.size, i, none⟩ = false) := Lib.hid fun W' h i hi => by
        have hb := B7.keep (S := fun _ => False) (Mod.of_below h) id
        exact ⟨(hb.cell i).trans (rowF_get hi), hb.frozen i⟩
      have CP : Hid (∀ W', Below W7.heap.size W7 W' → W'.cell? ⟨P, 1, none⟩ = some (.int .i64 (q : Int))) := Lib.hid fun W' h => (h.cell (p := ⟨P, 1, none⟩) P7.lt).trans ((P7.cell 1).trans (by rw [← HPP.out]; rfl))
      have CN : Hid (∀ W', Below W7.heap.size W7 W' → W'.cell? ⟨w.heap.size, n, none⟩ = some (.int .i64 (e : Int))) := Lib.hid fun W' h => by
        have := (CE.out W' h n hn).1
        rw [hu] at this
        exact this
      have HB7 := Lib.hid B7
      have HX7 := Lib.hid X7
      clear hse hu HSE HU hf2 he2 he B7 P7 X7 HP H1 H2
      gi_wp2_with fail
      refine region_tailIn (by kernel_rfl) (fun W => Below W7.heap.size W7 W) (below_drewN (Below.refl _ _) 1) (by kernel_rfl) 14 (by rfl) (by kernel_rfl) (by kernel_rfl) (fun R hR => ?_)
      refine AllS.take (i := 0) (v := ?_) (by rw [List.getElem?_toArray]; rfl) (by kernel_rfl) (by kernel_rfl) (by kernel_rfl) (KeepsIf.read (by rfl) ?_) ?_
      rotate_left
      · intro W hSw
        (try dsimp only at hSw)
        have hq := CB.out W hSw
        go_simp
        (try with_reducible rfl)
      rotate_left
      (try simp only [Act.put, List.setIfInBounds_toArray, List.set_cons_zero, List.set_cons_succ])
      refine AllS.take (i := 1) (v := ?_) (by rw [List.getElem?_toArray]; rfl) (by kernel_rfl) (by kernel_rfl) (by kernel_rfl) (KeepsIf.read (by rfl) ?_) ?_
      rotate_left
      · intro W hSw
        (try dsimp only at hSw)
        go_simp
        (try with_reducible rfl)
      rotate_left
      (try simp only [Act.put, List.setIfInBounds_toArray, List.set_cons_zero, List.set_cons_succ])
      refine AllS.take (i := 2) (v := ?_) (by rw [List.getElem?_toArray]; rfl) (by kernel_rfl) (by kernel_rfl) (by kernel_rfl) (KeepsIf.read (by rfl) ?_) ?_
      rotate_left
      · intro W hSw
        (try dsimp only at hSw)
        have hq := CP.out W hSw
        go_simp
        (try with_reducible rfl)
      rotate_left
      (try simp only [Act.put, List.setIfInBounds_toArray, List.set_cons_zero, List.set_cons_succ])
      refine AllS.take (i := 3) (v := ?_) (by rw [List.getElem?_toArray]; rfl) (by kernel_rfl) (by kernel_rfl) (by kernel_rfl) (KeepsIf.read (by rfl) ?_) ?_
      rotate_left
      · intro W hSw
        (try dsimp only at hSw)
        have hq := CB.out W hSw
        go_simp
        (try with_reducible rfl)
      rotate_left
      (try simp only [Act.put, List.setIfInBounds_toArray, List.set_cons_zero, List.set_cons_succ])
      refine AllS.take (i := 4) (v := ?_) (by rw [List.getElem?_toArray]; rfl) (by kernel_rfl) (by kernel_rfl) (by kernel_rfl) (KeepsIf.read (by rfl) ?_) ?_
      rotate_left
      · intro W hSw
        (try dsimp only at hSw)
        go_simp
        (try with_reducible rfl)
      rotate_left
      (try simp only [Act.put, List.setIfInBounds_toArray, List.set_cons_zero, List.set_cons_succ])
      refine AllS.take (i := 5) (v := ?_) (by rw [List.getElem?_toArray]; rfl) (by kernel_rfl) (by kernel_rfl) (by kernel_rfl) (KeepsIf.read (by rfl) ?_) ?_
      rotate_left
      · intro W hSw
        (try dsimp only at hSw)
        have hq := CP.out W hSw
        go_simp
        (try with_reducible rfl)
      rotate_left
      (try simp only [Act.put, List.setIfInBounds_toArray, List.set_cons_zero, List.set_cons_succ])
      refine AllS.take (i := 6) (v := ?_) (by rw [List.getElem?_toArray]; rfl) (by kernel_rfl) (by kernel_rfl) (by kernel_rfl) (KeepsIf.read (by rfl) ?_) ?_
      rotate_left
      · intro W hSw
        (try dsimp only at hSw)
        go_simp
        (try with_reducible rfl)
      rotate_left
      (try simp only [Act.put, List.setIfInBounds_toArray, List.set_cons_zero, List.set_cons_succ])
      refine AllS.take (i := 7) (v := ?_) (by rw [List.getElem?_toArray]; rfl) (by kernel_rfl) (by kernel_rfl) (by kernel_rfl) (KeepsIf.read (by rfl) ?_) ?_
      rotate_left
      · intro W hSw
        (try dsimp only at hSw)
        have hq := (CE.out W hSw q hqm).1
        go_simp
        (try with_reducible rfl)
      rotate_left
      (try simp only [Act.put, List.setIfInBounds_toArray, List.set_cons_zero, List.set_cons_succ])
      refine AllS.take (i := 8) (v := ?_) (by rw [List.getElem?_toArray]; rfl) (by kernel_rfl) (by kernel_rfl) (by kernel_rfl) (KeepsIf.read (by rfl) ?_) ?_
      rotate_left
      · intro W hSw
        (try dsimp only at hSw)
        have hq := CB.out W hSw
        go_simp
        (try with_reducible rfl)
      rotate_left
      (try simp only [Act.put, List.setIfInBounds_toArray, List.set_cons_zero, List.set_cons_succ])
      refine AllS.take (i := 9) (v := ?_) (by rw [List.getElem?_toArray]; rfl) (by kernel_rfl) (by kernel_rfl) (by kernel_rfl) (KeepsIf.read (by rfl) ?_) ?_
      rotate_left
      · intro W hSw
        (try dsimp only at hSw)
        go_simp
        (try with_reducible rfl)
      rotate_left
      (try simp only [Act.put, List.setIfInBounds_toArray, List.set_cons_zero, List.set_cons_succ])
      refine AllS.take (i := 10) (v := ?_) (by rw [List.getElem?_toArray]; rfl) (by kernel_rfl) (by kernel_rfl) (by kernel_rfl) (KeepsIf.read (by rfl) ?_) ?_
      rotate_left
      · intro W hSw
        (try dsimp only at hSw)
        go_simp
        (try with_reducible rfl)
      rotate_left
      (try simp only [Act.put, List.setIfInBounds_toArray, List.set_cons_zero, List.set_cons_succ])
      refine AllS.take (i := 11) (v := ?_) (by rw [List.getElem?_toArray]; rfl) (by kernel_rfl) (by kernel_rfl) (by kernel_rfl) (KeepsIf.read (by rfl) ?_) ?_
      rotate_left
      · intro W hSw
        (try dsimp only at hSw)
        have hq := CN.out W hSw
        go_simp
        (try with_reducible rfl)
      rotate_left
      (try simp only [Act.put, List.setIfInBounds_toArray, List.set_cons_zero, List.set_cons_succ])
      refine AllS.take (i := 12) (v := ?_) (by rw [List.getElem?_toArray]; rfl) (by kernel_rfl) (by kernel_rfl) (by kernel_rfl) (KeepsIf.read (by rfl) ?_) ?_
      rotate_left
      · intro W hSw
        (try dsimp only at hSw)
        go_simp
        (try with_reducible rfl)
      rotate_left
      (try simp only [Act.put, List.setIfInBounds_toArray, List.set_cons_zero, List.set_cons_succ])
      refine AllS.take (i := 13) (v := ?_) (by rw [List.getElem?_toArray]; rfl) (by kernel_rfl) (by kernel_rfl) (by kernel_rfl) (KeepsIf.read (by rfl) ?_) ?_
      rotate_left
      · intro W hSw
        (try dsimp only at hSw)
        go_simp
        (try with_reducible rfl)
      rotate_left
      (try simp only [Act.put, List.setIfInBounds_toArray, List.set_cons_zero, List.set_cons_succ])
      refine AllS.done (by kernel_rfl) (hR.out _ ?_) _
      clear hR R
      intro W8 b8
      refine wpOpIn_of (by rw [List.getElem?_toArray]; rfl) rfl ?_
      obtain ⟨hq, hfz⟩ := CE.out W8 b8 q hqm
      refine wpIn_skp (fun _ => trivial) (fun c hc => by cases hc) (w' := W8.setCell ⟨w.heap.size, q, none⟩ (.int .i64 (e2 : Int))) (by go_simp) ?_
      have B9 : Blk (W8.setCell ⟨w.heap.size, q, none⟩ (.int .i64 (e2 : Int))) w.heap.size 3 (rowF m (updF f2 q e2)) := by
        rw [← rowF_set]
        exact (HB7.out.keep (S := fun _ => False) (Mod.of_below b8) id).set_ q _
      have m9 : Mod (fun k => k = w.heap.size) W7 (W8.setCell ⟨w.heap.size, q, none⟩ (.int .i64 (e2 : Int))) := Mod.setCell (S := fun k => k = w.heap.size) (Mod.of_below b8) (.inl rfl) _
      have k9 : KeepsOthers W7 (W8.setCell ⟨w.heap.size, q, none⟩ (.int .i64 (e2 : Int))) := (KeepsOthers.below_none b8).trans (KeepsOthers.setCell _ _ _)
      obtain ⟨W9, hW9⟩ : ∃ W9, W8.setCell ⟨w.heap.size, q, none⟩ (.int .i64 (e2 : Int)) = W9 := ⟨_, rfl⟩
      rw [hW9] at B9 m9 k9 ⊢
      clear hW9 hq hfz b8 CE CB CP CN hmx
      have m10 := m7.trans m9
      gi_wp2_with fail
      exact ⟨(k7.trans k9).from _, ⟨m10.below (by omega) (fun k hk => by omega), m10.block _ (by omega) (by omega)⟩, by rw [HS.out, HSE2.out]; exact B9, (m9.block _ (by omega) (by omega)).trans HX7.out, i3.trans (m10.below (by omega) (fun k hk => by omega)), Nat.le_trans i4 m10.size⟩
    · have hse := HSE.out
      rw [if_neg h0] at hse
      have HSE2 : Hid (stepF f n p = updF f n e) := Lib.hid hse
      have hn0 : n = 0 := by omega
      clear hse HSE HU q3
      gi_wp2_with fail
      exact ⟨k7.from _, ⟨m7.below (by omega) (fun k hk => by omega), m7.block _ (by omega) (by omega)⟩, by rw [HS.out, HSE2.out]; exact B7, X7, i3.trans (m7.below (by omega) (fun k hk => by omega)), Nat.le_trans i4 m7.size⟩
  case done =>
    rintro D xs W hD hxs ⟨i1, i2, i3, i4⟩ hK
    have hc := i2.cell
    gi_wp2
    refine ⟨by simp, .inl ⟨_, _, rfl, run_takeDeferred hK, ?_⟩⟩
    have hfr := belowK_b (w := w) (Nat.le_refl _) W D _ (.deferred none) (by omega) hK rfl rfl
    refine ⟨_, results_tmp rfl _ _ _, w.heap.size, fld xs, rfl, Nat.le_refl _, ?_, FE.out xs (by rw [← HM.out]; exact hxs), i3.trans hfr⟩
    exact i1.own_ (grownBy_putObj' W D (.deferred none)) (fun r e => by cases e; exact ⟨_, hK, rfl⟩)
  case stop =>
    rintro D c pre W _ _ h _
    exact h.elim
end Go.Proofs.YtgpobhnonjdamaaDoor
