/- Contract of pair's tell: what is told of the verdict on each place, zero for the first. Conditions: the slice reads as the list, at most 1048576 long. -/
import Derived.Test.YtijdippkkaigjaaPr8
namespace Go.Proofs.Ytijdippkkaigjaa
open Go.ChangeShapes Go.WideShapes Go.ChangeAt Go.RowKit Go.Shelf

attribute [local go_sem] Oper.semAt_some

set_option maxRecDepth 100000 in
set_option maxHeartbeats 8000000 in
theorem ptellb_any (tf : Nat) (g : Int × Bool → Bool) (heg : ∀ args w, (callFunc tf args).run Try.prog w = .ok (.enter tf args) w)
    (hcl : ∀ x w, Calls Try.prog tf #[.agg (vdC x)] w fun e w' => e = .returned (.bool (g x)) ∧ Below w.heap.size w w')
    (l : List Int) (v : Value) (w : World) (hR : R8 w v l) (hlen : l.length ≤ 1048576) :
    Calls Try.prog 21 #[v, .func (.func tf) #[] #[]] w fun e w' => ∃ G, e = .returned (.slice (some ⟨G, 0, none⟩) l.length l.length) ∧ w.heap.size ≤ G ∧ Blk w' G 4 (rowV l.length (got (.bool false) (fun j => .bool (g (vdAt l j))) (List.range' 1 (l.length - 1)))) ∧ Below w.heap.size w w' := by
  have HRw := Lib.hid hR
  have HG := Lib.hid heg
  have HT := Lib.hid hcl
  obtain ⟨A, cap, hv⟩ := hR.form
  obtain ⟨n, hl⟩ : ∃ n, l.length = n := ⟨_, rfl⟩
  have HL := Lib.hid hl
  rw [r8_len, hl] at hv
  subst hv
  have hmk : ∀ W : World, _ := fun W => make_one (P := Try.prog) 25 4 (.bool false) 1 Try.underlying25 (by kernel_rfl) (by decide) rfl n (by omega) W
  obtain ⟨gz, hgz⟩ : ∃ gz : Nat → Value, (fun j => .bool (g (vdAt l j))) = gz := ⟨_, rfl⟩
  have HGZ := Lib.hid hgz
  rw [hgz, hl]
  have hlen2 : n ≤ 1048576 := by omega
  clear hR hcl hl hlen hgz heg
  refine (callsIn_wide (n := 7)).1 ?_
  refine callsIn_of_wp_marks Try.func21 rfl trivial ?_ rfl
  simp only [Try.ntmps21, List.size_toArray, List.length_cons, List.length_nil, Nat.reduceAdd, Nat.reduceSub, Array.replicate_succ, Array.replicate_zero, List.push_toArray, List.append_toArray, List.nil_append, List.cons_append]
  gi_wp2_with fail
  have F0 := Boxed.new w 44 (.func (.func tf) #[] #[])
  have R0 := Blk.new (w.alloc (.cells #[.func (.func tf) #[] #[]] 44)) 4 (rowV n (fun _ => .bool false))
  have A0 := Boxed.new ((w.alloc (.cells #[.func (.func tf) #[] #[]] 44)).alloc (.cells (rowV n (fun _ => .bool false)) 4)) 25 (.slice (some ⟨w.heap.size + 1, 0, none⟩) n n)
  simp only [World.size_alloc] at R0 A0
  have F1 := (F0.alloc (.cells (rowV n (fun _ => .bool false)) 4)).alloc (.cells #[.slice (some ⟨w.heap.size + 1, 0, none⟩) n n] 25)
  have R1 := R0.alloc (.cells #[.slice (some ⟨w.heap.size + 1, 0, none⟩) n n] 25)
  have b1 : Below w.heap.size w (((w.alloc (.cells #[.func (.func tf) #[] #[]] 44)).alloc (.cells (rowV n (fun _ => .bool false)) 4)).alloc (.cells #[.slice (some ⟨w.heap.size + 1, 0, none⟩) n n] 25)) := (((Below.refl _ w).alloc (Nat.le_refl _) _).alloc (by simp) _).alloc (by simp; omega) _
  have hsz : (((w.alloc (.cells #[.func (.func tf) #[] #[]] 44)).alloc (.cells (rowV n (fun _ => .bool false)) 4)).alloc (.cells #[.slice (some ⟨w.heap.size + 1, 0, none⟩) n n] 25)).heap.size = w.heap.size + 3 := by simp
  obtain ⟨w1, hw1⟩ : ∃ w1, (((w.alloc (.cells #[.func (.func tf) #[] #[]] 44)).alloc (.cells (rowV n (fun _ => .bool false)) 4)).alloc (.cells #[.slice (some ⟨w.heap.size + 1, 0, none⟩) n n] 25)) = w1 := ⟨_, rfl⟩
  rw [hw1] at F1 R1 A0 b1 hsz ⊢
  clear hw1 F0 R0 hmk
  refine ⟨trivial, (callsIn_wide.2 (prules_any w1)).mono ?_⟩
  rintro e w2 ⟨rfl, b2⟩
  gi_wp2_with (refine nwTbIn (fun _ => trivial) rfl rfl 6 rfl rfl (.tmp 12) rfl rfl (fun _ => rfl) (fun _ => rfl) ?_; intro w3 b3 k3 T3; refine Mk.out ?_)
  constructor
  gi_wp2_with fail
  refine ⟨trivial, (callsIn_wide.2 (pplaces_mk A n cap w3)).mono ?_⟩
  rintro e w4 ⟨rfl, S4, b4⟩
  have b13 : Below w1.heap.size w1 w3 := below_seq b2 b3
  have s1 := b1.size
  have s2 := b2.size
  have s3 := T3.lt
  have s4 := S4.lt
  have s23 := b3.size
  have s34 := b4.size
  have F4 : Boxed w4 w.heap.size 44 (.func (.func tf) #[] #[]) := (b4.block _ (by omega)).trans ((b13.block _ (by omega)).trans F1)
  have R4 : Blk w4 (w.heap.size + 1) 4 (rowV n (fun _ => .bool false)) := (b4.block _ (by omega)).trans ((b13.block _ (by omega)).trans R1)
  have A4 : Boxed w4 (w.heap.size + 1 + 1) 25 (.slice (some ⟨w.heap.size + 1, 0, none⟩) n n) := (b4.block _ (by omega)).trans ((b13.block _ (by omega)).trans A0)
  have T4 : Blk w4 w2.heap.size 51 tblV := (b4.block _ (by omega)).trans T3
  have b04 : Below w.heap.size w w4 := below_seq b1 (below_seq b13 b4)
  clear F1 R1 A0 T3 b13 b2 b3 b4 k3 b1
  have hg0 : got (.bool false) gz [] = fun _ => .bool false := by funext j; simp [got]
  rw [← hg0] at R4
  clear hg0
  gi_wp2_with fail
  refine rangeFunc_here rfl (by omega) (gf := 56) (lb := #[.pointer (some ⟨w3.heap.size, 0, none⟩)]) rfl trivial (enters_of Try.func56 (by kernel_rfl) rfl)
    (encs := encP (l := l)) (fun _ => rfl) (fun rdy pre X => Pt w (w4.heap.size + 1) 44 25 4 22 (.func (.func tf) #[] #[]) (.slice A n cap) (.slice (some ⟨w.heap.size + 1, 0, none⟩) n n) (w.heap.size + 1) (w.heap.size + 1 + 1) w2.heap.size w3.heap.size n (.bool false) gz rdy (pre.map (fun x => x.1)) X)
    (Kq (w4.heap.size + 2)) (fun xs => xs.map (fun x => x.1) = List.range' 1 (l.length - 1)) l.length (fun _ _ _ h => h.loop) ?round ?iter ?done
  case iter =>
    intro rdy hrd HY
    have bd : Below w4.heap.size w4 ((w4.alloc (.deferred (some []))).alloc rdy) := ((Below.refl _ w4).alloc (Nat.le_refl _) _).alloc (by simp) _
    have hL : ((w4.alloc (.deferred (some []))).alloc rdy).heap[w4.heap.size + 1]? = some rdy := by
      have := World.alloc_heap_new (w4.alloc (.deferred (some []))) rdy
      rwa [World.size_alloc] at this
    have hD : ((w4.alloc (.deferred (some []))).alloc rdy).heap[w4.heap.size]? = some (.deferred (some [])) := (Below.heap_alloc _ _ _ (by simp)).trans (World.alloc_heap_new w4 _)
    have hs : ((w4.alloc (.deferred (some []))).alloc rdy).heap.size = w4.heap.size + 2 := by simp
    refine (pplaces_in _ w3.heap.size (w4.heap.size + 1) l (.slice A n cap) _ (fun pre X => Pt w (w4.heap.size + 1) 44 25 4 22 (.func (.func tf) #[] #[]) (.slice A n cap) (.slice (some ⟨w.heap.size + 1, 0, none⟩) n n) (w.heap.size + 1) (w.heap.size + 1 + 1) w2.heap.size w3.heap.size n (.bool false) gz rdy (pre.map (fun x => x.1)) X) (by have := HL.out; omega) ?_ ?_ ?_ ?_).mono fun e X h => ⟨h.1, h.2⟩
    · intro pre X Y h m
      exact h.mod (B := ((w4.alloc (.deferred (some []))).alloc rdy).heap.size) (by omega) (by omega) (by omega) (by omega) (by omega) (by omega) m
    · intro pre X h
      exact ⟨h.ls.cell, HRw.out.below h.below⟩
    · rw [hs]
      exact HY
    · exact ⟨(bd.block _ F4.lt).trans F4, (bd.block _ R4.lt).trans R4, (bd.block _ A4.lt).trans A4, (bd.block _ T4.lt).trans T4, (bd.block _ S4.lt).trans S4, hL, hD, below_seq b04 bd, by omega⟩
  case round =>
    rintro rdy bsy m pre ⟨i, hi0, hil⟩ X hr hb hP hN
    obtain ⟨p, hp⟩ : ∃ p, pst l (i + 1) = p := ⟨_, rfl⟩
    obtain ⟨r, hr2⟩ : ∃ r, frst p rl = r := ⟨_, rfl⟩
    have hgi : gz i = .bool (g r) := by rw [← HGZ.out, ← hr2, ← hp]; rfl
    have HGI := Lib.hid hgi
    have hen : encP (⟨i, hi0, hil⟩ : NI l) = #[.int .i64 (i : Int), .agg (plC p)] := by unfold encP; rw [hp]
    rw [hen]
    have hin : i < n := by rw [← HL.out]; exact hil
    have hLX := hP.size
    have HPM : Hid ((pre ++ [(⟨i, hi0, hil⟩ : NI l)]).map (fun x => x.1) = pre.map (fun x => x.1) ++ [i]) := Lib.hid (by rw [List.map_append]; rfl)
    have HF : Hid (∀ W, Blk W w2.heap.size 51 tblV → Calls Try.prog 28 #[.pointer (some ⟨w2.heap.size, 0, none⟩), .agg (plC p)] W fun e W' => e = .returned (.agg (vdC r)) ∧ Below W.heap.size W W') := Lib.hid fun W h => by rw [← hr2]; exact pfirst_any p _ W h
    clear hen hgi hr2 hp
    gi_wp2_with (refine nwPIn (fun _ => trivial) rfl rfl 8 rfl rfl (.tmp 16) rfl rfl p (fun _ => rfl) (fun _ => rfl) ?_; intro w5 b5 k5 B5; refine Mk.out ?_)
    constructor
    gi_wp2_with fail
    have P5 := hP.mod (B := X.heap.size) hP.size (by omega) (by omega) (by omega) (by omega) (by omega) ((Mod.of_below (S := fun k => X.heap.size ≤ k) b5))
    refine ⟨P5.loop, ?_⟩
    have P6 := P5.put bsy (by omega) (by omega) (by omega) (by omega) (by omega)
    have B6 : Blk (w5.putObj (w4.heap.size + 1) bsy) X.heap.size 57 (plC p) := (World.putObj_heap_other (by omega)).trans B5
    have K6 : Kq (w4.heap.size + 2) X (w5.putObj (w4.heap.size + 1) bsy) := ⟨Nat.le_trans b5.size (by simp [World.putObj]), fun k h1 h2 => (World.putObj_heap_other (by omega)).trans (b5.block k h2)⟩
    obtain ⟨W6, hW6⟩ : ∃ W6, w5.putObj (w4.heap.size + 1) bsy = W6 := ⟨_, rfl⟩
    rw [hW6] at P6 B6 K6 ⊢
    clear hW6 P5 B5 b5 k5 hP
    have HC : Hid (∀ W, Below W6.heap.size W6 W → W.cell? ⟨w.heap.size + 1 + 1, 0, none⟩ = some (.slice (some ⟨w.heap.size + 1, 0, none⟩) n n) ∧ W.cell? ⟨w.heap.size, 0, none⟩ = some (.func (.func tf) #[] #[]) ∧ Blk W X.heap.size 57 (plC p) ∧ Blk W w2.heap.size 51 tblV) := Lib.hid fun W h =>
      ⟨(h.cell (p := ⟨w.heap.size + 1 + 1, 0, none⟩) P6.all.lt).trans P6.all.cell, (h.cell (p := ⟨w.heap.size, 0, none⟩) P6.fn.lt).trans P6.fn.cell, B6.keep (S := fun _ => False) (Mod.of_below h) id, P6.tb.keep (S := fun _ => False) (Mod.of_below h) id⟩
    have HP6 := Lib.hid P6
    have HK6 := Lib.hid K6
    have hinz : (i : Int) < n := by omega
    have heg := HG.out
    clear P6 B6 K6 F4 R4 A4 T4 S4 b04
    gi_wp2_with fail
    refine region_tailIn (by kernel_rfl) (fun W => Below W6.heap.size W6 W) (below_drewN (Below.refl _ _) 1) (by kernel_rfl) 7 (by rfl) (by kernel_rfl) (by kernel_rfl) (fun R hR => ?_)
    refine AllS.take (i := 0) (v := ?_) (by rw [List.getElem?_toArray]; rfl) (by kernel_rfl) (by kernel_rfl) (by kernel_rfl) (KeepsIf.read (by rfl) ?_) ?_
    rotate_left
    · intro W hSw
      (try dsimp only at hSw)
      have hq := (HC.out W hSw).1
      go_simp
      (try with_reducible rfl)
    rotate_left
    (try simp only [Act.put, List.setIfInBounds_toArray, List.set_cons_zero, List.set_cons_succ])
    refine AllS.take (i := 1) (v := ?_) (by rw [List.getElem?_toArray]; rfl) (by kernel_rfl) (by kernel_rfl) (by kernel_rfl) (KeepsIf.read (by rfl) ?_) ?_
    rotate_left
    · intro W hSw
      (try dsimp only at hSw)
      go_simp
      (try with_reducible rfl)
    rotate_left
    (try simp only [Act.put, List.setIfInBounds_toArray, List.set_cons_zero, List.set_cons_succ])
    refine AllS.take (i := 2) (v := ?_) (by rw [List.getElem?_toArray]; rfl) (by kernel_rfl) (by kernel_rfl) (by kernel_rfl) (KeepsIf.read (by rfl) ?_) ?_
    rotate_left
    · intro W hSw
      (try dsimp only at hSw)
      have hq := (HC.out W hSw).2.1
      go_simp
      (try with_reducible rfl)
    rotate_left
    (try simp only [Act.put, List.setIfInBounds_toArray, List.set_cons_zero, List.set_cons_succ])
    refine AllS.take (i := 3) (v := .agg (plC p)) (by rw [List.getElem?_toArray]; rfl) (by kernel_rfl) (by kernel_rfl) (by kernel_rfl) (KeepsIf.read (by rfl) (fun W hSw => ?_)) ?_
    · (try dsimp only at hSw)
      exact rdP (.tmp 8) rfl _ rfl p (HC.out W hSw).2.2.1.lies
    (try simp only [Act.put, List.setIfInBounds_toArray, List.set_cons_zero, List.set_cons_succ])
    refine AllS.take (i := 4) (v := .agg (vdC r)) (by rw [List.getElem?_toArray]; rfl) (by kernel_rfl) (by kernel_rfl) (by kernel_rfl) (KeepsIf.call 28 #[.pointer (some ⟨w2.heap.size, 0, none⟩), .agg (plC p)] (by kernel_rfl) (fun W => ?_) (fun W hSw => ?_)) ?_
    · go_simp
    · exact (HF.out W (HC.out W hSw).2.2.2).mono (fun e w' h => ⟨h.1, below_seq hSw h.2⟩)
    (try simp only [Act.put, List.setIfInBounds_toArray, List.set_cons_zero, List.set_cons_succ])
    refine AllS.take (i := 5) (v := .bool (g r)) (by rw [List.getElem?_toArray]; rfl) (by kernel_rfl) (by kernel_rfl) (by kernel_rfl) (KeepsIf.call tf #[.agg (vdC r)] (by kernel_rfl) (fun W => ?_) (fun W hSw => ?_)) ?_
    · go_simp
    · exact (HT.out r W).mono (fun e w' h => ⟨h.1, below_seq hSw h.2⟩)
    (try simp only [Act.put, List.setIfInBounds_toArray, List.set_cons_zero, List.set_cons_succ])
    refine AllS.take (i := 6) (v := ?_) (by rw [List.getElem?_toArray]; rfl) (by kernel_rfl) (by kernel_rfl) (by kernel_rfl) (KeepsIf.read (by rfl) ?_) ?_
    rotate_left
    · intro W hSw
      (try dsimp only at hSw)
      go_simp
      (try with_reducible rfl)
    rotate_left
    (try simp only [Act.put, List.setIfInBounds_toArray, List.set_cons_zero, List.set_cons_succ])
    refine AllS.done (by kernel_rfl) (hR.out _ ?_) _
    clear hR R
    intro W7 b7
    refine wpOpIn_of (by rw [List.getElem?_toArray]; rfl) rfl ?_
    have P7 := HP6.out.mod (B := W6.heap.size) HP6.out.size (by have := HP6.out.size; omega) (by have := HP6.out.size; omega) (by have := HP6.out.size; omega) (by have := HP6.out.size; omega) (by have := HP6.out.size; omega) (Mod.of_below (S := fun k => W6.heap.size ≤ k) b7)
    have hq := (P7.row.cell i).trans (rowV_get hin)
    have hfz := P7.row.frozen i
    refine wpIn_skp (fun _ => trivial) (fun c hc => by cases hc) (w' := W7.setCell ⟨w.heap.size + 1, i, none⟩ (.bool (g r))) (by go_simp) ?_
    have P8 := P7.set_ i (by omega) (by omega) (by omega) (by omega) (by omega) (by omega) (by omega)
    rw [HGI.out, ← HPM.out] at P8
    have k8 : Kq (w4.heap.size + 2) X (W7.setCell ⟨w.heap.size + 1, i, none⟩ (.bool (g r))) := ⟨Nat.le_trans HK6.out.1 (Nat.le_trans b7.size (by simp [World.setCell])), fun k h1 h2 => (Below.heap_setCell _ _ _ k (by show k ≠ w.heap.size + 1; omega)).trans ((b7.block k (by have := HK6.out.1; omega)).trans (HK6.out.2 k h1 h2))⟩
    obtain ⟨W8, hW8⟩ : ∃ W8, W7.setCell ⟨w.heap.size + 1, i, none⟩ (.bool (g r)) = W8 := ⟨_, rfl⟩
    rw [hW8] at P8 k8 ⊢
    have P9 := P8.put rdy (by omega) (by omega) (by omega) (by omega) (by omega)
    have k9 : Kq (w4.heap.size + 2) X (W8.putObj (w4.heap.size + 1) rdy) := ⟨Nat.le_trans k8.1 (by simp [World.putObj]), fun k h1 h2 => (World.putObj_heap_other (by omega)).trans (k8.2 k h1 h2)⟩
    have l8 := P8.loop
    clear hW8 P8 k8 P7 hq hfz
    gi_wp2_with fail
    have Q9 := P9
    rw [HPM.out] at Q9
    all_goals first | exact Q9 | exact k9 | exact l8
  case done =>
    intro rdy exh xs X hr he hxs hP
    have P9 := hP.put exh (by omega) (by omega) (by omega) (by omega) (by omega)
    obtain ⟨X9, hX9⟩ : ∃ X9, X.putObj (w4.heap.size + 1) exh = X9 := ⟨_, rfl⟩
    rw [hX9] at P9 ⊢
    clear hX9 hP
    have c9 := P9.all.cell
    gi_wp2
    refine ⟨by simp, .inl ⟨_, _, rfl, run_takeDeferred P9.defd, ?_⟩⟩
    have ga := grownBy_putObj' X9 w4.heap.size (.deferred none)
    refine ⟨_, results_tmp rfl _ _ _, w.heap.size + 1, rfl, by omega, ?_, P9.below.grown ga P9.below.size (fun k e => by injection e with e; omega)⟩
    have := P9.row
    rw [hxs, HL.out] at this
    exact (World.putObj_heap_other (by omega)).trans this
end Go.Proofs.Ytijdippkkaigjaa
