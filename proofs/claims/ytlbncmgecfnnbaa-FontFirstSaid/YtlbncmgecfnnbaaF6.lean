/- The laws' own font, and their helper 'head': it returns true. No condition. -/
import Derived.Test.YtlbncmgecfnnbaaF4
import Derived.Test.YtlbncmgecfnnbaaF5
import Derived.Deep.RegionHeld3
namespace Go.Proofs.Ytlbncmgecfnnbaa
open Go.ChangeShapes Go.WideShapes Go.ChangeAt Go.RowKit

def exc : Array Value := #[.int .i32 32, .int .i32 32, .int .i64 256, .int .i32 19968, .int .i32 40959, .int .i64 1024]

set_option maxRecDepth 100000 in
set_option maxHeartbeats 2000000 in
theorem example_any (w : World) :
    Calls Try.prog 20 #[] w fun e w' => e = .returned (.agg #[.int .i64 800, .int .i64 224, .int .i64 0, .int .i64 512, .int .i64 512, .slice (some ⟨w.heap.size + 1, 0, none⟩) 2 2]) ∧ Blk w' (w.heap.size + 1) 38 exc ∧ Below w.heap.size w w' := by
  go_enter Try.func20, Try.ntmps20
  go_wp2_with fail
  have hB : Blk ((w.alloc (.cells #[.int .i64 800, .int .i64 224, .int .i64 0, .int .i64 512, .int .i64 512, .slice (some ⟨w.heap.size + 1, 0, none⟩) 2 2] 24)).alloc (.cells exc 38)) (w.heap.size + 1) 38 exc := by
    have := Blk.new (w.alloc (.cells #[.int .i64 800, .int .i64 224, .int .i64 0, .int .i64 512, .int .i64 512, .slice (some ⟨w.heap.size + 1, 0, none⟩) 2 2] 24)) 38 exc
    simpa using this
  exact bodyPost_ret (v := .agg #[.int .i64 800, .int .i64 224, .int .i64 0, .int .i64 512, .int .i64 512, .slice (some ⟨w.heap.size + 1, 0, none⟩) 2 2]) (results_cell_row rfl _ _ w.heap.size 24 _ (0, 0) _ rfl ((Blk.new w _ _).alloc _) Try.underlying24 rfl (by kernel_rfl)) rfl ⟨rfl, hB, below_seq (below_alloc _ _) (below_alloc _ _)⟩

def exrs : List Rg := [⟨32, 32, 256⟩, ⟨19968, 40959, 1024⟩]
def exrt : List Rg := [⟨19968, 40959, 1024⟩, ⟨32, 32, 256⟩]
def exF (G : Nat) (rs : List Rg) : Fnt := ⟨800, 224, 0, 512, 512, .slice (some ⟨G, 0, none⟩) 2 2, rs⟩
theorem ex_wf (G : Nat) : (exF G exrs).Wf ∧ (exF G exrt).Wf := by
  refine ⟨⟨?_, ?_, ?_, ?_, ?_, ?_, ?_⟩, ⟨?_, ?_, ?_, ?_, ?_, ?_, ?_⟩⟩ <;> simp [exF, exrs, exrt, W64, W32]
theorem add_zero_block (G i : Nat) : (⟨G, 0, none⟩ : Addr).add i = ⟨G, i, none⟩ := by unfold Addr.add; split <;> simp_all
theorem ex_in {w : World} {G : Nat} {rs : List Rg} {cs : Array Value} {t : TypeId} (h : Blk w G t cs) (hl : rs.length = 2) (hc : ∀ i x, rs[i]? = some x → ∀ j u, x.cells[j]? = some u → cs[i * 3 + j]? = some u) : (exF G rs).In w := by
  refine .inr ⟨⟨G, 0, none⟩, 2, by simp [exF, hl], .inr ⟨h.lt, id⟩, fun i x hx j u hu => ?_⟩
  rw [add_zero_block, h.cell]
  rw [List.getElem?_map] at hx
  cases hr : rs[i]? with
  | none => simp only [exF] at hx; rw [hr] at hx; cases hx
  | some y =>
    simp only [exF] at hx
    rw [hr] at hx
    injection hx with hx
    subst hx
    exact hc i y hr j u hu
theorem ex_in1 {w : World} {G : Nat} {t : TypeId} (h : Blk w G t exc) : (exF G exrs).In w := by
  refine ex_in h rfl fun i x hx j u hu => ?_
  match i, hx with
  | 0, hx => injection hx with hx; subst hx; match j, hu with
    | 0, hu => exact hu
    | 1, hu => exact hu
    | 2, hu => exact hu
  | 1, hx => injection hx with hx; subst hx; match j, hu with
    | 0, hu => exact hu
    | 1, hu => exact hu
    | 2, hu => exact hu
def ext2 : Array Value := #[.int .i32 19968, .int .i32 40959, .int .i64 1024, .int .i32 32, .int .i32 32, .int .i64 256]
theorem ex_in2 {w : World} {G : Nat} {t : TypeId} (h : Blk w G t ext2) : (exF G exrt).In w := by
  refine ex_in h rfl fun i x hx j u hu => ?_
  match i, hx with
  | 0, hx => injection hx with hx; subst hx; match j, hu with
    | 0, hu => exact hu
    | 1, hu => exact hu
    | 2, hu => exact hu
  | 1, hx => injection hx with hx; subst hx; match j, hu with
    | 0, hu => exact hu
    | 1, hu => exact hu
    | 2, hu => exact hu

/-- the two ranges, turned -/
def swp (w : World) (G : Nat) : World := ((((((w.setCell ⟨G, 0, none⟩ (.int .i32 19968)).setCell ⟨G, 1, none⟩ (.int .i32 40959)).setCell ⟨G, 2, none⟩ (.int .i64 1024)).setCell ⟨G, 3, none⟩ (.int .i32 32)).setCell ⟨G, 4, none⟩ (.int .i32 32)).setCell ⟨G, 5, none⟩ (.int .i64 256)).drew
theorem swp_facts {w : World} {G : Nat} (B : Blk w G 38 exc) : Blk (swp w G) G 38 ext2 ∧ Mod (fun b => b = G) w (swp w G) := by
  have m : Mod (fun b => b = G) w (swp w G) := ((((((Mod.refl (fun b => b = G) w).setCell (p := ⟨G, 0, none⟩) (.inl rfl) _).setCell (p := ⟨G, 1, none⟩) (.inl rfl) _).setCell (p := ⟨G, 2, none⟩) (.inl rfl) _).setCell (p := ⟨G, 3, none⟩) (.inl rfl) _).setCell (p := ⟨G, 4, none⟩) (.inl rfl) _).setCell (p := ⟨G, 5, none⟩) (.inl rfl) _ |>.drew
  exact ⟨((((((B.set_ 0 (.int .i32 19968)).set_ 1 (.int .i32 40959)).set_ 2 (.int .i64 1024)).set_ 3 (.int .i32 32)).set_ 4 (.int .i32 32)).set_ 5 (.int .i64 256)).drewN 1, m⟩
theorem row_new (w : World) (cs : Array Value) (t : TypeId) (n : Nat) (hn : cs.size = n) : Row (fun _ => False) (w.alloc (.cells cs t)) (.slice (some ⟨w.heap.size, 0, none⟩) n n) cs.toList := by
  refine .inr ⟨⟨w.heap.size, 0, none⟩, n, by simp [hn], .inr ⟨by simp, id⟩, fun j u hu => ?_⟩
  rw [add_zero_block, World.cell?_alloc_new]
  simpa using hu


set_option maxRecDepth 100000 in
set_option maxHeartbeats 4000000 in
theorem fhead_any (w : World) :
    Calls Try.prog 8 #[] w fun e w' => e = .returned (.bool true) ∧ Below w.heap.size w w' := by
  go_enter Try.func8, Try.ntmps8
  go_wp2_with fail
  refine (example_any _).mono ?_
  rintro e w1 ⟨rfl, B1, b1⟩
  have HB1 := Lib.hid B1
  have hs1 := b1.size
  have hg1 : w.heap.size + 1 < w1.heap.size := B1.lt
  clear B1
  generalize w.heap.size + 1 = G1 at *
  go_wp2_with fail
  refine (example_any _).mono ?_
  rintro e w2 ⟨rfl, B2, b2⟩
  obtain ⟨G2, hG⟩ : ∃ G2, (w1.alloc (.cells #[.int .i64 800, .int .i64 224, .int .i64 0, .int .i64 512, .int .i64 512, .slice (some ⟨G1, 0, none⟩) 2 2] 24)).heap.size + 1 = G2 := ⟨_, rfl⟩
  rw [hG] at B2 ⊢
  have HG3 : Hid (G2 = w1.heap.size + 2) := by show _ = _; rw [← hG]; simp
  clear hG
  have hl2 := B2.lt
  have BF : Blk w2 w1.heap.size 24 #[.int .i64 800, .int .i64 224, .int .i64 0, .int .i64 512, .int .i64 512, .slice (some ⟨G1, 0, none⟩) 2 2] := (Blk.new w1 _ _).keep (S := fun _ => False) (Mod.of_below b2) id
  have HF1 : Hid (Blk w2 G1 38 exc) := (HB1.out.alloc _).keep (S := fun _ => False) (Mod.of_below b2) id
  have HB2 : Hid (Below w.heap.size w w2) := below_seq b1 (below_seq (below_alloc _ _) b2)
  go_wp2_with fail
  have BG := Blk.new w2 24 #[.int .i64 800, .int .i64 224, .int .i64 0, .int .i64 512, .int .i64 512, .slice (some ⟨G2, 0, none⟩) 2 2]
  have B22 := B2.alloc (.cells #[.int .i64 800, .int .i64 224, .int .i64 0, .int .i64 512, .int .i64 512, .slice (some ⟨G2, 0, none⟩) 2 2] 24)
  have BF2 := BF.alloc (.cells #[.int .i64 800, .int .i64 224, .int .i64 0, .int .i64 512, .int .i64 512, .slice (some ⟨G2, 0, none⟩) 2 2] 24)
  have HF2 : Hid (Blk (w2.alloc (.cells #[.int .i64 800, .int .i64 224, .int .i64 0, .int .i64 512, .int .i64 512, .slice (some ⟨G2, 0, none⟩) 2 2] 24)) G1 38 exc) := HF1.out.alloc (.cells #[.int .i64 800, .int .i64 224, .int .i64 0, .int .i64 512, .int .i64 512, .slice (some ⟨G2, 0, none⟩) 2 2] 24)
  have HB3 : Hid (Below w.heap.size w (w2.alloc (.cells #[.int .i64 800, .int .i64 224, .int .i64 0, .int .i64 512, .int .i64 512, .slice (some ⟨G2, 0, none⟩) 2 2] 24))) := HB2.out.alloc HB2.out.size _
  generalize (w2.alloc (.cells #[.int .i64 800, .int .i64 224, .int .i64 0, .int .i64 512, .int .i64 512, .slice (some ⟨G2, 0, none⟩) 2 2] 24)) = w3 at *
  have g5 : w3.cell? ⟨w2.heap.size, 5, none⟩ = some (.slice (some ⟨G2, 0, none⟩) 2 2) := BG.cell 5
  have d0 : w3.cell? ⟨G2, 0, none⟩ = some (.int .i32 32) := B22.cell 0
  have d1 : w3.cell? ⟨G2, 1, none⟩ = some (.int .i32 32) := B22.cell 1
  have d2 : w3.cell? ⟨G2, 2, none⟩ = some (.int .i64 256) := B22.cell 2
  have d3 : w3.cell? ⟨G2, 3, none⟩ = some (.int .i32 19968) := B22.cell 3
  have d4 : w3.cell? ⟨G2, 4, none⟩ = some (.int .i32 40959) := B22.cell 4
  have d5 : w3.cell? ⟨G2, 5, none⟩ = some (.int .i64 1024) := B22.cell 5
  have z0 : w3.frozen? ⟨G2, 0, none⟩ = false := B22.frozen 0
  have z1 : w3.frozen? ⟨G2, 1, none⟩ = false := B22.frozen 1
  have z2 : w3.frozen? ⟨G2, 2, none⟩ = false := B22.frozen 2
  have z3 : w3.frozen? ⟨G2, 3, none⟩ = false := B22.frozen 3
  have z4 : w3.frozen? ⟨G2, 4, none⟩ = false := B22.frozen 4
  have z5 : w3.frozen? ⟨G2, 5, none⟩ = false := B22.frozen 5
  have hne : G2 ≠ w2.heap.size := Nat.ne_of_lt hl2
  refine wp_region_noPanic ?_
  refine wp_region_held_drew (S := (fun w' => w'.cell? ⟨w2.heap.size, 5, none⟩ = some (.slice (some ⟨G2, 0, none⟩) 2 2))) (by kernel_rfl) g5 (fun hHeld => ?_)
  refine wpAnyH_take (i := 0) (v := ?_) (by rw [List.getElem?_toArray]; rfl) (by kernel_rfl) (by kernel_rfl) (by kernel_rfl) (fun _ _ _ h => h) (Or.inl ⟨by rfl, ?_⟩) (by assumption) ?_
  rotate_left
  · intro w hSw
    (try dsimp only at hSw)
    go_simp
    (try with_reducible rfl)
  rotate_left
  (try simp only [Act.put, List.setIfInBounds_toArray, List.set_cons_zero, List.set_cons_succ])
  refine wpAnyH_take (i := 1) (v := ?_) (by rw [List.getElem?_toArray]; rfl) (by kernel_rfl) (by kernel_rfl) (by kernel_rfl) (fun _ _ _ h => h) (Or.inl ⟨by rfl, ?_⟩) (by assumption) ?_
  rotate_left
  · intro w hSw
    (try dsimp only at hSw)
    go_simp
    (try with_reducible rfl)
  rotate_left
  (try simp only [Act.put, List.setIfInBounds_toArray, List.set_cons_zero, List.set_cons_succ])
  refine wpAnyH_take (i := 2) (v := ?_) (by rw [List.getElem?_toArray]; rfl) (by kernel_rfl) (by kernel_rfl) (by kernel_rfl) (fun _ _ _ h => h) (Or.inl ⟨by rfl, ?_⟩) (by assumption) ?_
  rotate_left
  · intro w hSw
    (try dsimp only at hSw)
    go_simp
    (try with_reducible rfl)
  rotate_left
  (try simp only [Act.put, List.setIfInBounds_toArray, List.set_cons_zero, List.set_cons_succ])
  refine wpAnyH_take (i := 3) (v := ?_) (by rw [List.getElem?_toArray]; rfl) (by kernel_rfl) (by kernel_rfl) (by kernel_rfl) (fun _ _ _ h => h) (Or.inl ⟨by rfl, ?_⟩) (by assumption) ?_
  rotate_left
  · intro w hSw
    (try dsimp only at hSw)
    go_simp
    (try with_reducible rfl)
  rotate_left
  (try simp only [Act.put, List.setIfInBounds_toArray, List.set_cons_zero, List.set_cons_succ])
  refine wpAnyH_take (i := 4) (v := ?_) (by rw [List.getElem?_toArray]; rfl) (by kernel_rfl) (by kernel_rfl) (by kernel_rfl) (fun _ _ _ h => h) (Or.inl ⟨by rfl, ?_⟩) (by assumption) ?_
  rotate_left
  · intro w hSw
    (try dsimp only at hSw)
    go_simp
    (try with_reducible rfl)
  rotate_left
  (try simp only [Act.put, List.setIfInBounds_toArray, List.set_cons_zero, List.set_cons_succ])
  refine wpAnyH_take (i := 5) (v := ?_) (by rw [List.getElem?_toArray]; rfl) (by kernel_rfl) (by kernel_rfl) (by kernel_rfl) (fun _ _ _ h => h) (Or.inl ⟨by rfl, ?_⟩) (by assumption) ?_
  rotate_left
  · intro w hSw
    (try dsimp only at hSw)
    go_simp
    (try with_reducible rfl)
  rotate_left
  (try simp only [Act.put, List.setIfInBounds_toArray, List.set_cons_zero, List.set_cons_succ])
  refine wpAnyH_take (i := 6) (v := ?_) (by rw [List.getElem?_toArray]; rfl) (by kernel_rfl) (by kernel_rfl) (by kernel_rfl) (fun _ _ _ h => h) (Or.inl ⟨by rfl, ?_⟩) (by assumption) ?_
  rotate_left
  · intro w hSw
    (try dsimp only at hSw)
    go_simp
    (try with_reducible rfl)
  rotate_left
  (try simp only [Act.put, List.setIfInBounds_toArray, List.set_cons_zero, List.set_cons_succ])
  refine wpAnyH_take (i := 8) (v := ?_) (by rw [List.getElem?_toArray]; rfl) (by kernel_rfl) (by kernel_rfl) (by kernel_rfl) (fun _ _ _ h => h) (Or.inl ⟨by rfl, ?_⟩) (by assumption) ?_
  rotate_left
  · intro w hSw
    (try dsimp only at hSw)
    go_simp
    (try with_reducible rfl)
  rotate_left
  (try simp only [Act.put, List.setIfInBounds_toArray, List.set_cons_zero, List.set_cons_succ])
  refine wpAnyH_take (i := 9) (v := ?_) (by rw [List.getElem?_toArray]; rfl) (by kernel_rfl) (by kernel_rfl) (by kernel_rfl) (fun _ _ _ h => h) (Or.inl ⟨by rfl, ?_⟩) (by assumption) ?_
  rotate_left
  · intro w hSw
    (try dsimp only at hSw)
    go_simp
    (try with_reducible rfl)
  rotate_left
  (try simp only [Act.put, List.setIfInBounds_toArray, List.set_cons_zero, List.set_cons_succ])
  refine wpAnyH_take (i := 10) (v := ?_) (by rw [List.getElem?_toArray]; rfl) (by kernel_rfl) (by kernel_rfl) (by kernel_rfl) (fun _ _ _ h => h) (Or.inl ⟨by rfl, ?_⟩) (by assumption) ?_
  rotate_left
  · intro w hSw
    (try dsimp only at hSw)
    go_simp
    (try with_reducible rfl)
  rotate_left
  (try simp only [Act.put, List.setIfInBounds_toArray, List.set_cons_zero, List.set_cons_succ])
  refine wpAnyH_ready (rs := [7, 11]) (by kernel_rfl) (by simp) ?_
  refine AllReadyH.cons (by rw [List.getElem?_toArray]; rfl) ?_ (AllReadyH.cons (by rw [List.getElem?_toArray]; rfl) ?_ AllReadyH.nil)
  · intro K hK
    go_simp
    refine hK.out _ _ g5 (fun hHeld => ?_)
    clear hK K
    (try simp only [Act.put, List.setIfInBounds_toArray, List.set_cons_zero, List.set_cons_succ])
    refine wpAnyH_ready (rs := [11]) (by kernel_rfl) (by simp) ?_
    refine AllReadyH.cons (by rw [List.getElem?_toArray]; rfl) (fun K hK => ?_) AllReadyH.nil
    go_simp
    refine hK.out _ _ g5 (fun hHeld => ?_)
    clear hK K
    (try simp only [Act.put, List.setIfInBounds_toArray, List.set_cons_zero, List.set_cons_succ])
    refine wpAnyH_take (i := 12) (v := ?_) (by rw [List.getElem?_toArray]; rfl) (by kernel_rfl) (by kernel_rfl) (by kernel_rfl) (fun _ _ _ h => h) (Or.inl ⟨by rfl, ?_⟩) (by assumption) ?_
    rotate_left
    · intro w hSw
      (try dsimp only at hSw)
      go_simp
      (try with_reducible rfl)
    rotate_left
    (try simp only [Act.put, List.setIfInBounds_toArray, List.set_cons_zero, List.set_cons_succ])
    refine wpAnyH_ready (rs := [13]) (by kernel_rfl) (by simp) ?_
    refine AllReadyH.cons (by rw [List.getElem?_toArray]; rfl) (fun K hK => ?_) AllReadyH.nil
    go_simp
    refine hK.out _ _ (by go_keep) (fun hHeld => ?_)
    clear hK K
    (try simp only [Act.put, List.setIfInBounds_toArray, List.set_cons_zero, List.set_cons_succ])
    refine wpAnyH_take (i := 14) (v := ?_) (by rw [List.getElem?_toArray]; rfl) (by kernel_rfl) (by kernel_rfl) (by kernel_rfl) (fun _ _ _ h => h) (Or.inl ⟨by rfl, ?_⟩) (by assumption) ?_
    rotate_left
    · intro w hSw
      (try dsimp only at hSw)
      go_simp
      (try with_reducible rfl)
    rotate_left
    (try simp only [Act.put, List.setIfInBounds_toArray, List.set_cons_zero, List.set_cons_succ])
    refine wpAnyH_ready (rs := [15]) (by kernel_rfl) (by simp) ?_
    refine AllReadyH.cons (by rw [List.getElem?_toArray]; rfl) (fun K hK => ?_) AllReadyH.nil
    go_simp
    refine hK.out _ _ (by go_keep) (fun hHeld => ?_)
    clear hK K
    (try simp only [Act.put, List.setIfInBounds_toArray, List.set_cons_zero, List.set_cons_succ])
    refine wpAnyH_done (by kernel_rfl) ?_ _
    refine NoPanic.normal ?_
    change Exit.then _ _ _ _ (swp w3 G2)
    have hG3 := HG3.out
    have hs2 := b2.size
    have hsz : (w1.alloc (.cells #[.int .i64 800, .int .i64 224, .int .i64 0, .int .i64 512, .int .i64 512, .slice (some ⟨G1, 0, none⟩) 2 2] 24)).heap.size = w1.heap.size + 1 := by simp
    rw [hsz] at hs2
    clear hsz
    obtain ⟨h24, hm⟩ := swp_facts B22
    have BF4 : Blk (swp w3 G2) w1.heap.size 24 #[.int .i64 800, .int .i64 224, .int .i64 0, .int .i64 512, .int .i64 512, .slice (some ⟨G1, 0, none⟩) 2 2] := BF2.keep hm (by omega)
    have hf4 : Blk (swp w3 G2) G1 38 exc := HF2.out.keep hm (by omega)
    have BG4 : Blk (swp w3 G2) w2.heap.size 24 #[.int .i64 800, .int .i64 224, .int .i64 0, .int .i64 512, .int .i64 512, .slice (some ⟨G2, 0, none⟩) 2 2] := BG.keep hm (by omega)
    have HB4 : Hid (Below w.heap.size w (swp w3 G2)) := HB3.out.trans (hm.below HB3.out.size (fun k hk => by omega))
    generalize swp w3 G2 = w4 at *
    clear hG3 hs2
    have H24 := Lib.hid h24
    have HF4 := Lib.hid hf4
    clear h24 hf4 hm d0 d1 d2 d3 d4 d5 z0 z1 z2 z3 z4 z5 g5 B22 BF2 BG HB3 HF2 hHeld hne HB2 HF1 BF b1 b2 HB1 B2
    have K1 : Hid (∀ W, Below w4.heap.size w4 W → (W.cell? ⟨w1.heap.size, 0, none⟩ = some (.int .i64 800) ∧ W.cell? ⟨w1.heap.size, 1, none⟩ = some (.int .i64 224) ∧ W.cell? ⟨w1.heap.size, 2, none⟩ = some (.int .i64 0) ∧ W.cell? ⟨w1.heap.size, 3, none⟩ = some (.int .i64 512) ∧ W.cell? ⟨w1.heap.size, 4, none⟩ = some (.int .i64 512) ∧ W.cell? ⟨w1.heap.size, 5, none⟩ = some (.slice (some ⟨G1, 0, none⟩) 2 2))) := fun W hW => by
      have h := BF4.keep (S := fun _ => False) (Mod.of_below hW) id
      exact ⟨h.cell 0, h.cell 1, h.cell 2, h.cell 3, h.cell 4, h.cell 5⟩
    have K2 : Hid (∀ W, Below w4.heap.size w4 W → (W.cell? ⟨w2.heap.size, 0, none⟩ = some (.int .i64 800) ∧ W.cell? ⟨w2.heap.size, 1, none⟩ = some (.int .i64 224) ∧ W.cell? ⟨w2.heap.size, 2, none⟩ = some (.int .i64 0) ∧ W.cell? ⟨w2.heap.size, 3, none⟩ = some (.int .i64 512) ∧ W.cell? ⟨w2.heap.size, 4, none⟩ = some (.int .i64 512) ∧ W.cell? ⟨w2.heap.size, 5, none⟩ = some (.slice (some ⟨G2, 0, none⟩) 2 2))) := fun W hW => by
      have h := BG4.keep (S := fun _ => False) (Mod.of_below hW) id
      exact ⟨h.cell 0, h.cell 1, h.cell 2, h.cell 3, h.cell 4, h.cell 5⟩
    clear BF4 BG4
    have C0 : Hid (∀ W, Below w4.heap.size w4 W → Calls Try.prog 9 #[.agg #[.int .i64 800, .int .i64 224, .int .i64 0, .int .i64 512, .int .i64 512, .slice (some ⟨G1, 0, none⟩) 2 2]] W fun e w' => e = .returned (.int .i64 0) ∧ Below W.heap.size W w') := fun W hW => by
      have h := fcheck_any (exF G1 exrs) W (ex_in1 (HF4.out.keep (S := fun _ => False) (Mod.of_below hW) id)) (ex_wf G1).1
      have e : (exF G1 exrs).chk = 0 := by kernel_rfl
      rw [e] at h
      exact h
    have C1 : Hid (∀ W, Below w4.heap.size w4 W → Calls Try.prog 11 #[.agg #[.int .i64 800, .int .i64 224, .int .i64 0, .int .i64 512, .int .i64 512, .slice (some ⟨G1, 0, none⟩) 2 2], .int .i64 1024, .int .i32 97] W fun e w' => e = .returned (.int .i64 512) ∧ Below W.heap.size W w') := fun W hW => by
      have h := fadv_any (exF G1 exrs) 1024 97 W (ex_in1 (HF4.out.keep (S := fun _ => False) (Mod.of_below hW) id)) (ex_wf G1).1 (by simp [W64])
      have e : atI (fnd (exF G1 exrs).o 97 (exF G1 exrs).rs) 1024 = 512 := by kernel_rfl
      rw [e] at h
      exact h
    have C2 : Hid (∀ W, Below w4.heap.size w4 W → Calls Try.prog 11 #[.agg #[.int .i64 800, .int .i64 224, .int .i64 0, .int .i64 512, .int .i64 512, .slice (some ⟨G1, 0, none⟩) 2 2], .int .i64 1024, .int .i32 32] W fun e w' => e = .returned (.int .i64 256) ∧ Below W.heap.size W w') := fun W hW => by
      have h := fadv_any (exF G1 exrs) 1024 32 W (ex_in1 (HF4.out.keep (S := fun _ => False) (Mod.of_below hW) id)) (ex_wf G1).1 (by simp [W64])
      have e : atI (fnd (exF G1 exrs).o 32 (exF G1 exrs).rs) 1024 = 256 := by kernel_rfl
      rw [e] at h
      exact h
    have C3 : Hid (∀ W, Below w4.heap.size w4 W → Calls Try.prog 11 #[.agg #[.int .i64 800, .int .i64 224, .int .i64 0, .int .i64 512, .int .i64 512, .slice (some ⟨G1, 0, none⟩) 2 2], .int .i64 640, .int .i32 20013] W fun e w' => e = .returned (.int .i64 640) ∧ Below W.heap.size W w') := fun W hW => by
      have h := fadv_any (exF G1 exrs) 640 20013 W (ex_in1 (HF4.out.keep (S := fun _ => False) (Mod.of_below hW) id)) (ex_wf G1).1 (by simp [W64])
      have e : atI (fnd (exF G1 exrs).o 20013 (exF G1 exrs).rs) 640 = 640 := by kernel_rfl
      rw [e] at h
      exact h
    have C4 : Hid (∀ W, Below w4.heap.size w4 W → Calls Try.prog 11 #[.agg #[.int .i64 800, .int .i64 224, .int .i64 0, .int .i64 512, .int .i64 512, .slice (some ⟨G1, 0, none⟩) 2 2], .int .i64 3, .int .i32 97] W fun e w' => e = .returned (.int .i64 2) ∧ Below W.heap.size W w') := fun W hW => by
      have h := fadv_any (exF G1 exrs) 3 97 W (ex_in1 (HF4.out.keep (S := fun _ => False) (Mod.of_below hW) id)) (ex_wf G1).1 (by simp [W64])
      have e : atI (fnd (exF G1 exrs).o 97 (exF G1 exrs).rs) 3 = 2 := by kernel_rfl
      rw [e] at h
      exact h
    have C5 : Hid (∀ W, Below w4.heap.size w4 W → Calls Try.prog 13 #[.agg #[.int .i64 800, .int .i64 224, .int .i64 0, .int .i64 512, .int .i64 512, .slice (some ⟨G1, 0, none⟩) 2 2], .int .i64 1024] W fun e w' => e = .returned (.int .i64 800) ∧ Below W.heap.size W w') := fun W hW => by
      have h := fup_any (exF G1 exrs) 1024 W (ex_wf G1).1 (by simp [W64])
      have e : atI (exF G1 exrs).a 1024 = 800 := by kernel_rfl
      rw [e] at h
      exact h
    have C6 : Hid (∀ W, Below w4.heap.size w4 W → Calls Try.prog 15 #[.agg #[.int .i64 800, .int .i64 224, .int .i64 0, .int .i64 512, .int .i64 512, .slice (some ⟨G1, 0, none⟩) 2 2], .int .i64 640] W fun e w' => e = .returned (.int .i64 140) ∧ Below W.heap.size W w') := fun W hW => by
      have h := fdown_any (exF G1 exrs) 640 W (ex_wf G1).1 (by simp [W64])
      have e : atI (exF G1 exrs).d 640 = 140 := by kernel_rfl
      rw [e] at h
      exact h
    have C7 : Hid (∀ W, Below w4.heap.size w4 W → Calls Try.prog 17 #[.agg #[.int .i64 800, .int .i64 224, .int .i64 0, .int .i64 512, .int .i64 512, .slice (some ⟨G1, 0, none⟩) 2 2], .int .i64 1] W fun e w' => e = .returned (.int .i64 1) ∧ Below W.heap.size W w') := fun W hW => by
      have h := fxh_any (exF G1 exrs) 1 W (ex_wf G1).1 (by simp [W64])
      have e : atI (exF G1 exrs).x 1 = 1 := by kernel_rfl
      rw [e] at h
      exact h
    have C8 : Hid (∀ W, Below w4.heap.size w4 W → Calls Try.prog 16 #[.agg #[.int .i64 800, .int .i64 224, .int .i64 0, .int .i64 512, .int .i64 512, .slice (some ⟨G1, 0, none⟩) 2 2], .int .i64 9] W fun e w' => e = .returned (.int .i64 0) ∧ Below W.heap.size W w') := fun W hW => by
      have h := fgap_any (exF G1 exrs) 9 W (ex_wf G1).1 (by simp [W64])
      have e : atI (exF G1 exrs).g 9 = 0 := by kernel_rfl
      rw [e] at h
      exact h
    have C9 : Hid (∀ W, Below w4.heap.size w4 W → Calls Try.prog 13 #[.agg #[.int .i64 800, .int .i64 224, .int .i64 0, .int .i64 512, .int .i64 512, .slice (some ⟨G1, 0, none⟩) 2 2], .int .i64 (-1)] W fun e w' => e = .returned (.int .i64 0) ∧ Below W.heap.size W w') := fun W hW => by
      have h := fup_any (exF G1 exrs) (-1) W (ex_wf G1).1 (by simp [W64])
      have e : atI (exF G1 exrs).a (-1) = 0 := by kernel_rfl
      rw [e] at h
      exact h
    have C10 : Hid (∀ W, Below w4.heap.size w4 W → Calls Try.prog 18 #[.agg #[.int .i64 800, .int .i64 224, .int .i64 0, .int .i64 512, .int .i64 512, .slice (some ⟨G1, 0, none⟩) 2 2], .int .i64 1024, .slice (some ⟨W.heap.size, 0, none⟩) 3 3] (W.alloc (.cells #[.int .i32 97, .int .i32 32, .int .i32 97] 21)) fun e w' => e = .returned (.int .i64 1280) ∧ Below W.heap.size W w') := fun W hW => by
      have hW2 := hW.alloc hW.size (.cells #[.int .i32 97, .int .i32 32, .int .i32 97] 21)
      have h := ftext_any (exF G1 exrs) 1024 [97, 32, 97] (.slice (some ⟨W.heap.size, 0, none⟩) 3 3) (W.alloc (.cells #[.int .i32 97, .int .i32 32, .int .i32 97] 21)) (ex_in1 (HF4.out.keep (S := fun _ => False) (Mod.of_below hW2) id)) (ex_wf G1).1 (by simp [W64]) (row_new W _ 21 3 rfl) (by simp)
      have e : txt (exF G1 exrs).o 1024 (exF G1 exrs).rs 0 [97, 32, 97] = 1280 := by kernel_rfl
      rw [e] at h
      refine h.mono ?_
      rintro e w' ⟨rfl, b⟩
      exact ⟨rfl, below_seq (below_alloc _ _) b⟩
    have C11 : Hid (∀ W, Below w4.heap.size w4 W → Calls Try.prog 9 #[.agg #[.int .i64 800, .int .i64 224, .int .i64 0, .int .i64 512, .int .i64 512, .slice (some ⟨G2, 0, none⟩) 2 2]] W fun e w' => e = .returned (.int .i64 50) ∧ Below W.heap.size W w') := fun W hW => by
      have h := fcheck_any (exF G2 exrt) W (ex_in2 (H24.out.keep (S := fun _ => False) (Mod.of_below hW) id)) (ex_wf G2).2
      have e : (exF G2 exrt).chk = 50 := by kernel_rfl
      rw [e] at h
      exact h
    clear H24 HF4
    obtain ⟨c0, c1, c2, c3, c4, c5⟩ := K1.out w4 (Below.refl _ _)
    go_wp2_with fail
    refine (C0.out w4 (Below.refl _ _)).mono ?_
    rintro e v1 ⟨rfl, b1⟩
    have bel1 : Below w4.heap.size w4 v1 := b1
    clear b1 c0 c1 c2 c3 c4 c5
    obtain ⟨c0, c1, c2, c3, c4, c5⟩ := K1.out _ bel1
    go_wp2_with fail
    refine (C1.out v1 bel1).mono ?_
    rintro e v2 ⟨rfl, b2⟩
    have bel2 : Below w4.heap.size w4 v2 := bel1.trans (b2.mono bel1.size)
    clear b2 c0 c1 c2 c3 c4 c5
    obtain ⟨c0, c1, c2, c3, c4, c5⟩ := K1.out _ bel2
    go_wp2_with fail
    refine (C2.out v2 bel2).mono ?_
    rintro e v3 ⟨rfl, b3⟩
    have bel3 : Below w4.heap.size w4 v3 := bel2.trans (b3.mono bel2.size)
    clear b3 c0 c1 c2 c3 c4 c5
    obtain ⟨c0, c1, c2, c3, c4, c5⟩ := K1.out _ bel3
    go_wp2_with fail
    refine (C3.out v3 bel3).mono ?_
    rintro e v4 ⟨rfl, b4⟩
    have bel4 : Below w4.heap.size w4 v4 := bel3.trans (b4.mono bel3.size)
    clear b4 c0 c1 c2 c3 c4 c5
    obtain ⟨c0, c1, c2, c3, c4, c5⟩ := K1.out _ bel4
    go_wp2_with fail
    refine (C4.out v4 bel4).mono ?_
    rintro e v5 ⟨rfl, b5⟩
    have bel5 : Below w4.heap.size w4 v5 := bel4.trans (b5.mono bel4.size)
    clear b5 c0 c1 c2 c3 c4 c5
    obtain ⟨c0, c1, c2, c3, c4, c5⟩ := K1.out _ bel5
    go_wp2_with fail
    refine (C5.out v5 bel5).mono ?_
    rintro e v6 ⟨rfl, b6⟩
    have bel6 : Below w4.heap.size w4 v6 := bel5.trans (b6.mono bel5.size)
    clear b6 c0 c1 c2 c3 c4 c5
    obtain ⟨c0, c1, c2, c3, c4, c5⟩ := K1.out _ bel6
    go_wp2_with fail
    refine (C6.out v6 bel6).mono ?_
    rintro e v7 ⟨rfl, b7⟩
    have bel7 : Below w4.heap.size w4 v7 := bel6.trans (b7.mono bel6.size)
    clear b7 c0 c1 c2 c3 c4 c5
    obtain ⟨c0, c1, c2, c3, c4, c5⟩ := K1.out _ bel7
    go_wp2_with fail
    refine (C7.out v7 bel7).mono ?_
    rintro e v8 ⟨rfl, b8⟩
    have bel8 : Below w4.heap.size w4 v8 := bel7.trans (b8.mono bel7.size)
    clear b8 c0 c1 c2 c3 c4 c5
    obtain ⟨c0, c1, c2, c3, c4, c5⟩ := K1.out _ bel8
    go_wp2_with fail
    refine (C8.out v8 bel8).mono ?_
    rintro e v9 ⟨rfl, b9⟩
    have bel9 : Below w4.heap.size w4 v9 := bel8.trans (b9.mono bel8.size)
    clear b9 c0 c1 c2 c3 c4 c5
    obtain ⟨c0, c1, c2, c3, c4, c5⟩ := K1.out _ bel9
    go_wp2_with fail
    refine (C9.out v9 bel9).mono ?_
    rintro e v10 ⟨rfl, b10⟩
    have bel10 : Below w4.heap.size w4 v10 := bel9.trans (b10.mono bel9.size)
    clear b10 c0 c1 c2 c3 c4 c5
    obtain ⟨c0, c1, c2, c3, c4, c5⟩ := K1.out _ bel10
    go_wp2_with fail
    refine (C10.out v10 bel10).mono ?_
    rintro e v11 ⟨rfl, b11⟩
    have bel11 : Below w4.heap.size w4 v11 := bel10.trans (b11.mono bel10.size)
    clear b11 c0 c1 c2 c3 c4 c5
    obtain ⟨c0, c1, c2, c3, c4, c5⟩ := K2.out _ bel11
    go_wp2_with fail
    refine (C11.out v11 bel11).mono ?_
    rintro e v12 ⟨rfl, b12⟩
    have bel12 : Below w4.heap.size w4 v12 := bel11.trans (b12.mono bel11.size)
    clear b12 c0 c1 c2 c3 c4 c5
    go_wp2_with fail
    go_ret
    exact ⟨rfl, HB4.out.trans (bel12.mono HB4.out.size)⟩
  · intro K hK
    go_simp
    refine hK.out _ _ g5 (fun hHeld => ?_)
    clear hK K
    (try simp only [Act.put, List.setIfInBounds_toArray, List.set_cons_zero, List.set_cons_succ])
    refine wpAnyH_ready (rs := [7]) (by kernel_rfl) (by simp) ?_
    refine AllReadyH.cons (by rw [List.getElem?_toArray]; rfl) (fun K hK => ?_) AllReadyH.nil
    go_simp
    refine hK.out _ _ g5 (fun hHeld => ?_)
    clear hK K
    (try simp only [Act.put, List.setIfInBounds_toArray, List.set_cons_zero, List.set_cons_succ])
    refine wpAnyH_take (i := 12) (v := ?_) (by rw [List.getElem?_toArray]; rfl) (by kernel_rfl) (by kernel_rfl) (by kernel_rfl) (fun _ _ _ h => h) (Or.inl ⟨by rfl, ?_⟩) (by assumption) ?_
    rotate_left
    · intro w hSw
      (try dsimp only at hSw)
      go_simp
      (try with_reducible rfl)
    rotate_left
    (try simp only [Act.put, List.setIfInBounds_toArray, List.set_cons_zero, List.set_cons_succ])
    refine wpAnyH_ready (rs := [13]) (by kernel_rfl) (by simp) ?_
    refine AllReadyH.cons (by rw [List.getElem?_toArray]; rfl) (fun K hK => ?_) AllReadyH.nil
    go_simp
    refine hK.out _ _ (by go_keep) (fun hHeld => ?_)
    clear hK K
    (try simp only [Act.put, List.setIfInBounds_toArray, List.set_cons_zero, List.set_cons_succ])
    refine wpAnyH_take (i := 14) (v := ?_) (by rw [List.getElem?_toArray]; rfl) (by kernel_rfl) (by kernel_rfl) (by kernel_rfl) (fun _ _ _ h => h) (Or.inl ⟨by rfl, ?_⟩) (by assumption) ?_
    rotate_left
    · intro w hSw
      (try dsimp only at hSw)
      go_simp
      (try with_reducible rfl)
    rotate_left
    (try simp only [Act.put, List.setIfInBounds_toArray, List.set_cons_zero, List.set_cons_succ])
    refine wpAnyH_ready (rs := [15]) (by kernel_rfl) (by simp) ?_
    refine AllReadyH.cons (by rw [List.getElem?_toArray]; rfl) (fun K hK => ?_) AllReadyH.nil
    go_simp
    refine hK.out _ _ (by go_keep) (fun hHeld => ?_)
    clear hK K
    (try simp only [Act.put, List.setIfInBounds_toArray, List.set_cons_zero, List.set_cons_succ])
    refine wpAnyH_done (by kernel_rfl) ?_ _
    refine NoPanic.normal ?_
    change Exit.then _ _ _ _ (swp w3 G2)
    have hG3 := HG3.out
    have hs2 := b2.size
    have hsz : (w1.alloc (.cells #[.int .i64 800, .int .i64 224, .int .i64 0, .int .i64 512, .int .i64 512, .slice (some ⟨G1, 0, none⟩) 2 2] 24)).heap.size = w1.heap.size + 1 := by simp
    rw [hsz] at hs2
    clear hsz
    obtain ⟨h24, hm⟩ := swp_facts B22
    have BF4 : Blk (swp w3 G2) w1.heap.size 24 #[.int .i64 800, .int .i64 224, .int .i64 0, .int .i64 512, .int .i64 512, .slice (some ⟨G1, 0, none⟩) 2 2] := BF2.keep hm (by omega)
    have hf4 : Blk (swp w3 G2) G1 38 exc := HF2.out.keep hm (by omega)
    have BG4 : Blk (swp w3 G2) w2.heap.size 24 #[.int .i64 800, .int .i64 224, .int .i64 0, .int .i64 512, .int .i64 512, .slice (some ⟨G2, 0, none⟩) 2 2] := BG.keep hm (by omega)
    have HB4 : Hid (Below w.heap.size w (swp w3 G2)) := HB3.out.trans (hm.below HB3.out.size (fun k hk => by omega))
    generalize swp w3 G2 = w4 at *
    clear hG3 hs2
    have H24 := Lib.hid h24
    have HF4 := Lib.hid hf4
    clear h24 hf4 hm d0 d1 d2 d3 d4 d5 z0 z1 z2 z3 z4 z5 g5 B22 BF2 BG HB3 HF2 hHeld hne HB2 HF1 BF b1 b2 HB1 B2
    have K1 : Hid (∀ W, Below w4.heap.size w4 W → (W.cell? ⟨w1.heap.size, 0, none⟩ = some (.int .i64 800) ∧ W.cell? ⟨w1.heap.size, 1, none⟩ = some (.int .i64 224) ∧ W.cell? ⟨w1.heap.size, 2, none⟩ = some (.int .i64 0) ∧ W.cell? ⟨w1.heap.size, 3, none⟩ = some (.int .i64 512) ∧ W.cell? ⟨w1.heap.size, 4, none⟩ = some (.int .i64 512) ∧ W.cell? ⟨w1.heap.size, 5, none⟩ = some (.slice (some ⟨G1, 0, none⟩) 2 2))) := fun W hW => by
      have h := BF4.keep (S := fun _ => False) (Mod.of_below hW) id
      exact ⟨h.cell 0, h.cell 1, h.cell 2, h.cell 3, h.cell 4, h.cell 5⟩
    have K2 : Hid (∀ W, Below w4.heap.size w4 W → (W.cell? ⟨w2.heap.size, 0, none⟩ = some (.int .i64 800) ∧ W.cell? ⟨w2.heap.size, 1, none⟩ = some (.int .i64 224) ∧ W.cell? ⟨w2.heap.size, 2, none⟩ = some (.int .i64 0) ∧ W.cell? ⟨w2.heap.size, 3, none⟩ = some (.int .i64 512) ∧ W.cell? ⟨w2.heap.size, 4, none⟩ = some (.int .i64 512) ∧ W.cell? ⟨w2.heap.size, 5, none⟩ = some (.slice (some ⟨G2, 0, none⟩) 2 2))) := fun W hW => by
      have h := BG4.keep (S := fun _ => False) (Mod.of_below hW) id
      exact ⟨h.cell 0, h.cell 1, h.cell 2, h.cell 3, h.cell 4, h.cell 5⟩
    clear BF4 BG4
    have C0 : Hid (∀ W, Below w4.heap.size w4 W → Calls Try.prog 9 #[.agg #[.int .i64 800, .int .i64 224, .int .i64 0, .int .i64 512, .int .i64 512, .slice (some ⟨G1, 0, none⟩) 2 2]] W fun e w' => e = .returned (.int .i64 0) ∧ Below W.heap.size W w') := fun W hW => by
      have h := fcheck_any (exF G1 exrs) W (ex_in1 (HF4.out.keep (S := fun _ => False) (Mod.of_below hW) id)) (ex_wf G1).1
      have e : (exF G1 exrs).chk = 0 := by kernel_rfl
      rw [e] at h
      exact h
    have C1 : Hid (∀ W, Below w4.heap.size w4 W → Calls Try.prog 11 #[.agg #[.int .i64 800, .int .i64 224, .int .i64 0, .int .i64 512, .int .i64 512, .slice (some ⟨G1, 0, none⟩) 2 2], .int .i64 1024, .int .i32 97] W fun e w' => e = .returned (.int .i64 512) ∧ Below W.heap.size W w') := fun W hW => by
      have h := fadv_any (exF G1 exrs) 1024 97 W (ex_in1 (HF4.out.keep (S := fun _ => False) (Mod.of_below hW) id)) (ex_wf G1).1 (by simp [W64])
      have e : atI (fnd (exF G1 exrs).o 97 (exF G1 exrs).rs) 1024 = 512 := by kernel_rfl
      rw [e] at h
      exact h
    have C2 : Hid (∀ W, Below w4.heap.size w4 W → Calls Try.prog 11 #[.agg #[.int .i64 800, .int .i64 224, .int .i64 0, .int .i64 512, .int .i64 512, .slice (some ⟨G1, 0, none⟩) 2 2], .int .i64 1024, .int .i32 32] W fun e w' => e = .returned (.int .i64 256) ∧ Below W.heap.size W w') := fun W hW => by
      have h := fadv_any (exF G1 exrs) 1024 32 W (ex_in1 (HF4.out.keep (S := fun _ => False) (Mod.of_below hW) id)) (ex_wf G1).1 (by simp [W64])
      have e : atI (fnd (exF G1 exrs).o 32 (exF G1 exrs).rs) 1024 = 256 := by kernel_rfl
      rw [e] at h
      exact h
    have C3 : Hid (∀ W, Below w4.heap.size w4 W → Calls Try.prog 11 #[.agg #[.int .i64 800, .int .i64 224, .int .i64 0, .int .i64 512, .int .i64 512, .slice (some ⟨G1, 0, none⟩) 2 2], .int .i64 640, .int .i32 20013] W fun e w' => e = .returned (.int .i64 640) ∧ Below W.heap.size W w') := fun W hW => by
      have h := fadv_any (exF G1 exrs) 640 20013 W (ex_in1 (HF4.out.keep (S := fun _ => False) (Mod.of_below hW) id)) (ex_wf G1).1 (by simp [W64])
      have e : atI (fnd (exF G1 exrs).o 20013 (exF G1 exrs).rs) 640 = 640 := by kernel_rfl
      rw [e] at h
      exact h
    have C4 : Hid (∀ W, Below w4.heap.size w4 W → Calls Try.prog 11 #[.agg #[.int .i64 800, .int .i64 224, .int .i64 0, .int .i64 512, .int .i64 512, .slice (some ⟨G1, 0, none⟩) 2 2], .int .i64 3, .int .i32 97] W fun e w' => e = .returned (.int .i64 2) ∧ Below W.heap.size W w') := fun W hW => by
      have h := fadv_any (exF G1 exrs) 3 97 W (ex_in1 (HF4.out.keep (S := fun _ => False) (Mod.of_below hW) id)) (ex_wf G1).1 (by simp [W64])
      have e : atI (fnd (exF G1 exrs).o 97 (exF G1 exrs).rs) 3 = 2 := by kernel_rfl
      rw [e] at h
      exact h
    have C5 : Hid (∀ W, Below w4.heap.size w4 W → Calls Try.prog 13 #[.agg #[.int .i64 800, .int .i64 224, .int .i64 0, .int .i64 512, .int .i64 512, .slice (some ⟨G1, 0, none⟩) 2 2], .int .i64 1024] W fun e w' => e = .returned (.int .i64 800) ∧ Below W.heap.size W w') := fun W hW => by
      have h := fup_any (exF G1 exrs) 1024 W (ex_wf G1).1 (by simp [W64])
      have e : atI (exF G1 exrs).a 1024 = 800 := by kernel_rfl
      rw [e] at h
      exact h
    have C6 : Hid (∀ W, Below w4.heap.size w4 W → Calls Try.prog 15 #[.agg #[.int .i64 800, .int .i64 224, .int .i64 0, .int .i64 512, .int .i64 512, .slice (some ⟨G1, 0, none⟩) 2 2], .int .i64 640] W fun e w' => e = .returned (.int .i64 140) ∧ Below W.heap.size W w') := fun W hW => by
      have h := fdown_any (exF G1 exrs) 640 W (ex_wf G1).1 (by simp [W64])
      have e : atI (exF G1 exrs).d 640 = 140 := by kernel_rfl
      rw [e] at h
      exact h
    have C7 : Hid (∀ W, Below w4.heap.size w4 W → Calls Try.prog 17 #[.agg #[.int .i64 800, .int .i64 224, .int .i64 0, .int .i64 512, .int .i64 512, .slice (some ⟨G1, 0, none⟩) 2 2], .int .i64 1] W fun e w' => e = .returned (.int .i64 1) ∧ Below W.heap.size W w') := fun W hW => by
      have h := fxh_any (exF G1 exrs) 1 W (ex_wf G1).1 (by simp [W64])
      have e : atI (exF G1 exrs).x 1 = 1 := by kernel_rfl
      rw [e] at h
      exact h
    have C8 : Hid (∀ W, Below w4.heap.size w4 W → Calls Try.prog 16 #[.agg #[.int .i64 800, .int .i64 224, .int .i64 0, .int .i64 512, .int .i64 512, .slice (some ⟨G1, 0, none⟩) 2 2], .int .i64 9] W fun e w' => e = .returned (.int .i64 0) ∧ Below W.heap.size W w') := fun W hW => by
      have h := fgap_any (exF G1 exrs) 9 W (ex_wf G1).1 (by simp [W64])
      have e : atI (exF G1 exrs).g 9 = 0 := by kernel_rfl
      rw [e] at h
      exact h
    have C9 : Hid (∀ W, Below w4.heap.size w4 W → Calls Try.prog 13 #[.agg #[.int .i64 800, .int .i64 224, .int .i64 0, .int .i64 512, .int .i64 512, .slice (some ⟨G1, 0, none⟩) 2 2], .int .i64 (-1)] W fun e w' => e = .returned (.int .i64 0) ∧ Below W.heap.size W w') := fun W hW => by
      have h := fup_any (exF G1 exrs) (-1) W (ex_wf G1).1 (by simp [W64])
      have e : atI (exF G1 exrs).a (-1) = 0 := by kernel_rfl
      rw [e] at h
      exact h
    have C10 : Hid (∀ W, Below w4.heap.size w4 W → Calls Try.prog 18 #[.agg #[.int .i64 800, .int .i64 224, .int .i64 0, .int .i64 512, .int .i64 512, .slice (some ⟨G1, 0, none⟩) 2 2], .int .i64 1024, .slice (some ⟨W.heap.size, 0, none⟩) 3 3] (W.alloc (.cells #[.int .i32 97, .int .i32 32, .int .i32 97] 21)) fun e w' => e = .returned (.int .i64 1280) ∧ Below W.heap.size W w') := fun W hW => by
      have hW2 := hW.alloc hW.size (.cells #[.int .i32 97, .int .i32 32, .int .i32 97] 21)
      have h := ftext_any (exF G1 exrs) 1024 [97, 32, 97] (.slice (some ⟨W.heap.size, 0, none⟩) 3 3) (W.alloc (.cells #[.int .i32 97, .int .i32 32, .int .i32 97] 21)) (ex_in1 (HF4.out.keep (S := fun _ => False) (Mod.of_below hW2) id)) (ex_wf G1).1 (by simp [W64]) (row_new W _ 21 3 rfl) (by simp)
      have e : txt (exF G1 exrs).o 1024 (exF G1 exrs).rs 0 [97, 32, 97] = 1280 := by kernel_rfl
      rw [e] at h
      refine h.mono ?_
      rintro e w' ⟨rfl, b⟩
      exact ⟨rfl, below_seq (below_alloc _ _) b⟩
    have C11 : Hid (∀ W, Below w4.heap.size w4 W → Calls Try.prog 9 #[.agg #[.int .i64 800, .int .i64 224, .int .i64 0, .int .i64 512, .int .i64 512, .slice (some ⟨G2, 0, none⟩) 2 2]] W fun e w' => e = .returned (.int .i64 50) ∧ Below W.heap.size W w') := fun W hW => by
      have h := fcheck_any (exF G2 exrt) W (ex_in2 (H24.out.keep (S := fun _ => False) (Mod.of_below hW) id)) (ex_wf G2).2
      have e : (exF G2 exrt).chk = 50 := by kernel_rfl
      rw [e] at h
      exact h
    clear H24 HF4
    obtain ⟨c0, c1, c2, c3, c4, c5⟩ := K1.out w4 (Below.refl _ _)
    go_wp2_with fail
    refine (C0.out w4 (Below.refl _ _)).mono ?_
    rintro e v1 ⟨rfl, b1⟩
    have bel1 : Below w4.heap.size w4 v1 := b1
    clear b1 c0 c1 c2 c3 c4 c5
    obtain ⟨c0, c1, c2, c3, c4, c5⟩ := K1.out _ bel1
    go_wp2_with fail
    refine (C1.out v1 bel1).mono ?_
    rintro e v2 ⟨rfl, b2⟩
    have bel2 : Below w4.heap.size w4 v2 := bel1.trans (b2.mono bel1.size)
    clear b2 c0 c1 c2 c3 c4 c5
    obtain ⟨c0, c1, c2, c3, c4, c5⟩ := K1.out _ bel2
    go_wp2_with fail
    refine (C2.out v2 bel2).mono ?_
    rintro e v3 ⟨rfl, b3⟩
    have bel3 : Below w4.heap.size w4 v3 := bel2.trans (b3.mono bel2.size)
    clear b3 c0 c1 c2 c3 c4 c5
    obtain ⟨c0, c1, c2, c3, c4, c5⟩ := K1.out _ bel3
    go_wp2_with fail
    refine (C3.out v3 bel3).mono ?_
    rintro e v4 ⟨rfl, b4⟩
    have bel4 : Below w4.heap.size w4 v4 := bel3.trans (b4.mono bel3.size)
    clear b4 c0 c1 c2 c3 c4 c5
    obtain ⟨c0, c1, c2, c3, c4, c5⟩ := K1.out _ bel4
    go_wp2_with fail
    refine (C4.out v4 bel4).mono ?_
    rintro e v5 ⟨rfl, b5⟩
    have bel5 : Below w4.heap.size w4 v5 := bel4.trans (b5.mono bel4.size)
    clear b5 c0 c1 c2 c3 c4 c5
    obtain ⟨c0, c1, c2, c3, c4, c5⟩ := K1.out _ bel5
    go_wp2_with fail
    refine (C5.out v5 bel5).mono ?_
    rintro e v6 ⟨rfl, b6⟩
    have bel6 : Below w4.heap.size w4 v6 := bel5.trans (b6.mono bel5.size)
    clear b6 c0 c1 c2 c3 c4 c5
    obtain ⟨c0, c1, c2, c3, c4, c5⟩ := K1.out _ bel6
    go_wp2_with fail
    refine (C6.out v6 bel6).mono ?_
    rintro e v7 ⟨rfl, b7⟩
    have bel7 : Below w4.heap.size w4 v7 := bel6.trans (b7.mono bel6.size)
    clear b7 c0 c1 c2 c3 c4 c5
    obtain ⟨c0, c1, c2, c3, c4, c5⟩ := K1.out _ bel7
    go_wp2_with fail
    refine (C7.out v7 bel7).mono ?_
    rintro e v8 ⟨rfl, b8⟩
    have bel8 : Below w4.heap.size w4 v8 := bel7.trans (b8.mono bel7.size)
    clear b8 c0 c1 c2 c3 c4 c5
    obtain ⟨c0, c1, c2, c3, c4, c5⟩ := K1.out _ bel8
    go_wp2_with fail
    refine (C8.out v8 bel8).mono ?_
    rintro e v9 ⟨rfl, b9⟩
    have bel9 : Below w4.heap.size w4 v9 := bel8.trans (b9.mono bel8.size)
    clear b9 c0 c1 c2 c3 c4 c5
    obtain ⟨c0, c1, c2, c3, c4, c5⟩ := K1.out _ bel9
    go_wp2_with fail
    refine (C9.out v9 bel9).mono ?_
    rintro e v10 ⟨rfl, b10⟩
    have bel10 : Below w4.heap.size w4 v10 := bel9.trans (b10.mono bel9.size)
    clear b10 c0 c1 c2 c3 c4 c5
    obtain ⟨c0, c1, c2, c3, c4, c5⟩ := K1.out _ bel10
    go_wp2_with fail
    refine (C10.out v10 bel10).mono ?_
    rintro e v11 ⟨rfl, b11⟩
    have bel11 : Below w4.heap.size w4 v11 := bel10.trans (b11.mono bel10.size)
    clear b11 c0 c1 c2 c3 c4 c5
    obtain ⟨c0, c1, c2, c3, c4, c5⟩ := K2.out _ bel11
    go_wp2_with fail
    refine (C11.out v11 bel11).mono ?_
    rintro e v12 ⟨rfl, b12⟩
    have bel12 : Below w4.heap.size w4 v12 := bel11.trans (b12.mono bel11.size)
    clear b12 c0 c1 c2 c3 c4 c5
    go_wp2_with fail
    go_ret
    exact ⟨rfl, HB4.out.trans (bel12.mono HB4.out.size)⟩
end Go.Proofs.Ytlbncmgecfnnbaa
