/- Contracts of the laws' text, becomes and head. Conditions: numbers lie where the slice says, at most 1000; class's table lies in memory. -/
import Derived.Test.YtejcfhfmdijimaaDoorWhH
namespace Go.Proofs.YtejcfhfmdijimaaDoor
open Go.ChangeShapes Go.WideShapes Go.ChangeAt Go.RowKit Go.Shelf
open Wh

/-- characters of one node -/
def textF (node : Int) : Nat → List Int → List Cr
  | _, [] => []
  | i, z :: zs => ⟨z, node, i, 1, 0⟩ :: textF node (i + 1) zs
theorem textF_snoc (node z : Int) : ∀ (zs : List Int) (i : Nat), textF node i (zs ++ [z]) = textF node i zs ++ [⟨z, node, ((i + zs.length : Nat) : Int), 1, 0⟩]
  | [], i => rfl
  | y :: zs, i => by
    rw [List.cons_append, textF, textF, textF_snoc node z zs (i + 1), List.cons_append, List.length_cons, show i + 1 + zs.length = i + (zs.length + 1) by omega]
theorem textF_len (node : Int) : ∀ (zs : List Int) (i : Nat), (textF node i zs).length = zs.length
  | [], _ => rfl
  | z :: zs, i => by rw [textF, List.length_cons, List.length_cons, textF_len node zs (i + 1)]

set_option maxRecDepth 100000 in
set_option maxHeartbeats 4000000 in
theorem wtext_any (node : Int) (v : Value) (zs : List Int) (w : World) (h1 : Row (fun _ => False) w v (zs.map (Value.int .i32))) (hn : zs.length ≤ 1000) :
    Calls Tryd.prog 20 #[.int .i64 node, v] w fun e w' => ∃ u, e = .returned u ∧ OwC w.heap.size w' u (textF node 0 zs) ∧ Below w.heap.size w w' := by
  have H1 := Lib.hid h1
  obtain ⟨A, c, rfl⟩ := h1.form
  obtain ⟨n, hl⟩ : ∃ n, zs.length = n := ⟨_, rfl⟩
  have HL := Lib.hid hl
  rw [List.length_map, hl] at H1 ⊢
  rw [hl] at hn
  clear h1 hl
  go_enter Tryd.func20, Tryd.ntmps20
  go_wp2_with fail
  have O0 : OwC w.heap.size w (.slice none 0 0) (textF node 0 (zs.take 0)) := World.ownsRow_nil _ _ _ _
  go_loopg [5, 6] n (fun kx s5 s6 wr => ∃ (k : Nat) (u : Value), u = s5 ∧ s6 = .int .i64 k ∧ k ≤ n ∧ kx = n - k ∧ OwC w.heap.size wr u (textF node 0 (zs.take k)) ∧ Below w.heap.size w wr)
  case atStart => exact ⟨0, _, rfl, rfl, by omega, by omega, O0, Below.refl _ _⟩
  case round =>
    clear O0
    obtain ⟨k, u, rfl, rfl, hk, rfl, O, b⟩ := hrel
    by_cases hkm : k < n
    · have hzl : k < zs.length := by rw [HL.out]; exact hkm
      obtain ⟨z, hz⟩ : ∃ z, zs[k]? = some z := ⟨_, List.getElem?_eq_getElem hzl⟩
      have hkz : (k : Int) < n := by omega
      have R := H1.out.below b
      obtain ⟨a, cap, hv, hab, -, hc⟩ := R.at_ (by rw [List.length_map]; omega)
      have hcell := hc k (.int .i32 z) (by rw [List.getElem?_map, hz]; rfl)
      rw [List.length_map, HL.out] at hv
      injection hv with hv1 hv2 hv3
      subst hv1 hv3
      have hln : (textF node 0 (zs.take k)).length = k := by rw [textF_len, List.length_take]; omega
      have hsn : textF node 0 (zs.take (k + 1)) = textF node 0 (zs.take k) ++ [⟨z, node, (k : Int), 1, 0⟩] := by
        rw [List.take_add_one, hz]
        show textF node 0 (zs.take k ++ [z]) = _
        rw [textF_snoc, List.length_take, Nat.min_eq_left (by omega), Nat.zero_add]
      have HSN := Lib.hid hsn
      have O' : wr.ownsRow w.heap.size 38 5 u k (flatC (textF node 0 (zs.take k))) := by have := O; unfold OwC at this; rwa [hln] at this
      have HLN := Lib.hid hln
      have HB := Lib.hid b
      have hbs := b.size
      clear hv2 hc hz hln hsn O b R hzl hab
      go_wp2_with (refine apC (o1 := ⟨some 21, _, _, _, _, _⟩) rfl (.tmp 20) rfl 21 rfl rfl (.tmp 13) rfl ⟨z, node, (k : Int), 1, 0⟩ rfl _ (fun _ => rfl) (fun _ => rfl) w.heap.size k _ O' (by omega) hbs ?_; intro u4 v5 w5 O5 b5; refine Mk.out ?_)
      constructor
      have O6 : OwC w.heap.size w5 v5 (textF node 0 (zs.take (k + 1))) := by
        unfold OwC
        rw [HSN.out, List.length_append, HLN.out, flatC_snoc]
        exact O5
      have b6 := HB.out.trans b5
      clear O5 b5 O' hcell
      go_wp2_with fail
      go_roundg (n - (k + 1))
      case measure => omega
      case rel => exact ⟨k + 1, _, rfl, by go_num, by omega, by omega, O6, b6⟩
    · obtain rfl : k = n := by omega
      have hta : zs.take k = zs := List.take_of_length_le (by rw [HL.out]; exact Nat.le_refl _)
      rw [hta] at O
      have HO := Lib.hid O
      clear O hta
      go_wp2_with fail
      go_ret
      exact ⟨_, rfl, HO.out, b⟩

/-- a literal row -/
theorem row_lit (w : World) (cs : Array Value) (T : TypeId) (n : Nat) (hn : cs.size = n) : Row (fun _ => False) (w.alloc (.cells cs T)) (.slice (some ⟨w.heap.size, 0, none⟩) n n) cs.toList :=
  .inr ⟨⟨w.heap.size, 0, none⟩, n, by rw [Array.length_toList, hn], .inr ⟨by simp, id⟩, fun j u hj => by
    rw [Addr.add_lit, Nat.zero_add, World.cell?_alloc_new]
    simpa using hj⟩
def sty1 (x : Int) : Sty := ⟨x, 0, 0, 0, 0, 0, 0, 0, 0⟩
theorem ss_lit (w : World) (ss : List Sty) (cs : Array Value) (T : TypeId) (n : Nat) (hs : ss.length = n) (hn : n ≤ 1000) (hc : cs.toList = (ss.map fun s => s.cells.toList).flatten) : Ss (w.alloc (.cells cs T)) (.slice (some ⟨w.heap.size, 0, none⟩) n n) ss := by
  have hl : ∀ l : List Sty, ((l.map fun s => s.cells.toList).flatten).length = l.length * 9 := fun l => by
    induction l with
    | nil => rfl
    | cons x l ih => rw [List.map_cons, List.flatten_cons, List.length_append, ih, List.length_cons]; show 9 + _ = _; omega
  have own : (w.alloc (.cells cs T)).ownsRow w.heap.size T 9 (.slice (some ⟨w.heap.size, 0, none⟩) n n) n ((ss.map fun s => s.cells.toList).flatten) := by
    refine ⟨by rw [hl, hs], .inr ⟨w.heap.size, n, cs, rfl, Nat.le_refl _, heap_alloc_new w _, Nat.le_refl _, by unfold maxLen; omega, ?_, ?_⟩⟩
    · rw [← Array.length_toList, hc, hl, hs]
    · rw [hc, List.take_of_length_le (by rw [hl, hs]; exact Nat.le_refl _)]
  exact RowN.mono (T := fun _ => False) (RowN.of_own own rfl (by rw [List.length_map]; exact hs) (fun x hx => by
    obtain ⟨s, _, rfl⟩ := List.mem_map.1 hx
    rfl)) fun _ _ h => h.elim

set_option maxRecDepth 100000 in
set_option maxHeartbeats 8000000 in
theorem wbecomes_yes (st : Int) (zs ks : List Int) (rs : ByteArray) (v1 v3 : Value) (w : World) (hT : Tab w) (hZ : Row (fun _ => False) w v1 (zs.map (Value.int .i32))) (hK : Row (fun _ => False) w v3 (ks.map (Value.int .u8))) (hn : zs.length ≤ 1000)
    (hmay : mayB [sty1 st] (textF 0 0 zs) = true) (A : List Cr) (hA : collapse (whF [sty1 st]) wideB (textF 0 0 zs) = A) (hk : A.map Cr.kind = ks) (hr : keptL A = bs rs) (hfit : ∀ c ∈ A, -2147483648 ≤ c.r ∧ c.r ≤ 2147483647) :
    Calls Tryd.prog 21 #[.int .u8 st, v1, .string rs, v3] w fun e w' => e = .returned (.bool true) ∧ Below w.heap.size w w' := by
  have HT := Lib.hid hT
  have HKR := Lib.hid hK
  have C1 := Lib.hid (wtext_any 0 v1 zs w hZ hn)
  have CC : Hid (∀ (W : World) (u sv : Value), Below w.heap.size w W → OwC w.heap.size W u (textF 0 0 zs) → Ss W sv [sty1 st] → Calls Tryd.prog 10 #[u, sv] W fun e w' => ∃ u', e = .returned (.tuple #[u', .int .i64 0]) ∧ OwC w.heap.size w' u' A ∧ Below w.heap.size w w') := Lib.hid fun W u sv b O S =>
    (wcollapse_any (textF 0 0 zs) u [sty1 st] sv W O.rw_ S (by rw [textF_len]; omega) (HT.out.below b)).mono fun e w' h => by
      rcases h with ⟨_, u', h1, h2, h3⟩ | ⟨h1, _⟩
      · rw [hA] at h2
        exact ⟨u', h1, h2.base_ b.size, b.trans (h3.mono b.size)⟩
      · rw [hmay] at h1; cases h1
  have hAl : A.length ≤ 1000 := by rw [← hA]; exact Nat.le_trans (left_collapse _).len (by rw [textF_len]; exact hn)
  have HR := Lib.hid hr
  have HF := Lib.hid hfit
  obtain ⟨Z, c, rfl⟩ := hZ.form
  obtain ⟨K, c3, rfl⟩ := hK.form
  have hkn : ks.length = A.length := by rw [← hk, List.length_map]
  have HKS := Lib.hid hk
  obtain ⟨n, hnn⟩ : ∃ n, A.length = n := ⟨_, rfl⟩
  have HN := Lib.hid hnn
  obtain ⟨p, hp⟩ : ∃ p, zs.length = p := ⟨_, rfl⟩
  rw [List.length_map, hp] at C1 ⊢
  rw [List.length_map, hkn, hnn] at HKR ⊢
  rw [hnn] at hAl
  clear hT hZ hK hn hmay hA hk hr hfit hkn hnn hp
  go_enter Tryd.func21, Tryd.ntmps21
  go_wp2_with fail
  refine C1.out.mono ?_
  rintro e w1 ⟨u, rfl, O1, b1⟩
  have HO1 := Lib.hid O1
  clear O1 C1
  go_wp2_with (refine wpList_valIf (o := ⟨some 17, _, _, _, _, _⟩) (w' := w1.alloc (.cells (sty1 st).cells 33)) (wanted_none rfl _) _ rfl (.slice (some ⟨w1.heap.size, 0, none⟩) 1 1) (by kernel_rfl) ?_)
  refine (CC.out _ _ _ (b1.trans ((below_alloc w1 _).mono b1.size)) (HO1.out.below (below_alloc w1 _)) (ss_lit w1 [sty1 st] _ _ 1 rfl (by omega) (by simp))).mono ?_
  rintro e w2 ⟨u2, rfl, O2, b2⟩
  have CK : Hid (∀ W, Below w2.heap.size w2 W → Calls Tryd.prog 15 #[u2] W fun e w' => e = .returned (.string rs) ∧ Below w2.heap.size w2 w') := Lib.hid fun W b =>
    (wkept_any A u2 W (O2.below b).rw_ (by rw [HN.out]; omega) HF.out).mono fun e w' ⟨s, h1, h2, h3⟩ => ⟨by rw [h1, bs_inj s rs (h2.trans HR.out)], below_seq b h3⟩
  have HRW := Lib.hid O2.rw_
  have H2 := Lib.hid b2
  obtain ⟨A2, c4, rfl⟩ := O2.rw_.form
  rw [HN.out] at HRW CK ⊢
  clear O2 b2 HO1 CC b1
  go_wp2_with fail
  refine (CK.out w2 (Below.refl _ _)).mono ?_
  rintro e w3 ⟨rfl, b3⟩
  clear CK
  go_wp2_with fail
  go_loopg [11] n (fun kx s11 wr => ∃ k : Nat, s11 = .int .i64 k ∧ k ≤ n ∧ kx = n - k ∧ Below w2.heap.size w2 wr)
  case atStart => exact ⟨0, rfl, by omega, by omega, b3⟩
  case round =>
    clear b3
    obtain ⟨k, rfl, hk, rfl, b⟩ := hrel
    by_cases hkm : k < n
    · have hkz : (k : Int) < n := by omega
      obtain ⟨x, hx⟩ := atC_of (l := A) (i := k) (by rw [HN.out]; exact hkm)
      obtain ⟨a1, cap1, o1, hv, _, ha1, hL1⟩ := HRW.out.get b hx
      rw [HN.out] at hv
      injection hv with hv1 hv2 hv3
      subst hv1 hv3
      have hkk : ks[k]? = some x.kind := by rw [← HKS.out, List.getElem?_map, hx]; rfl
      have hkl : (ks.map (Value.int .u8)).length = n := by rw [List.length_map, ← HKS.out, List.length_map, HN.out]
      have hb2 := H2.out.trans (b.mono H2.out.size)
      have R := HKR.out.below hb2
      obtain ⟨a3, cap3, hv, hab3, -, hc⟩ := R.at_ (by rw [hkl]; omega)
      have hcell := hc k (.int .u8 x.kind) (by rw [List.getElem?_map, hkk]; rfl)
      rw [hkl] at hv
      injection hv with hv1 hv4 hv3
      subst hv1 hv3
      obtain ⟨kd, hkd⟩ : ∃ z, x.kind = z := ⟨_, rfl⟩
      have q4 : wr.cell? ⟨a1.block, o1 + 4, none⟩ = some (.int .u8 x.kind) := by have := hL1 4 _ rfl; rwa [Addr.add_lit] at this
      rw [hkd] at hcell q4
      have CX : Hid (∀ W, Below wr.heap.size wr W → W.cell? ⟨a1.block, o1 + 4, none⟩ = some (.int .u8 kd) ∧ W.cell? (a3.add k) = some (.int .u8 kd)) := Lib.hid fun W h =>
        ⟨(h.cell (p := ⟨a1.block, o1 + 4, none⟩) (World.block_lt_of_cell? _ _ q4)).trans q4, (h.cell (p := a3.add k) (World.block_lt_of_cell? _ _ hcell)).trans hcell⟩
      clear hv2 hv4 hx hkk hkl hb2 R hab3 hc hkd q4 hcell hL1
      go_wp2_with fail

      refine region_any (by kernel_rfl) (fun W => Below wr.heap.size wr W) (below_drewN (Below.refl _ _) 1) (fun R hR => ?_)
      refine AllS.take (i := 0) (v := ?_) (by rw [List.getElem?_toArray]; rfl) (by kernel_rfl) (by kernel_rfl) (by kernel_rfl) (KeepsIf.read (by rfl) ?_) ?_
      rotate_left
      · intro W hSw
        (try dsimp only at hSw)
        obtain ⟨q4, q5⟩ := CX.out W hSw
        go_simp
        (try with_reducible rfl)
      rotate_left
      (try simp only [Act.put, List.setIfInBounds_toArray, List.set_cons_zero, List.set_cons_succ])
      refine AllS.take (i := 1) (v := ?_) (by rw [List.getElem?_toArray]; rfl) (by kernel_rfl) (by kernel_rfl) (by kernel_rfl) (KeepsIf.read (by rfl) ?_) ?_
      rotate_left
      · intro W hSw
        (try dsimp only at hSw)
        obtain ⟨q4, q5⟩ := CX.out W hSw
        go_simp
        (try with_reducible rfl)
      rotate_left
      (try simp only [Act.put, List.setIfInBounds_toArray, List.set_cons_zero, List.set_cons_succ])
      refine AllS.take (i := 2) (v := ?_) (by rw [List.getElem?_toArray]; rfl) (by kernel_rfl) (by kernel_rfl) (by kernel_rfl) (KeepsIf.read (by rfl) ?_) ?_
      rotate_left
      · intro W hSw
        (try dsimp only at hSw)
        obtain ⟨q4, q5⟩ := CX.out W hSw
        go_simp
        (try with_reducible rfl)
      rotate_left
      (try simp only [Act.put, List.setIfInBounds_toArray, List.set_cons_zero, List.set_cons_succ])
      refine AllS.take (i := 3) (v := ?_) (by rw [List.getElem?_toArray]; rfl) (by kernel_rfl) (by kernel_rfl) (by kernel_rfl) (KeepsIf.read (by rfl) ?_) ?_
      rotate_left
      · intro W hSw
        (try dsimp only at hSw)
        obtain ⟨q4, q5⟩ := CX.out W hSw
        go_simp
        (try with_reducible rfl)
      rotate_left
      (try simp only [Act.put, List.setIfInBounds_toArray, List.set_cons_zero, List.set_cons_succ])
      refine AllS.take (i := 4) (v := ?_) (by rw [List.getElem?_toArray]; rfl) (by kernel_rfl) (by kernel_rfl) (by kernel_rfl) (KeepsIf.read (by rfl) ?_) ?_
      rotate_left
      · intro W hSw
        (try dsimp only at hSw)
        obtain ⟨q4, q5⟩ := CX.out W hSw
        go_simp
        (try with_reducible rfl)
      rotate_left
      (try simp only [Act.put, List.setIfInBounds_toArray, List.set_cons_zero, List.set_cons_succ])
      refine AllS.take (i := 5) (v := ?_) (by rw [List.getElem?_toArray]; rfl) (by kernel_rfl) (by kernel_rfl) (by kernel_rfl) (KeepsIf.read (by rfl) ?_) ?_
      rotate_left
      · intro W hSw
        (try dsimp only at hSw)
        obtain ⟨q4, q5⟩ := CX.out W hSw
        go_simp
        (try with_reducible rfl)
      rotate_left
      (try simp only [Act.put, List.setIfInBounds_toArray, List.set_cons_zero, List.set_cons_succ])
      refine AllS.take (i := 6) (v := ?_) (by rw [List.getElem?_toArray]; rfl) (by kernel_rfl) (by kernel_rfl) (by kernel_rfl) (KeepsIf.read (by rfl) ?_) ?_
      rotate_left
      · intro W hSw
        (try dsimp only at hSw)
        obtain ⟨q4, q5⟩ := CX.out W hSw
        go_simp
        (try with_reducible rfl)
      rotate_left
      (try simp only [Act.put, List.setIfInBounds_toArray, List.set_cons_zero, List.set_cons_succ])
      refine AllS.take (i := 7) (v := ?_) (by rw [List.getElem?_toArray]; rfl) (by kernel_rfl) (by kernel_rfl) (by kernel_rfl) (KeepsIf.read (by rfl) ?_) ?_
      rotate_left
      · intro W hSw
        (try dsimp only at hSw)
        obtain ⟨q4, q5⟩ := CX.out W hSw
        go_simp
        (try with_reducible rfl)
      rotate_left
      (try simp only [Act.put, List.setIfInBounds_toArray, List.set_cons_zero, List.set_cons_succ])
      refine AllS.take (i := 8) (v := ?_) (by rw [List.getElem?_toArray]; rfl) (by kernel_rfl) (by kernel_rfl) (by kernel_rfl) (KeepsIf.read (by rfl) ?_) ?_
      rotate_left
      · intro W hSw
        (try dsimp only at hSw)
        obtain ⟨q4, q5⟩ := CX.out W hSw
        go_simp
        (try with_reducible rfl)
      rotate_left
      (try simp only [Act.put, List.setIfInBounds_toArray, List.set_cons_zero, List.set_cons_succ])
      refine AllS.take (i := 9) (v := .bool false) (by rw [List.getElem?_toArray]; rfl) (by kernel_rfl) (by kernel_rfl) (by kernel_rfl) (KeepsIf.read (by rfl) (fun W hSw => ?_)) ?_
      · (try dsimp only at hSw)
        obtain ⟨q4, q5⟩ := CX.out W hSw
        go_simp
      (try simp only [Act.put, List.setIfInBounds_toArray, List.set_cons_zero, List.set_cons_succ])
      refine AllS.done (by kernel_rfl) (hR.out _ ?_) _
      clear hR R
      intro w5 b5
      clear CX ha1
      go_wp2_with fail
      go_roundg (n - (k + 1))
      case measure => omega
      case rel => exact ⟨k + 1, by go_num, by omega, by omega, below_seq b b5⟩
    · obtain rfl : k = n := by omega
      go_wp2_with fail
      go_ret
      exact ⟨rfl, H2.out.trans (b.mono H2.out.size)⟩


theorem wrow0 (v1 v3 : Value) (w : World) (hT : Tab w) (hZ : Row (fun _ => False) w v1 [.int .i32 97, .int .i32 32, .int .i32 32, .int .i32 9, .int .i32 98, .int .i32 32]) (hK : Row (fun _ => False) w v3 [.int .u8 0, .int .u8 1, .int .u8 0, .int .u8 1]) :
    Calls Tryd.prog 21 #[.int .u8 0, v1, .string ⟨#[97, 32, 98, 32]⟩, v3] w fun e w' => e = .returned (.bool true) ∧ Below w.heap.size w w' :=
  wbecomes_yes 0 [97, 32, 32, 9, 98, 32] [0, 1, 0, 1] ⟨#[97, 32, 98, 32]⟩ v1 v3 w hT hZ hK (by decide) (by decide +kernel) [⟨97, 0, 0, 1, 0⟩, ⟨32, 0, 1, 1, 1⟩, ⟨98, 0, 4, 1, 0⟩, ⟨32, 0, 5, 1, 1⟩] (by decide +kernel) rfl (by decide +kernel) (by decide)


theorem wrow1 (v1 v3 : Value) (w : World) (hT : Tab w) (hZ : Row (fun _ => False) w v1 [.int .i32 97, .int .i32 32, .int .i32 10, .int .i32 32, .int .i32 10, .int .i32 98]) (hK : Row (fun _ => False) w v3 [.int .u8 0, .int .u8 1, .int .u8 0]) :
    Calls Tryd.prog 21 #[.int .u8 0, v1, .string ⟨#[97, 32, 98]⟩, v3] w fun e w' => e = .returned (.bool true) ∧ Below w.heap.size w w' :=
  wbecomes_yes 0 [97, 32, 10, 32, 10, 98] [0, 1, 0] ⟨#[97, 32, 98]⟩ v1 v3 w hT hZ hK (by decide) (by decide +kernel) [⟨97, 0, 0, 1, 0⟩, ⟨32, 0, 2, 1, 1⟩, ⟨98, 0, 5, 1, 0⟩] (by decide +kernel) rfl (by decide +kernel) (by decide)


theorem wrow2 (v1 v3 : Value) (w : World) (hT : Tab w) (hZ : Row (fun _ => False) w v1 [.int .i32 97, .int .i32 32, .int .i32 10, .int .i32 32, .int .i32 98]) (hK : Row (fun _ => False) w v3 [.int .u8 0, .int .u8 5, .int .u8 0]) :
    Calls Tryd.prog 21 #[.int .u8 4, v1, .string ⟨#[97, 10, 98]⟩, v3] w fun e w' => e = .returned (.bool true) ∧ Below w.heap.size w w' :=
  wbecomes_yes 4 [97, 32, 10, 32, 98] [0, 5, 0] ⟨#[97, 10, 98]⟩ v1 v3 w hT hZ hK (by decide) (by decide +kernel) [⟨97, 0, 0, 1, 0⟩, ⟨10, 0, 2, 1, 5⟩, ⟨98, 0, 4, 1, 0⟩] (by decide +kernel) rfl (by decide +kernel) (by decide)


theorem wrow3 (v1 v3 : Value) (w : World) (hT : Tab w) (hZ : Row (fun _ => False) w v1 [.int .i32 97, .int .i32 32, .int .i32 9, .int .i32 10]) (hK : Row (fun _ => False) w v3 [.int .u8 0, .int .u8 2, .int .u8 4, .int .u8 5]) :
    Calls Tryd.prog 21 #[.int .u8 3, v1, .string ⟨#[97, 32, 9, 10]⟩, v3] w fun e w' => e = .returned (.bool true) ∧ Below w.heap.size w w' :=
  wbecomes_yes 3 [97, 32, 9, 10] [0, 2, 4, 5] ⟨#[97, 32, 9, 10]⟩ v1 v3 w hT hZ hK (by decide) (by decide +kernel) [⟨97, 0, 0, 1, 0⟩, ⟨32, 0, 1, 1, 2⟩, ⟨9, 0, 2, 1, 4⟩, ⟨10, 0, 3, 1, 5⟩] (by decide +kernel) rfl (by decide +kernel) (by decide)


theorem wrow4 (v1 v3 : Value) (w : World) (hT : Tab w) (hZ : Row (fun _ => False) w v1 [.int .i32 19968, .int .i32 10, .int .i32 20108]) (hK : Row (fun _ => False) w v3 [.int .u8 0, .int .u8 0]) :
    Calls Tryd.prog 21 #[.int .u8 0, v1, .string ⟨#[228, 184, 128, 228, 186, 140]⟩, v3] w fun e w' => e = .returned (.bool true) ∧ Below w.heap.size w w' :=
  wbecomes_yes 0 [19968, 10, 20108] [0, 0] ⟨#[228, 184, 128, 228, 186, 140]⟩ v1 v3 w hT hZ hK (by decide) (by decide +kernel) [⟨19968, 0, 0, 1, 0⟩, ⟨20108, 0, 2, 1, 0⟩] (by decide +kernel) rfl (by decide +kernel) (by decide)


theorem wrow5 (v1 v3 : Value) (w : World) (hT : Tab w) (hZ : Row (fun _ => False) w v1 [.int .i32 97, .int .i32 8203, .int .i32 10, .int .i32 98]) (hK : Row (fun _ => False) w v3 [.int .u8 0, .int .u8 0, .int .u8 0]) :
    Calls Tryd.prog 21 #[.int .u8 0, v1, .string ⟨#[97, 226, 128, 139, 98]⟩, v3] w fun e w' => e = .returned (.bool true) ∧ Below w.heap.size w w' :=
  wbecomes_yes 0 [97, 8203, 10, 98] [0, 0, 0] ⟨#[97, 226, 128, 139, 98]⟩ v1 v3 w hT hZ hK (by decide) (by decide +kernel) [⟨97, 0, 0, 1, 0⟩, ⟨8203, 0, 1, 1, 0⟩, ⟨98, 0, 3, 1, 0⟩] (by decide +kernel) rfl (by decide +kernel) (by decide)


/-! ### append of a list -/
theorem app_rows {base : Nat} {w : World} {v v2 : Value} {l m : List Cr} (hO : OwC base w v l) (hR : RwC w v2 m) (hb : base ≤ w.heap.size) (hlen : l.length + m.length ≤ 4194304) (ty : TypeId) :
    ∃ v' w', (Builtin.append_ #[22, 22] ty #[v, v2]).run Tryd.prog w = .ok v' w' ∧ OwC base w' v' (l ++ m) ∧ Below base w w' := by
  obtain ⟨i0, hi, hz0, hz1, hz2⟩ := info_agg infoC
  rcases hR with ⟨rfl, hm⟩ | ⟨ad, cap, rfl, hab, hc⟩
  · obtain rfl : m = [] := by simpa using hm
    refine ⟨v, w, ?_, by rw [List.append_nil]; exact hO, Below.refl _ _⟩
    rcases hO.2 with ⟨rfl, h0⟩ | ⟨g, c, cur, rfl, _, _, hnc, _⟩
    · simp [Builtin.append_, run_underlying Tryd.underlying22, sizeOf, typeInfo, hi, Builtin.lenOf, Builtin.firstCells]
    · simp [Builtin.append_, run_underlying Tryd.underlying22, sizeOf, typeInfo, hi, Builtin.lenOf, Builtin.firstCells, hnc, storeCells]
  · have hR2 : RwC w (.slice (some ad) m.length cap) m := .inr ⟨ad, cap, by rw [List.length_map], hab, hc⟩
    rw [List.length_map]
    obtain ⟨v', w', h1, h2, h3, _⟩ := run_append_own (P := Tryd.prog) (w := w) base 22 ty 38 i0 (.agg (chA zCr)) 5 40 Tryd.underlying22 hi hz0 hz1 hz2 rfl (by decide) v l.length (flatC l) hO ad m.length cap (flatC m) (flatC_len m) hR2.flat (flatC_one m) (by unfold maxLen; omega) (by omega) hb
    refine ⟨v', w', h1, ?_, below_grown h3 hb fun g hg => own_geW hO hg⟩
    unfold OwC
    rw [List.length_append, flatC_app]
    exact h2
section
variable {ops : Array Oper} {Q : Exit → Act → World → Prop} {a : Act} {w : World} {rest : List Oper} {o : Oper}
theorem run_op_app {base : Nat} {v v2 : Value} {l m : List Cr} (s x : Operand) (ho : o.op = .call { callee := .builtin .append, args := #[s, x], argTypes := #[22, 22] }) (hs : a.eval s = v) (hx : a.eval x = v2) (hO : OwC base w v l) (hR : RwC w v2 m) (hb : base ≤ w.heap.size) (hlen : l.length + m.length ≤ 4194304) :
    ∃ v' w', (execOp a.eval o).run Tryd.prog w = .ok (.value v') w' ∧ OwC base w' v' (l ++ m) ∧ Below base w w' := by
  obtain ⟨v', w', h1, h2, h3⟩ := app_rows hO hR hb hlen o.type
  refine ⟨v', w', ?_, h2, h3⟩
  unfold execOp
  simp only [ho, resolve, invoke, builtin, Sem.run_bind, Sem.run_pure, Result.andThen_ok, List.map_toArray, List.map_cons, List.map_nil, hs, hx, h1]
theorem apCs (hg : o.guard = none) {base : Nat} {v v2 : Value} {l m : List Cr} (s x : Operand) (ho : o.op = .call { callee := .builtin .append, args := #[s, x], argTypes := #[22, 22] }) (hs : a.eval s = v) (hx : a.eval x = v2) (hO : OwC base w v l) (hR : RwC w v2 m) (hb : base ≤ w.heap.size) (hlen : l.length + m.length ≤ 4194304)
    (h : ∀ v' w', OwC base w' v' (l ++ m) → Below base w w' → wpList Tryd.prog ops Q rest (a.put o.dst v') w') : wpList Tryd.prog ops Q (o :: rest) a w := by
  obtain ⟨v', w', h1, h2, h3⟩ := run_op_app s x ho hs hx hO hR hb hlen
  exact wpList_valIf (wanted_none hg _) _ rfl v' w' h1 (h v' w' h2 h3)
end
/-- an empty literal -/
theorem own_none (w : World) : OwC w.heap.size (w.alloc (.cells #[] 38)) (.slice (some ⟨w.heap.size, 0, none⟩) 0 0) [] :=
  ⟨rfl, .inr ⟨w.heap.size, 0, #[], rfl, Nat.le_refl _, heap_alloc_new w _, Nat.le_refl _, Nat.zero_le _, rfl, rfl⟩⟩
theorem bsC0 (w : World) : (Instr.buildSlice 22 0 #[]).run Tryd.prog w = .ok (.slice (some ⟨w.heap.size, 0, none⟩) 0 0) (w.alloc (.cells #[] 38)) := by kernel_rfl

/-! ### head -/
def hdL : List Cr := textF 0 0 [97, 32] ++ textF 1 0 [32, 98]
def hdS : List Sty := [sty1 0, sty1 2]
theorem hd_may : mayB hdS hdL = true := by decide
theorem hd_is : collapse (whF hdS) wideB hdL = [⟨97, 0, 0, 1, 0⟩, ⟨32, 0, 1, 1, 1⟩, ⟨32, 1, 0, 1, 3⟩, ⟨98, 1, 1, 1, 0⟩] := by decide +kernel
theorem hd_no : mayB [sty1 0] (textF 1 0 [97]) = false := by decide
theorem whead1 (W : World) (u sv : Value) (hT : Tab W) (O : RwC W u hdL) (S : Ss W sv hdS) : Calls Tryd.prog 10 #[u, sv] W fun e w' => ∃ u', e = .returned (.tuple #[u', .int .i64 0]) ∧ OwC W.heap.size w' u' [⟨97, 0, 0, 1, 0⟩, ⟨32, 0, 1, 1, 1⟩, ⟨32, 1, 0, 1, 3⟩, ⟨98, 1, 1, 1, 0⟩] ∧ Below W.heap.size W w' :=
  (wcollapse_any hdL u hdS sv W O S (by decide) hT).mono fun e w' h => by
    rcases h with ⟨_, u', h1, h2, h3⟩ | ⟨h1, _⟩
    · rw [hd_is] at h2
      exact ⟨u', h1, h2, h3⟩
    · rw [hd_may] at h1; cases h1
theorem whead2 (W : World) (u sv : Value) (hT : Tab W) (O : RwC W u (textF 1 0 [97])) (S : Ss W sv [sty1 0]) : Calls Tryd.prog 10 #[u, sv] W fun e w' => e = .returned (.tuple #[.slice none 0 0, .int .i64 2]) ∧ Below W.heap.size W w' :=
  (wcollapse_any (textF 1 0 [97]) u [sty1 0] sv W O S (by decide) hT).mono fun e w' h => by
    rcases h with ⟨h1, _⟩ | ⟨_, h2, h3⟩
    · rw [hd_no] at h1; cases h1
    · exact ⟨h2, h3⟩

set_option maxRecDepth 100000 in
set_option maxHeartbeats 8000000 in
theorem whead_any (w : World) (hT : Tab w) :
    Calls Tryd.prog 9 #[] w fun e w' => e = .returned (.bool true) ∧ Below w.heap.size w w' := by
  have HT := Lib.hid hT
  clear hT
  go_enter Tryd.func9, Tryd.ntmps9

  go_wp2_with fail
  have R0 := row_lit w #[.int .i32 97, .int .i32 32] 21 2 rfl
  have b0 := below_alloc w (.cells #[.int .i32 97, .int .i32 32] 21)
  obtain ⟨w0, hw0⟩ : ∃ w0, w.alloc (.cells #[.int .i32 97, .int .i32 32] 21) = w0 := ⟨_, rfl⟩
  rw [hw0] at R0 b0 ⊢
  clear hw0
  refine (wtext_any 0 _ [97, 32] w0 R0 (by decide)).mono ?_
  rintro e w1 ⟨u1, rfl, O1, b1⟩
  have H1 := Lib.hid (below_seq b0 b1)
  have HO1 := Lib.hid (O1.base_ b0.size)
  clear O1 b1 b0 R0
  go_wp2_with fail
  have R0 := row_lit w1 #[.int .i32 32, .int .i32 98] 21 2 rfl
  have b0 := below_alloc w1 (.cells #[.int .i32 32, .int .i32 98] 21)
  obtain ⟨w2, hw2⟩ : ∃ w2, w1.alloc (.cells #[.int .i32 32, .int .i32 98] 21) = w2 := ⟨_, rfl⟩
  rw [hw2] at R0 b0 ⊢
  clear hw2
  refine (wtext_any 1 _ [32, 98] w2 R0 (by decide)).mono ?_
  rintro e w3 ⟨u3, rfl, O3, b3⟩
  have b13 := below_seq b0 b3
  have H3 := Lib.hid (below_seq H1.out b13)
  have HO3 := Lib.hid O3.rw_
  have HO13 := Lib.hid (HO1.out.below b13)
  clear O3 b3 b0 R0 b13 HO1
  have HW4 : Hid (∀ w4 : World, (Instr.buildSlice 23 2 #[(0, .agg (sty1 0).cells), (1, .agg (sty1 2).cells)]).run Tryd.prog w4 = .ok (.slice (some ⟨w4.heap.size, 0, none⟩) 2 2) (w4.alloc (.cells ((sty1 0).cells ++ (sty1 2).cells) 33))) := Lib.hid fun _ => by kernel_rfl
  go_wp2_with (first
    | (refine apCs (o := ⟨some 10, _, _, _, _, _⟩) rfl (.tmp 7) (.tmp 9) rfl rfl rfl HO13.out HO3.out H3.out.size (by decide) ?_; intro v4 w4 O4 b4)
    | (refine wpList_valIf (o := ⟨some 13, _, _, _, _, _⟩) (w' := w4.alloc (.cells ((sty1 0).cells ++ (sty1 2).cells) 33)) (wanted_none rfl _) _ rfl (.slice (some ⟨w4.heap.size, 0, none⟩) 2 2) (by kernel_rfl) ?_))
  have b45 := below_alloc w4 (.cells ((sty1 0).cells ++ (sty1 2).cells) 33)
  have b04 := H3.out.trans b4
  have S4 := ss_lit w4 hdS ((sty1 0).cells ++ (sty1 2).cells) 33 2 rfl (by decide) rfl
  obtain ⟨w5, hw5⟩ : ∃ w5, w4.alloc (.cells ((sty1 0).cells ++ (sty1 2).cells) 33) = w5 := ⟨_, rfl⟩
  rw [hw5] at b45 S4 ⊢
  have b05 := b04.trans (b45.mono b04.size)
  refine (whead1 w5 _ _ (HT.out.below b05) (OwC.rw_ (O4.below b45)) S4).mono ?_
  rintro e w6 ⟨u6, rfl, O6, b6⟩
  have H6 := Lib.hid (b05.trans (b6.mono b05.size))
  have HO6 := Lib.hid O6.rw_
  clear O6 b6 b05 S4 b45 b04 O4 b4 hw5 HO13 HO3 H3 HW4 H1
  go_wp2_with fail
  have R0 := row_lit w6 #[.int .i32 97] 21 1 rfl
  have b0 := below_alloc w6 (.cells #[.int .i32 97] 21)
  obtain ⟨w7, hw7⟩ : ∃ w7, w6.alloc (.cells #[.int .i32 97] 21) = w7 := ⟨_, rfl⟩
  rw [hw7] at R0 b0 ⊢
  clear hw7
  refine (wtext_any 1 _ [97] w7 R0 (by decide)).mono ?_
  rintro e w8 ⟨u8, rfl, O8, b8⟩
  have b68 := below_seq b0 b8
  have H8 := Lib.hid (H6.out.trans (b68.mono H6.out.size))
  have HO68 := Lib.hid (HO6.out.below b68)
  have HO8 := Lib.hid O8
  clear O8 b8 b0 R0 b68 HO6
  go_wp2_with (refine wpList_valIf (o := ⟨some 21, _, _, _, _, _⟩) (w' := w8.alloc (.cells (sty1 0).cells 33)) (wanted_none rfl _) _ rfl (.slice (some ⟨w8.heap.size, 0, none⟩) 1 1) (by kernel_rfl) ?_)
  have b89 := below_alloc w8 (.cells (sty1 0).cells 33)
  have S8 := ss_lit w8 [sty1 0] (sty1 0).cells 33 1 rfl (by decide) rfl
  obtain ⟨w9, hw9⟩ : ∃ w9, w8.alloc (.cells (sty1 0).cells 33) = w9 := ⟨_, rfl⟩
  rw [hw9] at b89 S8 ⊢
  have b09 := H8.out.trans (b89.mono H8.out.size)
  refine (whead2 w9 _ _ (HT.out.below b09) (OwC.rw_ (HO8.out.below b89)) S8).mono ?_
  rintro e x0 ⟨rfl, b10⟩
  have HX0 := Lib.hid (b09.trans (b10.mono b09.size))
  have HU0 := Lib.hid (HO68.out.below (below_seq b89 b10))
  clear b10 b09 S8 b89 hw9 HO8 H8 HO68 H6
  go_wp2_with fail
  have R0 := row_lit x0 #[.int .i32 97, .int .i32 32, .int .i32 32, .int .i32 9, .int .i32 98, .int .i32 32] 21 6 rfl
  have b0 := below_alloc x0 (.cells #[.int .i32 97, .int .i32 32, .int .i32 32, .int .i32 9, .int .i32 98, .int .i32 32] 21)
  have R1 := row_lit (x0.alloc (.cells #[.int .i32 97, .int .i32 32, .int .i32 32, .int .i32 9, .int .i32 98, .int .i32 32] 21)) #[.int .u8 0, .int .u8 1, .int .u8 0, .int .u8 1] 5 4 rfl
  have b1 := below_alloc (x0.alloc (.cells #[.int .i32 97, .int .i32 32, .int .i32 32, .int .i32 9, .int .i32 98, .int .i32 32] 21)) (.cells #[.int .u8 0, .int .u8 1, .int .u8 0, .int .u8 1] 5)
  have R2 := R0.below b1
  simp only [World.size_alloc] at R1
  obtain ⟨y, hy⟩ : ∃ y, (x0.alloc (.cells #[.int .i32 97, .int .i32 32, .int .i32 32, .int .i32 9, .int .i32 98, .int .i32 32] 21)).alloc (.cells #[.int .u8 0, .int .u8 1, .int .u8 0, .int .u8 1] 5) = y := ⟨_, rfl⟩
  rw [hy] at R1 R2 b1 ⊢
  clear hy
  have b2 := below_seq b0 b1
  have b3 := HX0.out.trans (b2.mono HX0.out.size)
  refine (wrow0 _ _ y (HT.out.below b3) R2 R1).mono ?_
  rintro e x1 ⟨rfl, b4⟩
  have HX1 := Lib.hid (b3.trans (b4.mono b3.size))
  have HU1 := Lib.hid (HU0.out.below (below_seq b2 b4))
  clear b4 b3 b2 b1 b0 R0 R1 R2 HX0 HU0
  go_wp2_with fail
  have R0 := row_lit x1 #[.int .i32 97, .int .i32 32, .int .i32 10, .int .i32 32, .int .i32 10, .int .i32 98] 21 6 rfl
  have b0 := below_alloc x1 (.cells #[.int .i32 97, .int .i32 32, .int .i32 10, .int .i32 32, .int .i32 10, .int .i32 98] 21)
  have R1 := row_lit (x1.alloc (.cells #[.int .i32 97, .int .i32 32, .int .i32 10, .int .i32 32, .int .i32 10, .int .i32 98] 21)) #[.int .u8 0, .int .u8 1, .int .u8 0] 5 3 rfl
  have b1 := below_alloc (x1.alloc (.cells #[.int .i32 97, .int .i32 32, .int .i32 10, .int .i32 32, .int .i32 10, .int .i32 98] 21)) (.cells #[.int .u8 0, .int .u8 1, .int .u8 0] 5)
  have R2 := R0.below b1
  simp only [World.size_alloc] at R1
  obtain ⟨y, hy⟩ : ∃ y, (x1.alloc (.cells #[.int .i32 97, .int .i32 32, .int .i32 10, .int .i32 32, .int .i32 10, .int .i32 98] 21)).alloc (.cells #[.int .u8 0, .int .u8 1, .int .u8 0] 5) = y := ⟨_, rfl⟩
  rw [hy] at R1 R2 b1 ⊢
  clear hy
  have b2 := below_seq b0 b1
  have b3 := HX1.out.trans (b2.mono HX1.out.size)
  refine (wrow1 _ _ y (HT.out.below b3) R2 R1).mono ?_
  rintro e x2 ⟨rfl, b4⟩
  have HX2 := Lib.hid (b3.trans (b4.mono b3.size))
  have HU2 := Lib.hid (HU1.out.below (below_seq b2 b4))
  clear b4 b3 b2 b1 b0 R0 R1 R2 HX1 HU1
  go_wp2_with fail
  have R0 := row_lit x2 #[.int .i32 97, .int .i32 32, .int .i32 10, .int .i32 32, .int .i32 98] 21 5 rfl
  have b0 := below_alloc x2 (.cells #[.int .i32 97, .int .i32 32, .int .i32 10, .int .i32 32, .int .i32 98] 21)
  have R1 := row_lit (x2.alloc (.cells #[.int .i32 97, .int .i32 32, .int .i32 10, .int .i32 32, .int .i32 98] 21)) #[.int .u8 0, .int .u8 5, .int .u8 0] 5 3 rfl
  have b1 := below_alloc (x2.alloc (.cells #[.int .i32 97, .int .i32 32, .int .i32 10, .int .i32 32, .int .i32 98] 21)) (.cells #[.int .u8 0, .int .u8 5, .int .u8 0] 5)
  have R2 := R0.below b1
  simp only [World.size_alloc] at R1
  obtain ⟨y, hy⟩ : ∃ y, (x2.alloc (.cells #[.int .i32 97, .int .i32 32, .int .i32 10, .int .i32 32, .int .i32 98] 21)).alloc (.cells #[.int .u8 0, .int .u8 5, .int .u8 0] 5) = y := ⟨_, rfl⟩
  rw [hy] at R1 R2 b1 ⊢
  clear hy
  have b2 := below_seq b0 b1
  have b3 := HX2.out.trans (b2.mono HX2.out.size)
  refine (wrow2 _ _ y (HT.out.below b3) R2 R1).mono ?_
  rintro e x3 ⟨rfl, b4⟩
  have HX3 := Lib.hid (b3.trans (b4.mono b3.size))
  have HU3 := Lib.hid (HU2.out.below (below_seq b2 b4))
  clear b4 b3 b2 b1 b0 R0 R1 R2 HX2 HU2
  go_wp2_with fail
  have R0 := row_lit x3 #[.int .i32 97, .int .i32 32, .int .i32 9, .int .i32 10] 21 4 rfl
  have b0 := below_alloc x3 (.cells #[.int .i32 97, .int .i32 32, .int .i32 9, .int .i32 10] 21)
  have R1 := row_lit (x3.alloc (.cells #[.int .i32 97, .int .i32 32, .int .i32 9, .int .i32 10] 21)) #[.int .u8 0, .int .u8 2, .int .u8 4, .int .u8 5] 5 4 rfl
  have b1 := below_alloc (x3.alloc (.cells #[.int .i32 97, .int .i32 32, .int .i32 9, .int .i32 10] 21)) (.cells #[.int .u8 0, .int .u8 2, .int .u8 4, .int .u8 5] 5)
  have R2 := R0.below b1
  simp only [World.size_alloc] at R1
  obtain ⟨y, hy⟩ : ∃ y, (x3.alloc (.cells #[.int .i32 97, .int .i32 32, .int .i32 9, .int .i32 10] 21)).alloc (.cells #[.int .u8 0, .int .u8 2, .int .u8 4, .int .u8 5] 5) = y := ⟨_, rfl⟩
  rw [hy] at R1 R2 b1 ⊢
  clear hy
  have b2 := below_seq b0 b1
  have b3 := HX3.out.trans (b2.mono HX3.out.size)
  refine (wrow3 _ _ y (HT.out.below b3) R2 R1).mono ?_
  rintro e x4 ⟨rfl, b4⟩
  have HX4 := Lib.hid (b3.trans (b4.mono b3.size))
  have HU4 := Lib.hid (HU3.out.below (below_seq b2 b4))
  clear b4 b3 b2 b1 b0 R0 R1 R2 HX3 HU3
  go_wp2_with fail
  have R0 := row_lit x4 #[.int .i32 19968, .int .i32 10, .int .i32 20108] 21 3 rfl
  have b0 := below_alloc x4 (.cells #[.int .i32 19968, .int .i32 10, .int .i32 20108] 21)
  have R1 := row_lit (x4.alloc (.cells #[.int .i32 19968, .int .i32 10, .int .i32 20108] 21)) #[.int .u8 0, .int .u8 0] 5 2 rfl
  have b1 := below_alloc (x4.alloc (.cells #[.int .i32 19968, .int .i32 10, .int .i32 20108] 21)) (.cells #[.int .u8 0, .int .u8 0] 5)
  have R2 := R0.below b1
  simp only [World.size_alloc] at R1
  obtain ⟨y, hy⟩ : ∃ y, (x4.alloc (.cells #[.int .i32 19968, .int .i32 10, .int .i32 20108] 21)).alloc (.cells #[.int .u8 0, .int .u8 0] 5) = y := ⟨_, rfl⟩
  rw [hy] at R1 R2 b1 ⊢
  clear hy
  have b2 := below_seq b0 b1
  have b3 := HX4.out.trans (b2.mono HX4.out.size)
  refine (wrow4 _ _ y (HT.out.below b3) R2 R1).mono ?_
  rintro e x5 ⟨rfl, b4⟩
  have HX5 := Lib.hid (b3.trans (b4.mono b3.size))
  have HU5 := Lib.hid (HU4.out.below (below_seq b2 b4))
  clear b4 b3 b2 b1 b0 R0 R1 R2 HX4 HU4
  go_wp2_with fail
  have R0 := row_lit x5 #[.int .i32 97, .int .i32 8203, .int .i32 10, .int .i32 98] 21 4 rfl
  have b0 := below_alloc x5 (.cells #[.int .i32 97, .int .i32 8203, .int .i32 10, .int .i32 98] 21)
  have R1 := row_lit (x5.alloc (.cells #[.int .i32 97, .int .i32 8203, .int .i32 10, .int .i32 98] 21)) #[.int .u8 0, .int .u8 0, .int .u8 0] 5 3 rfl
  have b1 := below_alloc (x5.alloc (.cells #[.int .i32 97, .int .i32 8203, .int .i32 10, .int .i32 98] 21)) (.cells #[.int .u8 0, .int .u8 0, .int .u8 0] 5)
  have R2 := R0.below b1
  simp only [World.size_alloc] at R1
  obtain ⟨y, hy⟩ : ∃ y, (x5.alloc (.cells #[.int .i32 97, .int .i32 8203, .int .i32 10, .int .i32 98] 21)).alloc (.cells #[.int .u8 0, .int .u8 0, .int .u8 0] 5) = y := ⟨_, rfl⟩
  rw [hy] at R1 R2 b1 ⊢
  clear hy
  have b2 := below_seq b0 b1
  have b3 := HX5.out.trans (b2.mono HX5.out.size)
  refine (wrow5 _ _ y (HT.out.below b3) R2 R1).mono ?_
  rintro e x6 ⟨rfl, b4⟩
  have HX6 := Lib.hid (b3.trans (b4.mono b3.size))
  have HU6 := Lib.hid (HU5.out.below (below_seq b2 b4))
  clear b4 b3 b2 b1 b0 R0 R1 R2 HX5 HU5
  obtain ⟨a1, c1, o1, hv1, _, ha1, hL1⟩ := HU6.out.get (Below.refl _ _) (i := 1) (s := ⟨32, 0, 1, 1, 1⟩) rfl
  obtain ⟨a2, c2, o2, hv2, _, ha2, hL2⟩ := HU6.out.get (Below.refl _ _) (i := 2) (s := ⟨32, 1, 0, 1, 3⟩) rfl
  have hvv := hv1.symm.trans hv2
  injection hvv with e1 e2 e3
  injection e1 with e1
  subst e1 e3
  have q1 : x6.cell? ⟨a1.block, o1 + 4, none⟩ = some (.int .u8 1) := by have := hL1 4 _ rfl; rwa [Addr.add_lit] at this
  have q2 : x6.cell? ⟨a1.block, o2 + 4, none⟩ = some (.int .u8 3) := by have := hL2 4 _ rfl; rwa [Addr.add_lit] at this
  have p1 : a1.add 5 = ⟨a1.block, o1, none⟩ := ha1
  have p2 : a1.add 10 = ⟨a1.block, o2, none⟩ := ha2
  subst hv1
  clear hL1 hL2 ha1 ha2 e2 hv2 HU6
  go_wp2_with fail
  go_ret
  exact ⟨rfl, HX6.out⟩
end Go.Proofs.YtejcfhfmdijimaaDoor
