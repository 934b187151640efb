/- Contract of chance.read: the characters as the program keeps them. Conditions: the slices read as the lists, at most 100000 characters, each with a style. -/
import Derived.Test.YtnoenccpbbkdeaaCh3
import Derived.Test.YtnoenccpbbkdeaaGH
import Derived.Test.YtnoenccpbbkdeaaGF
import Derived.Test.YtnoenccpbbkdeaaGK
import Derived.Test.YtnoenccpbbkdeaaGN
namespace Go.Proofs.Ytnoenccpbbkdeaa
open Go.ChangeShapes Go.WideShapes Go.ChangeAt Go.RowKit
open Wh (Cr)
open Ch

/-- the first k elements filled -/
def rdc {α β : Type} (f : α → β) (z : β) (l : List α) (k : Nat) : List β := (l.take k).map f ++ List.replicate (l.length - k) z
theorem rdc_zero {α β : Type} (f : α → β) (z : β) (l : List α) : rdc f z l 0 = List.replicate l.length z := rfl
theorem rdc_all {α β : Type} (f : α → β) (z : β) (l : List α) : rdc f z l l.length = l.map f := by simp [rdc]
theorem rdc_len {α β : Type} (f : α → β) (z : β) (l : List α) {k : Nat} (h : k ≤ l.length) : (rdc f z l k).length = l.length := by
  simp [rdc]
  omega
theorem rdc_succ {α β : Type} (f : α → β) (z : β) {l : List α} {k : Nat} {c : α} (h : l[k]? = some c) : rdc f z l (k + 1) = (rdc f z l k).set k (f c) := by
  have hk := (List.getElem?_eq_some_iff.1 h).1
  unfold rdc
  have e : ((l.take k).map f).length = k := by simp; omega
  rw [show l.take (k + 1) = l.take k ++ [c] by rw [List.take_add_one, h]; rfl, List.map_append, List.set_append_right _ _ (by omega), e, Nat.sub_self, show l.length - k = (l.length - (k + 1)) + 1 by omega, List.replicate_succ, List.set_cons_zero]
  simp
/-- a row of one-cell elements whose first k are filled -/
def upF (z : Value) (g : Nat → Value) (k j : Nat) : Value := if j < k then g j else z
theorem upF_zero (z : Value) (g : Nat → Value) : upF z g 0 = fun _ => z := by
  funext j
  unfold upF
  rw [if_neg (by omega)]
theorem upF_succ (z : Value) (g : Nat → Value) (k : Nat) : updV (upF z g k) k (g k) = upF z g (k + 1) := by
  funext j
  unfold updV upF
  by_cases e : j = k
  · subst e
    rw [if_pos rfl, if_pos (by omega)]
  · rw [if_neg e]
    by_cases h : j < k
    · rw [if_pos h, if_pos (by omega)]
    · rw [if_neg h, if_neg (by omega)]

theorem infoHc : (Try.prog.info? 58).map (fun i => (i.zero, i.size, i.bytes)) = some (some (.agg (hcA zHc)), 4, 4) := by kernel_rfl
theorem mkHc (n : Nat) (hn : n ≤ 1048576) (w : World) :
    (Instr.makeSlice 47 (.int .i64 (n : Int)) (.int .i64 (n : Int))).run Try.prog w = .ok (.slice (some ⟨w.heap.size, 0, none⟩) n n) (w.alloc (.cells (madeCells (hcA zHc) (n * 4)) 58)) := by
  obtain ⟨i0, hi, hz0, hz1, hz2⟩ := info_agg infoHc
  have := run_make_aggs (P := Try.prog) 47 58 i0 (.agg (hcA zHc)) Try.underlying47 hi hz0 .i64 .i64 n n (Nat.le_refl _) (by rw [hz2]; omega) (by omega) w
  rw [hz1] at this
  exact this
theorem strs_madeH (w : World) (n : Nat) : Strs (w.alloc (.cells (madeCells (hcA zHc) (n * 4)) 58)) w.heap.size 58 4 ((List.replicate n zHc).map hcA) := by
  refine ⟨_, Blk.new _ _ _, by simp [size_madeCells], fun i x hi => ?_⟩
  rw [List.getElem?_map] at hi
  have hin : i < n := by
    cases h : (List.replicate n zHc)[i]? with
    | none => rw [h] at hi; cases hi
    | some y => have := (List.getElem?_eq_some_iff.1 h).1; simpa using this
  rw [List.getElem?_eq_getElem (by simpa using hin), List.getElem_replicate] at hi
  injection hi with hi
  subst hi
  refine ⟨rfl, fun j v hv => ?_⟩
  have hj : j < 4 := (Array.getElem?_eq_some_iff.1 hv).1
  rw [made_get _ 4 n i j rfl hin hj]
  exact hv

set_option maxRecDepth 100000 in
set_option maxHeartbeats 8000000 in
theorem chread_any (l : List Cr) (ss : List Sty) (v vs : Value) (w : World) (hR : RwC w v l) (hS : Ss w vs ss) (hlen : l.length ≤ 100000) (hnd : ∀ c ∈ l, 0 ≤ c.node ∧ c.node < (ss.length : Int)) :
    Calls Try.prog 20 #[v, vs] w fun e w' => ∃ G, e = .returned (.slice (some ⟨G, 0, none⟩) l.length l.length) ∧ w.heap.size ≤ G ∧ Strs w' G 58 4 ((l.map (hcOf ss)).map hcA) ∧ Below w.heap.size w w' := by
  have HR := Lib.hid hR
  have HS := Lib.hid hS
  have HND := Lib.hid hnd
  obtain ⟨A, cap, rfl⟩ := hR.form
  obtain ⟨A2, cap2, rfl⟩ := hS.form
  obtain ⟨m, hm⟩ : ∃ m, l.length = m := ⟨_, rfl⟩
  obtain ⟨m2, hm2⟩ : ∃ m, ss.length = m := ⟨_, rfl⟩
  have HM := Lib.hid hm
  have HM2 := Lib.hid hm2
  rw [hm2] at HS HND ⊢
  rw [hm] at hlen HR ⊢
  have hmk1 : ∀ W : World, _ := fun W => make_one (P := Try.prog) 44 21 (.int .i32 0) 4 Try.underlying44 (by kernel_rfl) (by decide) rfl m (by omega) W
  have HMK2 : Hid (∀ W : World, _) := Lib.hid fun W => mkHc m (by omega) W
  clear hR hS hm hm2 hnd
  go_enter Try.func20, Try.ntmps20
  go_wp2_with fail
  have R0 := Blk.new w 21 (rowV m (fun _ => .int .i32 0))
  have b0 := below_alloc w (.cells (rowV m (fun _ => .int .i32 0)) 21)
  have hs0 : (w.alloc (.cells (rowV m (fun _ => .int .i32 0)) 21)).heap.size = w.heap.size + 1 := by simp
  obtain ⟨w0, hw0⟩ : ∃ w0, w.alloc (.cells (rowV m (fun _ => .int .i32 0)) 21) = w0 := ⟨_, rfl⟩
  rw [hw0] at R0 b0 hs0 ⊢
  have HF : Hid (∃ g : Nat → Value, ∀ j, g j = .int .i32 (l.getD j zCr).r) := Lib.hid ⟨_, fun _ => rfl⟩
  obtain ⟨g, hg⟩ := HF.out
  have HG := Lib.hid hg
  rw [← upF_zero (.int .i32 0) g] at R0
  clear hw0 hmk1 HF hg
  go_loopg [17] m (fun kx i wr => ∃ (k : Nat), i = .int .i64 k ∧ k ≤ m ∧ kx = m - k ∧ Below w.heap.size w wr ∧ Blk wr w.heap.size 21 (rowV m (upF (.int .i32 0) g k)))
  case atStart => exact ⟨0, rfl, by omega, by omega, b0, R0⟩
  case round =>
    clear R0 b0 hs0
    obtain ⟨k, rfl, hk, rfl, bel, hB⟩ := hrel
    by_cases hlt : k < m
    · obtain ⟨c, hc⟩ := at_ (l := l) (k := k) (by rw [HM.out]; exact hlt)
      obtain ⟨ad, cp, o, hv, hab, ha, hLi⟩ := HR.out.get bel hc
      rw [HM.out] at hv
      injection hv with hv1 hv2 hv3
      subst hv1 hv3
      have hgk : g k = .int .i32 c.r := by rw [HG.out, List.getD_eq_getElem?_getD, hc]; rfl
      have HGK := Lib.hid hgk
      have hkz : (k : Int) < m := by omega
      have hB0 := hB.lt
      have HB := Lib.hid hB
      clear hv2 hgk hc hB
      go_wp2_with (first
        | (refine ldC rfl (.tmp 20) rfl _ rfl c (by first | exact hLi | exact ha ▸ hLi) ?_)
        | (refine alCV rfl rfl ?_; intro w1 b1 B1)
        | (refine stC rfl (.tmp 7) (.tmp 21) rfl rfl _ rfl c rfl zCr B1 ?_; intro w2 m3 B2; refine Mk.out ?_))
      constructor
      have b2 : Below wr.heap.size wr w2 := b1.trans (m3.below b1.size fun k hk => by omega)
      have bel2 := bel.trans (b2.mono bel.size)
      have hB2 := HB.out.keep (S := fun _ => False) (Mod.of_below b2) id
      have c0 : w2.cell? ⟨wr.heap.size, 0, none⟩ = some (.int .i32 c.r) := B2.cell 0
      have hq := (hB2.cell k).trans (rowV_get hlt)
      have hfz := hB2.frozen k
      have HB2 := Lib.hid hB2
      have HBE := Lib.hid bel2
      obtain ⟨x, hx⟩ : ∃ x, upF (.int .i32 0) g k k = x := ⟨_, rfl⟩
      rw [hx] at hq
      clear hLi b1 B1 m3 B2 b2 bel bel2 hB2 hx
      go_wp2_with fail
      go_roundg (m - (k + 1))
      case measure => omega
      case rel =>
        refine ⟨k + 1, by go_num, by omega, by first | rfl | trivial, HBE.out.setCell (by show w.heap.size ≤ w.heap.size; omega) _, ?_⟩
        have := HB2.out.set_ k (.int .i32 c.r)
        rw [← HGK.out, rowV_set, upF_succ, HGK.out] at this
        exact this
    · obtain rfl : k = m := by omega
      obtain ⟨wz, hwz⟩ : ∃ x, x = wr := ⟨_, rfl⟩
      subst hwz
      have hmk2 := HMK2.out
      go_wp2_with fail
      have S1 := strs_madeH wz k
      have b1 := below_alloc wz (.cells (madeCells (hcA zHc) (k * 4)) 58)
      have hs1 : (wz.alloc (.cells (madeCells (hcA zHc) (k * 4)) 58)).heap.size = wz.heap.size + 1 := by simp
      obtain ⟨w1, hw1⟩ : ∃ w1, wz.alloc (.cells (madeCells (hcA zHc) (k * 4)) 58) = w1 := ⟨_, rfl⟩
      rw [hw1] at S1 b1 hs1 ⊢
      have hrow : Row (fun _ => False) w1 (.slice (some ⟨w.heap.size, 0, none⟩) k k) ((l.map (·.r)).map (Value.int .i32)) := by
        refine row_of_blk (hB.keep (S := fun _ => False) (Mod.of_below b1) id) (by rw [List.length_map, List.length_map, HM.out]) fun j x hj => ?_
        rw [List.getElem?_map, List.getElem?_map] at hj
        cases hc : l[j]? with
        | none => rw [hc] at hj; cases hj
        | some c =>
          have hjk := (List.getElem?_eq_some_iff.1 hc).1
          rw [HM.out] at hjk
          rw [hc] at hj
          injection hj with hj
          rw [← hj]
          unfold upF
          rw [if_pos hjk, HG.out, List.getD_eq_getElem?_getD, hc]
          rfl
      have bel1 := bel.trans (b1.mono bel.size)
      have hbs := bel.size
      clear hw1 hmk2 b1 hB
      go_wp2_with fail
      refine (call_any _ k (l.map (·.r)) w1 (by rw [List.length_map, HM.out]) hlen hrow).mono ?_
      rintro e w2 ⟨Gc, cs, rfl, hGc, hBc, hK, b2⟩
      have S2 := S1.below b2
      have bel2 := bel1.trans (b2.mono bel1.size)
      have hs2 := b2.size
      have HKc := Lib.hid hK
      have HLE : Hid (w.heap.size ≤ wz.heap.size) := Lib.hid hbs
      have e0 : List.replicate k zHc = rdc (hcOf ss) zHc l 0 := by rw [rdc_zero, HM.out]
      rw [e0] at S2
      clear hrow S1 hK bel1 b2 e0 bel
      go_wp2_with fail
      go_loopg [34] k (fun kx i wr => ∃ (j : Nat), i = .int .i64 j ∧ j ≤ k ∧ kx = k - j ∧ Below w.heap.size w wr ∧ Strs wr wz.heap.size 58 4 ((rdc (hcOf ss) zHc l j).map hcA) ∧ Blk wr Gc 5 cs ∧ w1.heap.size ≤ wr.heap.size)
      case atStart => exact ⟨0, rfl, by omega, by omega, bel2, S2, hBc, hs2⟩
      case round =>
        clear S2 hBc bel2 hs2
        obtain ⟨j, rfl, hj, rfl, bel, hSt, hBc, hsq⟩ := hrel
        by_cases hlt : j < k
        · obtain ⟨c, hc⟩ := at_ (l := l) (k := j) (by rw [HM.out]; exact hlt)
          obtain ⟨ad, cp, o, hv, hab, ha, hLi⟩ := HR.out.get bel hc
          rw [HM.out] at hv
          injection hv with hv1 hv2 hv3
          subst hv1 hv3
          obtain ⟨hn0, hn1⟩ := HND.out c (List.mem_of_getElem? hc)
          obtain ⟨nd, hnd⟩ : ∃ nd : Nat, c.node = (nd : Int) := ⟨c.node.toNat, by omega⟩
          have hndl : nd < m2 := by omega
          obtain ⟨s, hs⟩ := at_ (l := ss) (k := nd) (by rw [HM2.out]; exact hndl)
          obtain ⟨adS, cps, os, hvs, habs, haS, hLs⟩ := HS.out.get bel hs
          rw [HM2.out] at hvs
          injection hvs with hvs1 hvs2 hvs3
          subst hvs1 hvs3
          have hst : stl ss c.node = s := stl_at hs hnd
          have hcl : cs[j]? = some (.int .u8 (clsOf c.r)) := HKc.out.2 j c.r hlt (by rw [List.getElem?_map, hc]; rfl)
          have c1 : wr.cell? ⟨ad.block, o + 1, none⟩ = some (.int .i64 c.node) := lies_cell hLi 1 rfl
          have c4 : wr.cell? ⟨ad.block, o + 4, none⟩ = some (.int .u8 c.kind) := lies_cell hLi 4 rfl
          have cB := (hBc.cell j).trans hcl
          obtain ⟨kd, hkd⟩ : ∃ x, c.kind = x := ⟨_, rfl⟩
          obtain ⟨cl, hcl2⟩ : ∃ x, clsOf c.r = x := ⟨_, rfl⟩
          have C1 : Hid (∀ W, Calls Try.prog 26 #[.int .u8 c.kind, .int .u8 (clsOf c.r), .agg s.cells] W fun e w' => e = .returned (.int .u8 (clsC c s)) ∧ Below W.heap.size W w') := Lib.hid fun W => by rw [← inS_is]; exact chin_any _ _ _ W
          obtain ⟨a0, ha0⟩ : ∃ x, s.a0 = x := ⟨_, rfl⟩
          obtain ⟨q, hq⟩ : ∃ x, clsC c s = x := ⟨_, rfl⟩
          have HC := Lib.hid hc
          have HY : Hid (hcOf ss c = ⟨kd, cl, q, a0⟩) := Lib.hid (by unfold hcOf; rw [hst, hkd, hcl2, hq, ha0])
          rw [hnd] at c1
          rw [hkd] at c4 C1
          rw [hcl2] at cB C1
          rw [hq] at C1
          have HA0 := Lib.hid ha0
          have HL4 : Hid (∀ W, Below wr.heap.size wr W → W.cell? ⟨ad.block, o + 4, none⟩ = some (.int .u8 kd)) := Lib.hid fun W h => (h.cell (p := ⟨ad.block, o + 4, none⟩) (by show ad.block < _; have := bel.size; omega)).trans c4
          have hjz : (j : Int) < k := by omega
          have hndz : (nd : Int) < m2 := by omega
          have HBE := Lib.hid bel
          have HST := Lib.hid hSt
          have HBC := Lib.hid hBc
          clear hv2 hvs2 hc hs hcl hst hn0 hn1 hLi hkd hcl2 hq ha0 hnd bel hSt hBc c4 hndl
          go_wp2_with (first
            | (refine ldS rfl (.tmp 45) rfl _ rfl s (by first | exact hLs | exact haS ▸ hLs) ?_)
            | (refine nwS (o1 := ⟨some 11, _, _, _, _, _⟩) rfl rfl 11 rfl rfl (.tmp 46) rfl rfl s (fun _ => rfl) (fun _ => rfl) ?_; intro w3 b3 B3; refine Mk.out ?_))
          constructor
          have CC : Hid (∀ W, Below w3.heap.size w3 W → W.cell? ⟨ad.block, o + 4, none⟩ = some (.int .u8 kd) ∧ Lies W ⟨wr.heap.size, 0, none⟩ s.cells ∧ W.cell? ⟨wr.heap.size, 0, none⟩ = some (.int .u8 a0)) := Lib.hid fun W h => by
            have B4 := B3.keep (S := fun _ => False) (Mod.of_below h) id
            exact ⟨HL4.out W (below_seq b3 h), B4.lies, by rw [B4.cell 0, ← HA0.out]; rfl⟩
          have HB3 := Lib.hid b3
          clear c1 cB hLs b3 B3
          go_wp2_with fail
          refine region_tail (by kernel_rfl) (fun W => Below w3.heap.size w3 W) (below_drewN (Below.refl _ _) 1) 20 (by rfl) (by kernel_rfl) (by kernel_rfl) (fun R hR => ?_)
          refine AllS.take (i := 0) (v := ?_) (by rw [List.getElem?_toArray]; rfl) (by kernel_rfl) (by kernel_rfl) (by kernel_rfl) (KeepsIf.read (by rfl) ?_) ?_
          rotate_left
          · intro W hSw
            (try dsimp only at hSw)
            go_simp
            (try with_reducible rfl)
          rotate_left
          (try simp only [Act.put, List.setIfInBounds_toArray, List.set_cons_zero, List.set_cons_succ])
          refine AllS.take (i := 1) (v := ?_) (by rw [List.getElem?_toArray]; rfl) (by kernel_rfl) (by kernel_rfl) (by kernel_rfl) (KeepsIf.read (by rfl) ?_) ?_
          rotate_left
          · intro W hSw
            (try dsimp only at hSw)
            go_simp
            (try with_reducible rfl)
          rotate_left
          (try simp only [Act.put, List.setIfInBounds_toArray, List.set_cons_zero, List.set_cons_succ])
          refine AllS.take (i := 2) (v := ?_) (by rw [List.getElem?_toArray]; rfl) (by kernel_rfl) (by kernel_rfl) (by kernel_rfl) (KeepsIf.read (by rfl) ?_) ?_
          rotate_left
          · intro W hSw
            (try dsimp only at hSw)
            go_simp
            (try with_reducible rfl)
          rotate_left
          (try simp only [Act.put, List.setIfInBounds_toArray, List.set_cons_zero, List.set_cons_succ])
          refine AllS.take (i := 3) (v := ?_) (by rw [List.getElem?_toArray]; rfl) (by kernel_rfl) (by kernel_rfl) (by kernel_rfl) (KeepsIf.read (by rfl) ?_) ?_
          rotate_left
          · intro W hSw
            (try dsimp only at hSw)
            go_simp
            (try with_reducible rfl)
          rotate_left
          (try simp only [Act.put, List.setIfInBounds_toArray, List.set_cons_zero, List.set_cons_succ])
          refine AllS.take (i := 4) (v := ?_) (by rw [List.getElem?_toArray]; rfl) (by kernel_rfl) (by kernel_rfl) (by kernel_rfl) (KeepsIf.read (by rfl) ?_) ?_
          rotate_left
          · intro W hSw
            (try dsimp only at hSw)
            go_simp
            (try with_reducible rfl)
          rotate_left
          (try simp only [Act.put, List.setIfInBounds_toArray, List.set_cons_zero, List.set_cons_succ])
          refine AllS.take (i := 5) (v := ?_) (by rw [List.getElem?_toArray]; rfl) (by kernel_rfl) (by kernel_rfl) (by kernel_rfl) (KeepsIf.read (by rfl) ?_) ?_
          rotate_left
          · intro W hSw
            (try dsimp only at hSw)
            go_simp
            (try with_reducible rfl)
          rotate_left
          (try simp only [Act.put, List.setIfInBounds_toArray, List.set_cons_zero, List.set_cons_succ])
          refine AllS.take (i := 6) (v := ?_) (by rw [List.getElem?_toArray]; rfl) (by kernel_rfl) (by kernel_rfl) (by kernel_rfl) (KeepsIf.read (by rfl) ?_) ?_
          rotate_left
          · intro W hSw
            (try dsimp only at hSw)
            obtain ⟨q1, q2, q3⟩ := CC.out W hSw
            go_simp
            (try with_reducible rfl)
          rotate_left
          (try simp only [Act.put, List.setIfInBounds_toArray, List.set_cons_zero, List.set_cons_succ])
          refine AllS.take (i := 7) (v := ?_) (by rw [List.getElem?_toArray]; rfl) (by kernel_rfl) (by kernel_rfl) (by kernel_rfl) (KeepsIf.read (by rfl) ?_) ?_
          rotate_left
          · intro W hSw
            (try dsimp only at hSw)
            go_simp
            (try with_reducible rfl)
          rotate_left
          (try simp only [Act.put, List.setIfInBounds_toArray, List.set_cons_zero, List.set_cons_succ])
          refine AllS.take (i := 8) (v := ?_) (by rw [List.getElem?_toArray]; rfl) (by kernel_rfl) (by kernel_rfl) (by kernel_rfl) (KeepsIf.read (by rfl) ?_) ?_
          rotate_left
          · intro W hSw
            (try dsimp only at hSw)
            go_simp
            (try with_reducible rfl)
          rotate_left
          (try simp only [Act.put, List.setIfInBounds_toArray, List.set_cons_zero, List.set_cons_succ])
          refine AllS.take (i := 9) (v := ?_) (by rw [List.getElem?_toArray]; rfl) (by kernel_rfl) (by kernel_rfl) (by kernel_rfl) (KeepsIf.read (by rfl) ?_) ?_
          rotate_left
          · intro W hSw
            (try dsimp only at hSw)
            go_simp
            (try with_reducible rfl)
          rotate_left
          (try simp only [Act.put, List.setIfInBounds_toArray, List.set_cons_zero, List.set_cons_succ])
          refine AllS.take (i := 10) (v := ?_) (by rw [List.getElem?_toArray]; rfl) (by kernel_rfl) (by kernel_rfl) (by kernel_rfl) (KeepsIf.read (by rfl) ?_) ?_
          rotate_left
          · intro W hSw
            (try dsimp only at hSw)
            go_simp
            (try with_reducible rfl)
          rotate_left
          (try simp only [Act.put, List.setIfInBounds_toArray, List.set_cons_zero, List.set_cons_succ])
          refine AllS.take (i := 11) (v := ?_) (by rw [List.getElem?_toArray]; rfl) (by kernel_rfl) (by kernel_rfl) (by kernel_rfl) (KeepsIf.read (by rfl) ?_) ?_
          rotate_left
          · intro W hSw
            (try dsimp only at hSw)
            go_simp
            (try with_reducible rfl)
          rotate_left
          (try simp only [Act.put, List.setIfInBounds_toArray, List.set_cons_zero, List.set_cons_succ])
          refine AllS.take (i := 12) (v := ?_) (by rw [List.getElem?_toArray]; rfl) (by kernel_rfl) (by kernel_rfl) (by kernel_rfl) (KeepsIf.read (by rfl) ?_) ?_
          rotate_left
          · intro W hSw
            (try dsimp only at hSw)
            obtain ⟨q1, q2, q3⟩ := CC.out W hSw
            go_simp
            (try with_reducible rfl)
          rotate_left
          (try simp only [Act.put, List.setIfInBounds_toArray, List.set_cons_zero, List.set_cons_succ])
          refine AllS.take (i := 13) (v := ?_) (by rw [List.getElem?_toArray]; rfl) (by kernel_rfl) (by kernel_rfl) (by kernel_rfl) (KeepsIf.read (by rfl) ?_) ?_
          rotate_left
          · intro W hSw
            (try dsimp only at hSw)
            go_simp
            (try with_reducible rfl)
          rotate_left
          (try simp only [Act.put, List.setIfInBounds_toArray, List.set_cons_zero, List.set_cons_succ])
          refine AllS.take (i := 14) (v := .agg s.cells) (by rw [List.getElem?_toArray]; rfl) (by kernel_rfl) (by kernel_rfl) (by kernel_rfl) (KeepsIf.read (by rfl) (fun W hSw => ?_)) ?_
          · (try dsimp only at hSw)
            exact rdS (.tmp 11) rfl _ rfl s (CC.out W hSw).2.1
          (try simp only [Act.put, List.setIfInBounds_toArray, List.set_cons_zero, List.set_cons_succ])
          refine AllS.take (i := 15) (v := .int .u8 q) (by rw [List.getElem?_toArray]; rfl) (by kernel_rfl) (by kernel_rfl) (by kernel_rfl) (KeepsIf.call 26 #[.int .u8 kd, .int .u8 cl, .agg s.cells] (by kernel_rfl) (fun W => ?_) (fun W hSw => ?_)) ?_
          · go_simp
          · exact (C1.out W).mono fun e w' h => ⟨h.1, below_seq hSw h.2⟩
          (try simp only [Act.put, List.setIfInBounds_toArray, List.set_cons_zero, List.set_cons_succ])
          refine AllS.take (i := 16) (v := ?_) (by rw [List.getElem?_toArray]; rfl) (by kernel_rfl) (by kernel_rfl) (by kernel_rfl) (KeepsIf.read (by rfl) ?_) ?_
          rotate_left
          · intro W hSw
            (try dsimp only at hSw)
            go_simp
            (try with_reducible rfl)
          rotate_left
          (try simp only [Act.put, List.setIfInBounds_toArray, List.set_cons_zero, List.set_cons_succ])
          refine AllS.take (i := 17) (v := ?_) (by rw [List.getElem?_toArray]; rfl) (by kernel_rfl) (by kernel_rfl) (by kernel_rfl) (KeepsIf.read (by rfl) ?_) ?_
          rotate_left
          · intro W hSw
            (try dsimp only at hSw)
            obtain ⟨q1, q2, q3⟩ := CC.out W hSw
            go_simp
            (try with_reducible rfl)
          rotate_left
          (try simp only [Act.put, List.setIfInBounds_toArray, List.set_cons_zero, List.set_cons_succ])
          refine AllS.take (i := 18) (v := .agg (hcA ⟨kd, cl, q, a0⟩)) (by rw [List.getElem?_toArray]; rfl) (by kernel_rfl) (by kernel_rfl) (by kernel_rfl) (KeepsIf.read (by rfl) (fun W hSw => ?_)) ?_
          · (try dsimp only at hSw)
            kernel_rfl
          (try simp only [Act.put, List.setIfInBounds_toArray, List.set_cons_zero, List.set_cons_succ])
          refine AllS.take (i := 19) (v := ?_) (by rw [List.getElem?_toArray]; rfl) (by kernel_rfl) (by kernel_rfl) (by kernel_rfl) (KeepsIf.read (by rfl) ?_) ?_
          rotate_left
          · intro W hSw
            (try dsimp only at hSw)
            go_simp
            (try with_reducible rfl)
          rotate_left
          (try simp only [Act.put, List.setIfInBounds_toArray, List.set_cons_zero, List.set_cons_succ])
          refine AllS.done (by kernel_rfl) (hR.out _ ?_) _
          clear hR R
          intro w5 b5
          have b35 := below_seq HB3.out b5
          obtain ⟨cur, C9, hsz, hat⟩ := HST.out.below b35
          have hfit : j * 4 + 4 ≤ cur.size := by rw [hsz, List.length_map, rdc_len _ _ _ (by rw [HM.out]; exact hj), HM.out]; exact row_le hlt
          have HAT := Lib.hid hat
          have HSZ := Lib.hid hsz
          clear hat hsz
          refine wpOp_of_wp (by rw [List.getElem?_toArray]; rfl) rfl ?_
          refine wp_storeO 58 (.tmp 66) (.tmp 65) rfl rfl wz.heap.size (j * 4) rfl (hcA ⟨kd, cl, q, a0⟩) rfl 58 cur C9 (iHc _) hfit (oneHc _) ?_
          intro w6 m6 B6
          have hlj : j < (rdc (hcOf ss) zHc l j).length := by rw [rdc_len _ _ _ (by rw [HM.out]; exact hj), HM.out]; exact hlt
          have E := Strs.set_ HSZ.out HAT.out (i := j) (by rw [List.length_map]; exact hlj) (x := hcA ⟨kd, cl, q, a0⟩) rfl B6
          rw [← List.map_set, ← HY.out, ← rdc_succ (hcOf ss) zHc HC.out] at E
          have hbq := HBE.out.size
          have b5s := b35.size
          have B5c := (HBC.out.keep (S := fun _ => False) (Mod.of_below b35) id).keep m6 (by omega)
          have bel6 := (HBE.out.trans (b35.mono hbq)).trans (m6.below (Nat.le_trans hbq b5s) (fun x hx => by have := HLE.out; omega))
          have hs6 : w1.heap.size ≤ w6.heap.size := Nat.le_trans hsq (Nat.le_trans b5s m6.size)
          clear C9 hfit B6 m6 b5 b35 b5s
          go_wp2_with fail
          go_roundg (k - (j + 1))
          case measure => omega
          case rel => exact ⟨j + 1, by go_num, by omega, by first | rfl | trivial, bel6, E, B5c, hs6⟩
        · obtain rfl : j = k := by omega
          rw [show rdc (hcOf ss) zHc l j = l.map (hcOf ss) by rw [← HM.out, rdc_all]] at hSt
          have HST := Lib.hid hSt
          clear hSt
          go_wp2_with fail
          go_ret
          exact ⟨_, rfl, HLE.out, HST.out, bel⟩
end Go.Proofs.Ytnoenccpbbkdeaa
