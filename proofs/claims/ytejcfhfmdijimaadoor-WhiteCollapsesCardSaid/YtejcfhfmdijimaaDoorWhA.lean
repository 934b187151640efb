/- Contracts of white's generic filter, and of the closure that apply hands to it. Conditions: the characters lie where the slice says; what the closure captures lies in memory. -/
import Derived.Test.YtejcfhfmdijimaaDoorWhB
namespace Go.Proofs.YtejcfhfmdijimaaDoor
open Go.ChangeShapes Go.WideShapes Go.ChangeAt Go.RowKit Go.Shelf
open Wh

/-- a row of characters of the call's own -/
def OwW (base : Nat) (w : World) (v : Value) (l : List Cw) : Prop := w.ownsRow base 57 6 v l.length (flatW l)
theorem OwW.rw_ {base : Nat} {w : World} {v : Value} {l : List Cw} (h : OwW base w v l) : RwW w v l := own_rwW h rfl
theorem OwW.below {base : Nat} {w w' : World} {v : Value} {l : List Cw} (h : OwW base w v l) (b : Below w.heap.size w w') : OwW base w' v l := own_keep (S := fun _ => False) h (Mod.of_below b) fun _ _ => id
theorem OwW.base_ {base base' : Nat} {w : World} {v : Value} {l : List Cw} (h : OwW base w v l) (hb : base' ≤ base) : OwW base' w v l := own_base h hb
theorem info57 : (Tryd.prog.info? 57).map (fun i => (i.zero, i.size, i.bytes)) = some (some (.agg (cwA zCw)), 6, 48) := by kernel_rfl
def room (n : Nat) : Array Value := madeCells (Value.agg (cwA zCw)).cells (n * 6)
theorem make_room (n : Nat) (hn : n ≤ 1048576) (w : World) : (Instr.makeSlice 45 (.int .i64 0) (.int .i64 (n : Int))).run Tryd.prog w = .ok (.slice (some ⟨w.heap.size, 0, none⟩) 0 n) (w.alloc (.cells (room n) 57)) := by
  obtain ⟨i0, hi, hz0, hz1, hz2⟩ := info_agg info57
  have h := run_make (P := Tryd.prog) w 45 57 i0 (.agg (cwA zCw)) Tryd.underlying45 hi hz0 .i64 .i64 0 (n : Int) (by omega) (by omega) (by rw [hz2]; omega) (by omega)
  rw [hz1] at h
  simp only [Int.toNat_natCast] at h
  exact h
theorem own_room (n : Nat) (hn : n ≤ 1048576) (w : World) : OwW w.heap.size (w.alloc (.cells (room n) 57)) (.slice (some ⟨w.heap.size, 0, none⟩) 0 n) [] :=
  ⟨rfl, .inr ⟨w.heap.size, n, room n, rfl, Nat.le_refl _, heap_alloc_new w _, Nat.zero_le _, by unfold maxLen; omega, by simp [room, size_madeCells], by simp [flatW]⟩⟩

set_option maxRecDepth 100000 in
set_option maxHeartbeats 4000000 in
theorem wapp1_any (K : Nat) (gone : Cw → Cw → Cw → Bool) (vp vt : Value) (l : List Cw) (v u1 u2 : Value) (fA fB : Nat → Cw) (bs bb bl ba i : Nat) (c : Cw) (w : World)
    (heg : ∀ args w, (callFunc K args).run Tryd.prog w = .ok (.enter K args) w)
    (hG : ∀ b c a W, Below w.heap.size w W → Calls Tryd.prog K #[.agg (cwA b), .agg (cwA c), .agg (cwA a)] W fun e w' => e = .returned (.bool (gone b c a)) ∧ Below W.heap.size W w')
    (h1 : Blk w bs 52 #[vp, .func (.func K) #[] #[], vt]) (h2 : Boxed w bb 64 u1) (n1 : NearU l fA u1 w) (h3 : Boxed w bl 45 v) (hR : RwW w v l) (h4 : Boxed w ba 64 u2) (n2 : NearU l fB u2 w)
    (hi : l[i]? = some c) :
    Calls Tryd.prog 53 #[.int .i64 (i : Int), .pointer (some ⟨bs, 0, none⟩), .pointer (some ⟨bb, 0, none⟩), .pointer (some ⟨bl, 0, none⟩), .pointer (some ⟨ba, 0, none⟩)] w fun e w' => e = .returned (.bool (gone (fA i) c (fB i))) ∧ Below w.heap.size w w' := by
  have hil : i < l.length := (List.getElem?_eq_some_iff.1 hi).1
  obtain ⟨gf, gl, rfl, m1⟩ := n1
  obtain ⟨gf2, gl2, rfl, m2⟩ := n2
  have C1 : Hid (∀ W, Below w.heap.size w W → Calls Tryd.prog 70 #[.int .i64 (i : Int), .pointer (some ⟨gf, 0, none⟩), .pointer (some ⟨gl, 0, none⟩)] W fun e w' => e = .returned (.agg (cwA (fA i))) ∧ Below W.heap.size W w') := Lib.hid fun W h => wnear1_any l fA gf gl i W (m1.below h) hil
  have C2 : Hid (∀ W, Below w.heap.size w W → Calls Tryd.prog 70 #[.int .i64 (i : Int), .pointer (some ⟨gf2, 0, none⟩), .pointer (some ⟨gl2, 0, none⟩)] W fun e w' => e = .returned (.agg (cwA (fB i))) ∧ Below W.heap.size W w') := Lib.hid fun W h => wnear1_any l fB gf2 gl2 i W (m2.below h) hil
  have CG : Hid (∀ W, Below w.heap.size w W → Calls Tryd.prog K #[.agg (cwA (fA i)), .agg (cwA c), .agg (cwA (fB i))] W fun e w' => e = .returned (.bool (gone (fA i) c (fB i))) ∧ Below W.heap.size W w') := Lib.hid fun W h => hG _ _ _ W h
  obtain ⟨x, hx⟩ : ∃ x, gone (fA i) c (fB i) = x := ⟨_, rfl⟩
  rw [hx] at CG ⊢
  obtain ⟨A, ha⟩ : ∃ x, fA i = x := ⟨_, rfl⟩
  obtain ⟨B, hb⟩ : ∃ x, fB i = x := ⟨_, rfl⟩
  rw [ha] at C1 CG
  rw [hb] at C2 CG
  obtain ⟨ad, cap, o, hv, hab, hao, hLi⟩ := hR.get (Below.refl _ _) hi
  obtain ⟨m, hm⟩ : ∃ m, l.length = m := ⟨_, rfl⟩
  rw [hm] at hv hil
  subst hv
  have hiz : (i : Int) < m := by omega
  have CC : Hid (∀ W, Below w.heap.size w W → W.cell? ⟨bs, 1, none⟩ = some (.func (.func K) #[] #[]) ∧ W.cell? ⟨bb, 0, none⟩ = some (.func (.func 70) #[] #[.pointer (some ⟨gf, 0, none⟩), .pointer (some ⟨gl, 0, none⟩)]) ∧ W.cell? ⟨bl, 0, none⟩ = some (.slice (some ad) m cap) ∧ W.cell? ⟨ba, 0, none⟩ = some (.func (.func 70) #[] #[.pointer (some ⟨gf2, 0, none⟩), .pointer (some ⟨gl2, 0, none⟩)]) ∧ Lies W (ad.add (i * 6)) (cwA c)) := Lib.hid fun W h => by
    have hc2 := h2.cell
    have hc3 := h3.cell
    have hc4 := h4.cell
    exact ⟨(h.cell (p := ⟨bs, 1, none⟩) h1.lt).trans (h1.cell 1), (h.cell (p := ⟨bb, 0, none⟩) (World.block_lt_of_cell? _ _ hc2)).trans hc2, (h.cell (p := ⟨bl, 0, none⟩) (World.block_lt_of_cell? _ _ hc3)).trans hc3, (h.cell (p := ⟨ba, 0, none⟩) (World.block_lt_of_cell? _ _ hc4)).trans hc4, (hao ▸ hLi).below h⟩
  clear hG h1 h2 m1 h3 hR h4 m2 hi hx ha hb hm hLi hao
  go_enter Tryd.func53, Tryd.ntmps53
  go_wp2_with fail

  refine region_any (by kernel_rfl) (fun W => Below w.heap.size w W) (below_drewN (Below.refl _ _) 1) (fun R hR => ?_)
  refine AllS.take (i := 0) (v := ?_) (by rw [List.getElem?_toArray]; rfl) (by kernel_rfl) (by kernel_rfl) (by kernel_rfl) (KeepsIf.read (by rfl) ?_) ?_
  rotate_left
  · intro W hSw
    (try dsimp only at hSw)
    obtain ⟨q1, q2, q3, q4, q5⟩ := CC.out W hSw
    go_simp
    (try with_reducible rfl)
  rotate_left
  (try simp only [Act.put, List.setIfInBounds_toArray, List.set_cons_zero, List.set_cons_succ])
  refine AllS.take (i := 1) (v := ?_) (by rw [List.getElem?_toArray]; rfl) (by kernel_rfl) (by kernel_rfl) (by kernel_rfl) (KeepsIf.read (by rfl) ?_) ?_
  rotate_left
  · intro W hSw
    (try dsimp only at hSw)
    obtain ⟨q1, q2, q3, q4, q5⟩ := CC.out W hSw
    go_simp
    (try with_reducible rfl)
  rotate_left
  (try simp only [Act.put, List.setIfInBounds_toArray, List.set_cons_zero, List.set_cons_succ])
  refine AllS.take (i := 2) (v := ?_) (by rw [List.getElem?_toArray]; rfl) (by kernel_rfl) (by kernel_rfl) (by kernel_rfl) (KeepsIf.read (by rfl) ?_) ?_
  rotate_left
  · intro W hSw
    (try dsimp only at hSw)
    obtain ⟨q1, q2, q3, q4, q5⟩ := CC.out W hSw
    go_simp
    (try with_reducible rfl)
  rotate_left
  (try simp only [Act.put, List.setIfInBounds_toArray, List.set_cons_zero, List.set_cons_succ])
  refine AllS.take (i := 3) (v := ?_) (by rw [List.getElem?_toArray]; rfl) (by kernel_rfl) (by kernel_rfl) (by kernel_rfl) (KeepsIf.read (by rfl) ?_) ?_
  rotate_left
  · intro W hSw
    (try dsimp only at hSw)
    obtain ⟨q1, q2, q3, q4, q5⟩ := CC.out W hSw
    go_simp
    (try with_reducible rfl)
  rotate_left
  (try simp only [Act.put, List.setIfInBounds_toArray, List.set_cons_zero, List.set_cons_succ])
  refine AllS.take (i := 4) (v := .agg (cwA A)) (by rw [List.getElem?_toArray]; rfl) (by kernel_rfl) (by kernel_rfl) (by kernel_rfl) (KeepsIf.call 70 #[.int .i64 (i : Int), .pointer (some ⟨gf, 0, none⟩), .pointer (some ⟨gl, 0, none⟩)] (by kernel_rfl) (fun W => ?_) (fun W hSw => ?_)) ?_
  · go_simp
  · exact (C1.out W hSw).mono fun e w' h => ⟨h.1, below_seq hSw h.2⟩
  (try simp only [Act.put, List.setIfInBounds_toArray, List.set_cons_zero, List.set_cons_succ])
  refine AllS.take (i := 5) (v := ?_) (by rw [List.getElem?_toArray]; rfl) (by kernel_rfl) (by kernel_rfl) (by kernel_rfl) (KeepsIf.read (by rfl) ?_) ?_
  rotate_left
  · intro W hSw
    (try dsimp only at hSw)
    obtain ⟨q1, q2, q3, q4, q5⟩ := CC.out W hSw
    go_simp
    (try with_reducible rfl)
  rotate_left
  (try simp only [Act.put, List.setIfInBounds_toArray, List.set_cons_zero, List.set_cons_succ])
  refine AllS.take (i := 6) (v := ?_) (by rw [List.getElem?_toArray]; rfl) (by kernel_rfl) (by kernel_rfl) (by kernel_rfl) (KeepsIf.read (by rfl) ?_) ?_
  rotate_left
  · intro W hSw
    (try dsimp only at hSw)
    obtain ⟨q1, q2, q3, q4, q5⟩ := CC.out W hSw
    go_simp
    (try with_reducible rfl)
  rotate_left
  (try simp only [Act.put, List.setIfInBounds_toArray, List.set_cons_zero, List.set_cons_succ])
  refine AllS.take (i := 7) (v := ?_) (by rw [List.getElem?_toArray]; rfl) (by kernel_rfl) (by kernel_rfl) (by kernel_rfl) (KeepsIf.read (by rfl) ?_) ?_
  rotate_left
  · intro W hSw
    (try dsimp only at hSw)
    obtain ⟨q1, q2, q3, q4, q5⟩ := CC.out W hSw
    go_simp
    (try with_reducible rfl)
  rotate_left
  (try simp only [Act.put, List.setIfInBounds_toArray, List.set_cons_zero, List.set_cons_succ])
  refine AllS.take (i := 8) (v := .agg (cwA c)) (by rw [List.getElem?_toArray]; rfl) (by kernel_rfl) (by kernel_rfl) (by kernel_rfl) (KeepsIf.read (by rfl) (fun W hSw => ?_)) ?_
  · (try dsimp only at hSw)
    obtain ⟨q1, q2, q3, q4, q5⟩ := CC.out W hSw
    exact rdW (.tmp 14) rfl _ rfl c q5
  (try simp only [Act.put, List.setIfInBounds_toArray, List.set_cons_zero, List.set_cons_succ])
  refine AllS.take (i := 9) (v := ?_) (by rw [List.getElem?_toArray]; rfl) (by kernel_rfl) (by kernel_rfl) (by kernel_rfl) (KeepsIf.read (by rfl) ?_) ?_
  rotate_left
  · intro W hSw
    (try dsimp only at hSw)
    obtain ⟨q1, q2, q3, q4, q5⟩ := CC.out W hSw
    go_simp
    (try with_reducible rfl)
  rotate_left
  (try simp only [Act.put, List.setIfInBounds_toArray, List.set_cons_zero, List.set_cons_succ])
  refine AllS.take (i := 10) (v := ?_) (by rw [List.getElem?_toArray]; rfl) (by kernel_rfl) (by kernel_rfl) (by kernel_rfl) (KeepsIf.read (by rfl) ?_) ?_
  rotate_left
  · intro W hSw
    (try dsimp only at hSw)
    obtain ⟨q1, q2, q3, q4, q5⟩ := CC.out W hSw
    go_simp
    (try with_reducible rfl)
  rotate_left
  (try simp only [Act.put, List.setIfInBounds_toArray, List.set_cons_zero, List.set_cons_succ])
  refine AllS.take (i := 11) (v := .agg (cwA B)) (by rw [List.getElem?_toArray]; rfl) (by kernel_rfl) (by kernel_rfl) (by kernel_rfl) (KeepsIf.call 70 #[.int .i64 (i : Int), .pointer (some ⟨gf2, 0, none⟩), .pointer (some ⟨gl2, 0, none⟩)] (by kernel_rfl) (fun W => ?_) (fun W hSw => ?_)) ?_
  · go_simp
  · exact (C2.out W hSw).mono fun e w' h => ⟨h.1, below_seq hSw h.2⟩
  (try simp only [Act.put, List.setIfInBounds_toArray, List.set_cons_zero, List.set_cons_succ])
  refine AllS.take (i := 12) (v := .bool x) (by rw [List.getElem?_toArray]; rfl) (by kernel_rfl) (by kernel_rfl) (by kernel_rfl) (KeepsIf.call K #[.agg (cwA A), .agg (cwA c), .agg (cwA B)] (by kernel_rfl) (fun W => ?_) (fun W hSw => ?_)) ?_
  · go_simp
  · exact (CG.out W hSw).mono fun e w' h => ⟨h.1, below_seq hSw h.2⟩
  (try simp only [Act.put, List.setIfInBounds_toArray, List.set_cons_zero, List.set_cons_succ])
  refine AllS.take (i := 13) (v := ?_) (by rw [List.getElem?_toArray]; rfl) (by kernel_rfl) (by kernel_rfl) (by kernel_rfl) (KeepsIf.read (by rfl) ?_) ?_
  rotate_left
  · intro W hSw
    (try dsimp only at hSw)
    obtain ⟨q1, q2, q3, q4, q5⟩ := CC.out W hSw
    go_simp
    (try with_reducible rfl)
  rotate_left
  (try simp only [Act.put, List.setIfInBounds_toArray, List.set_cons_zero, List.set_cons_succ])
  refine AllS.done (by kernel_rfl) (hR.out _ ?_) _
  clear hR R
  intro w2 b2
  go_wp2_with fail
  go_ret
  exact ⟨rfl, b2⟩

set_option maxRecDepth 100000 in
set_option maxHeartbeats 4000000 in
theorem wout_any (l : List Cw) (v : Value) (gn : Nat → Bool) (p1 p2 p3 p4 : Value) (w : World) (hR : RwW w v l) (hlen : l.length ≤ 1048576)
    (hG : ∀ i W, i < l.length → Below w.heap.size w W → Calls Tryd.prog 53 #[.int .i64 (i : Int), p1, p2, p3, p4] W fun e w' => e = .returned (.bool (gn i)) ∧ Below W.heap.size W w') :
    Calls Tryd.prog 52 #[v, .func (.func 53) #[] #[p1, p2, p3, p4]] w fun e w' => ∃ u, e = .returned u ∧ OwW w.heap.size w' u (pf gn l l.length) ∧ Below w.heap.size w w' := by
  have HR := Lib.hid hR
  have HG := Lib.hid hG
  obtain ⟨ad, cap, rfl⟩ := hR.form
  obtain ⟨m, hm⟩ : ∃ m, l.length = m := ⟨_, rfl⟩
  have HM := Lib.hid hm
  have hmk := make_room m (by omega)
  rw [hm] at hlen HR HG ⊢
  clear hR hG hm
  go_enter Tryd.func52, Tryd.ntmps52
  go_wp2_with fail
  have O0 := own_room m hlen w
  have b0 := below_alloc w (.cells (room m) 57)
  obtain ⟨w0, hw0⟩ : ∃ w0, w.alloc (.cells (room m) 57) = w0 := ⟨_, rfl⟩
  rw [hw0] at O0 b0 ⊢
  clear hw0 hmk
  go_loopg [5, 13] m (fun kx s5 s13 wr => ∃ (k : Nat) (us : Value), us = s5 ∧ s13 = .int .i64 k ∧ k ≤ m ∧ kx = m - k ∧ OwW w.heap.size wr us (pf gn l k) ∧ Below w.heap.size w wr)
  case atStart => exact ⟨0, _, rfl, rfl, by omega, by omega, O0, b0⟩
  case round =>
    clear O0 b0
    obtain ⟨k, us, rfl, rfl, hk, rfl, O, b⟩ := hrel
    by_cases hkm : k < m
    · obtain ⟨c, hc⟩ := atW_of (l := l) (i := k) (by rw [HM.out]; exact hkm)
      obtain ⟨a2, cap2, o, hv, hab, ha, hLi⟩ := HR.out.get b hc
      rw [HM.out] at hv
      injection hv with hv1 hv2 hv3
      subst hv1 hv3
      have hpl := pf_len gn l k
      have hps := pf_succ (gn := gn) hc
      have HO := Lib.hid O
      have HB := Lib.hid b
      have hbs := b.size
      obtain ⟨q, hq⟩ : ∃ q, gn k = q := ⟨_, rfl⟩
      have C : Hid (∀ W, Below w.heap.size w W → Calls Tryd.prog 53 #[.int .i64 (k : Int), p1, p2, p3, p4] W fun e w' => e = .returned (.bool q) ∧ Below W.heap.size W w') := Lib.hid fun W h => by have := HG.out k W hkm h; rw [hq] at this; exact this
      rw [hq] at hps
      have HPS := Lib.hid hps
      have hkz : (k : Int) < m := by omega
      clear hv2 O b hps hq hc
      go_wp2_with (first
        | (refine ldW rfl (.tmp 16) rfl _ rfl c (ha ▸ hLi) ?_)
        | (refine alWV rfl rfl ?_; intro w1 b1 B1)
        | (refine stW rfl (.tmp 7) (.tmp 17) rfl rfl _ rfl c rfl zCw B1 ?_; intro w2 m2 B2; refine Mk.out ?_))
      constructor
      have b2 : Below wr.heap.size wr w2 := b1.trans (m2.below b1.size fun k hk => by omega)
      have HB2 := Lib.hid B2
      have hb2 := HB.out.trans (b2.mono hbs)
      have O2 := HO.out.below b2
      have H2 := Lib.hid hb2
      have HO2 := Lib.hid O2
      clear b1 B1 m2 B2 b2 hb2 O2
      go_wp2_with fail
      refine (C.out w2 H2.out).mono ?_
      rintro e w3 ⟨rfl, b3⟩
      have H3 := Lib.hid (H2.out.trans (b3.mono H2.out.size))
      have O3 := HO2.out.below b3
      have L3 := (HB2.out.keep (S := fun _ => False) (Mod.of_below b3) id).lies
      have hs3 := H3.out.size
      cases q
      · go_wp2_with (first
          | (refine ldW rfl (.tmp 7) rfl _ rfl c L3 ?_)
          | (refine apW (o1 := ⟨some 24, _, _, _, _, _⟩) rfl (.tmp 23) rfl 24 rfl rfl (.tmp 22) rfl c rfl _ (fun _ => rfl) (fun _ => rfl) w.heap.size (pf gn l k).length _ O3 (by omega) hs3 ?_; intro u4 v5 w5 O5 b5; refine Mk.out ?_))
        constructor
        have O6 : OwW w.heap.size w5 v5 (pf gn l (k + 1)) := by
          unfold OwW
          rw [HPS.out]
          simp only [Bool.false_eq_true, if_false, List.length_append, List.length_singleton]
          rw [flatW_snoc]
          exact O5
        have b6 := H3.out.trans b5
        clear O5 b5 O3 L3
        go_wp2_with fail
        go_roundg (m - (k + 1))
        case measure => omega
        case rel => exact ⟨k + 1, _, rfl, by go_num, by omega, by omega, O6, b6⟩
      · have O6 : OwW w.heap.size w3 us (pf gn l (k + 1)) := by
          unfold OwW
          rw [HPS.out]
          simp only [if_true, List.append_nil]
          exact O3
        clear O3 L3
        go_wp2_with fail
        go_roundg (m - (k + 1))
        case measure => omega
        case rel => exact ⟨k + 1, _, rfl, by go_num, by omega, by omega, O6, H3.out⟩
    · obtain rfl : k = m := by omega
      go_wp2_with fail
      go_ret
      exact ⟨_, rfl, O, b⟩
end Go.Proofs.YtejcfhfmdijimaaDoor
