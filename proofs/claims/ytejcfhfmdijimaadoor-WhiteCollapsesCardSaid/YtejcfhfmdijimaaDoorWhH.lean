/- Contracts of the document's Same, and of what the laws of layer 8 call: great, blank, made, twice, text, becomes. Conditions: the lists lie where the slices say, at most 1048576 elements. -/
import Derived.Test.YtejcfhfmdijimaaDoorWhK
namespace Go.Proofs.YtejcfhfmdijimaaDoor
open Go.ChangeShapes Go.WideShapes Go.ChangeAt Go.RowKit Go.Shelf
open Wh

theorem neCb (c d : Cr) (b : Bool) (hb : decide (c = d) = b) : ∀ w, (binOp .neq 38 (.agg (chA c)) (.agg (chA d))).run Tryd.prog w = .ok (.bool (!b)) w := fun w => neC c d w b hb
theorem eq_upto {l m : List Cr} {k : Nat} (h : ∀ i, i < k → l[i]? = m[i]?) (hl : l.length = k) (hm : m.length = k) : l = m := by
  apply List.ext_getElem?
  intro i
  by_cases hi : i < k
  · exact h i hi
  · rw [List.getElem?_eq_none_iff.2 (by omega), List.getElem?_eq_none_iff.2 (by omega)]
theorem atC_of {l : List Cr} {i : Nat} (h : i < l.length) : ∃ x, l[i]? = some x := ⟨_, List.getElem?_eq_getElem h⟩

set_option maxRecDepth 100000 in
set_option maxHeartbeats 4000000 in
theorem wsame_any (v1 v2 : Value) (l m : List Cr) (w : World) (h1 : RwC w v1 l) (h2 : RwC w v2 m) (hn : l.length ≤ 1048576) :
    Calls Tryd.prog 14 #[v1, v2] w fun e w' => e = .returned (.bool (decide (l = m))) ∧ Below w.heap.size w w' := by
  have H1 := Lib.hid h1
  have H2 := Lib.hid h2
  obtain ⟨A, c, rfl⟩ := h1.form
  obtain ⟨B, c2, rfl⟩ := h2.form
  by_cases hlm : l.length = m.length
  · obtain ⟨b0, hb0⟩ : ∃ b, decide (l = m) = b := ⟨_, rfl⟩
    have HBB := Lib.hid hb0
    rw [hb0]
    obtain ⟨n, hl⟩ : ∃ n, l.length = n := ⟨_, rfl⟩
    have HL := Lib.hid hl
    have HM : Hid (m.length = n) := Lib.hid (hlm.symm.trans hl)
    rw [hl] at hn H1 hlm ⊢
    rw [← hlm] at H2 ⊢
    clear h1 h2 hl hlm hb0
    go_enter Tryd.func14, Tryd.ntmps14
    go_wp2_with fail
    go_loopg [5] n (fun kx s5 wr => ∃ k : Nat, s5 = .int .i64 k ∧ k ≤ n ∧ kx = n - k ∧ Below w.heap.size w wr ∧ Hid (∀ i, i < k → l[i]? = m[i]?))
    case atStart => exact ⟨0, rfl, by omega, rfl, Below.refl _ _, Lib.hid fun i hi => by omega⟩
    case round =>
      obtain ⟨k, rfl, hk, rfl, bel, HI⟩ := hrel
      by_cases hlt : k < n
      · have hz : (k : Int) < n := by omega
        obtain ⟨x, hx⟩ := atC_of (l := l) (i := k) (by rw [HL.out]; exact hlt)
        obtain ⟨y, hy⟩ := atC_of (l := m) (i := k) (by rw [HM.out]; exact hlt)
        obtain ⟨a1, cap1, o1, hv, _, ha1, hL1⟩ := H1.out.get bel hx
        rw [HL.out] at hv
        injection hv with hv1 hv2 hv3
        subst hv1 hv3
        obtain ⟨a2, cap2, o2, hv, _, ha2, hL2⟩ := H2.out.get bel hy
        rw [HM.out] at hv
        injection hv with hv1 hv4 hv3
        subst hv1 hv3
        obtain ⟨b, hb⟩ : ∃ b, decide (x = y) = b := ⟨_, rfl⟩
        have HNE := Lib.hid (neCb x y b hb)
        have HX := Lib.hid hx
        have HY := Lib.hid hy
        have HB := Lib.hid hb
        clear hv2 hv4 hx hy hb
        go_wp2_with fail

        refine region_any (by kernel_rfl) (fun W => Below wr.heap.size wr W) (below_drewN (Below.refl _ _) 1) (fun R hR => ?_)
        refine AllS.take (i := 0) (v := ?_) (by rw [List.getElem?_toArray]; rfl) (by kernel_rfl) (by kernel_rfl) (by kernel_rfl) (KeepsIf.read (by rfl) ?_) ?_
        rotate_left
        · intro W hSw
          (try dsimp only at hSw)
          go_simp
          (try with_reducible rfl)
        rotate_left
        (try simp only [Act.put, List.setIfInBounds_toArray, List.set_cons_zero, List.set_cons_succ])
        refine AllS.take (i := 1) (v := ?_) (by rw [List.getElem?_toArray]; rfl) (by kernel_rfl) (by kernel_rfl) (by kernel_rfl) (KeepsIf.read (by rfl) ?_) ?_
        rotate_left
        · intro W hSw
          (try dsimp only at hSw)
          go_simp
          (try with_reducible rfl)
        rotate_left
        (try simp only [Act.put, List.setIfInBounds_toArray, List.set_cons_zero, List.set_cons_succ])
        refine AllS.take (i := 2) (v := ?_) (by rw [List.getElem?_toArray]; rfl) (by kernel_rfl) (by kernel_rfl) (by kernel_rfl) (KeepsIf.read (by rfl) ?_) ?_
        rotate_left
        · intro W hSw
          (try dsimp only at hSw)
          go_simp
          (try with_reducible rfl)
        rotate_left
        (try simp only [Act.put, List.setIfInBounds_toArray, List.set_cons_zero, List.set_cons_succ])
        refine AllS.take (i := 3) (v := .agg (chA x)) (by rw [List.getElem?_toArray]; rfl) (by kernel_rfl) (by kernel_rfl) (by kernel_rfl) (KeepsIf.read (by rfl) (fun W hSw => ?_)) ?_
        · (try dsimp only at hSw)
          exact rdC (.tmp 19) rfl _ rfl x (ha1 ▸ hL1.below hSw)
        (try simp only [Act.put, List.setIfInBounds_toArray, List.set_cons_zero, List.set_cons_succ])
        refine AllS.take (i := 4) (v := ?_) (by rw [List.getElem?_toArray]; rfl) (by kernel_rfl) (by kernel_rfl) (by kernel_rfl) (KeepsIf.read (by rfl) ?_) ?_
        rotate_left
        · intro W hSw
          (try dsimp only at hSw)
          go_simp
          (try with_reducible rfl)
        rotate_left
        (try simp only [Act.put, List.setIfInBounds_toArray, List.set_cons_zero, List.set_cons_succ])
        refine AllS.take (i := 5) (v := ?_) (by rw [List.getElem?_toArray]; rfl) (by kernel_rfl) (by kernel_rfl) (by kernel_rfl) (KeepsIf.read (by rfl) ?_) ?_
        rotate_left
        · intro W hSw
          (try dsimp only at hSw)
          go_simp
          (try with_reducible rfl)
        rotate_left
        (try simp only [Act.put, List.setIfInBounds_toArray, List.set_cons_zero, List.set_cons_succ])
        refine AllS.take (i := 6) (v := ?_) (by rw [List.getElem?_toArray]; rfl) (by kernel_rfl) (by kernel_rfl) (by kernel_rfl) (KeepsIf.read (by rfl) ?_) ?_
        rotate_left
        · intro W hSw
          (try dsimp only at hSw)
          go_simp
          (try with_reducible rfl)
        rotate_left
        (try simp only [Act.put, List.setIfInBounds_toArray, List.set_cons_zero, List.set_cons_succ])
        refine AllS.take (i := 7) (v := .agg (chA y)) (by rw [List.getElem?_toArray]; rfl) (by kernel_rfl) (by kernel_rfl) (by kernel_rfl) (KeepsIf.read (by rfl) (fun W hSw => ?_)) ?_
        · (try dsimp only at hSw)
          exact rdC (.tmp 23) rfl _ rfl y (ha2 ▸ hL2.below hSw)
        (try simp only [Act.put, List.setIfInBounds_toArray, List.set_cons_zero, List.set_cons_succ])
        refine AllS.take (i := 8) (v := .bool (!b)) (by rw [List.getElem?_toArray]; rfl) (by kernel_rfl) (by kernel_rfl) (by kernel_rfl) (KeepsIf.read (by rfl) (fun W hSw => ?_)) ?_
        · (try dsimp only at hSw)
          have hne := HNE.out
          go_simp
        (try simp only [Act.put, List.setIfInBounds_toArray, List.set_cons_zero, List.set_cons_succ])
        refine AllS.done (by kernel_rfl) (hR.out _ ?_) _
        clear hR R
        intro w2 b2
        cases b with
        | true =>
          have hxy : x = y := of_decide_eq_true HB.out
          have HI2 : Hid (∀ i, i < k + 1 → l[i]? = m[i]?) := Lib.hid fun i hi => by
            by_cases e : i = k
            · rw [e, HX.out, HY.out, hxy]
            · exact HI.out i (by omega)
          clear hxy hL1 hL2 ha1 ha2
          go_wp2_with fail
          go_roundg (n - (k + 1))
          case measure => omega
          case rel => exact ⟨k + 1, by go_num, by omega, rfl, bel.trans (b2.mono bel.size), HI2⟩
        | false =>
          have HF : Hid (b0 = false) := Lib.hid (by
            rw [← HBB.out]
            refine decide_eq_false fun h => ?_
            rw [h, HY.out] at HX
            have := Option.some.inj HX.out
            exact absurd this.symm (of_decide_eq_false HB.out))
          clear hL1 hL2 ha1 ha2
          go_wp2_with fail
          go_ret
          exact ⟨retb HF.out.symm, bel.trans (b2.mono bel.size)⟩
      · obtain rfl : k = n := by omega
        have HT : Hid (b0 = true) := Lib.hid (by
          rw [← HBB.out]
          exact decide_eq_true (eq_upto HI.out HL.out HM.out))
        go_wp2_with fail
        go_ret
        exact ⟨retb HT.out.symm, bel⟩
  · rw [decide_eq_false (fun h => hlm (by rw [h]))]
    obtain ⟨n, hl⟩ : ∃ n, l.length = n := ⟨_, rfl⟩
    obtain ⟨p, hp⟩ : ∃ n, m.length = n := ⟨_, rfl⟩
    rw [hl, hp] at hlm
    rw [hl, hp]
    rw [hl] at hn
    have hne : ((n : Int) == (p : Int)) = false := by simpa using (by omega : ¬ (n : Int) = p)
    clear H1 H2 h1 h2 hl hp
    go_enter Tryd.func14, Tryd.ntmps14
    go_wp2_with fail
    go_ret
    exact ⟨rfl, Below.refl _ _⟩

/-- is a list more than a law looks at? -/
def greatB (n sn : Nat) : Bool := decide (150 < n) || decide (40 < sn)
set_option maxRecDepth 100000 in
set_option maxHeartbeats 2000000 in
theorem wgreat_any (A B : Option Addr) (n c sn c2 : Nat) (w : World) :
    Calls Tryd.prog 8 #[.slice A n c, .slice B sn c2] w fun e w' => e = .returned (.bool (greatB n sn)) ∧ w = w' := by
  by_cases h1 : 150 < n
  · rw [show greatB n sn = true by unfold greatB; rw [decide_eq_true h1]; rfl]
    have hz : (150 : Int) < n := by omega
    go_enter Tryd.func8, Tryd.ntmps8
    go_wp2_with fail
    go_ret
    exact ⟨rfl, rfl⟩
  · have hz : ¬ (150 : Int) < n := by omega
    by_cases h2 : 40 < sn
    · rw [show greatB n sn = true by unfold greatB; rw [decide_eq_true h2, Bool.or_true]]
      have hz2 : (40 : Int) < sn := by omega
      clear h1
      go_enter Tryd.func8, Tryd.ntmps8
      go_wp2_with fail
      go_ret
      exact ⟨rfl, rfl⟩
    · rw [show greatB n sn = false by unfold greatB; rw [decide_eq_false h1, decide_eq_false h2]; rfl]
      have hz2 : ¬ (40 : Int) < sn := by omega
      clear h1 h2
      go_enter Tryd.func8, Tryd.ntmps8
      go_wp2_with fail
      go_ret
      exact ⟨rfl, rfl⟩

set_option maxRecDepth 100000 in
set_option maxHeartbeats 4000000 in
theorem wblank_any (c : Cr) (w : World) :
    Calls Tryd.prog 18 #[.agg (chA c)] w fun e w' => e = .returned (.bool (Wh.blank c)) ∧ Below w.heap.size w w' := by
  obtain ⟨r, xn, xa, xl, kd⟩ := c
  have hv : Wh.blank ⟨r, xn, xa, xl, kd⟩ = (decide (kd = 0) && (decide (r = 32) || decide (r = 9) || decide (r = 10) || decide (r = 13))) := rfl
  rw [hv]
  clear hv
  unfold chA
  dsimp only
  by_cases hk : kd = 0
  · subst hk
    by_cases h1 : r = 32
    · subst h1
      go_enter Tryd.func18, Tryd.ntmps18
      go_wp2
      go_ret
      exact ⟨retb (by decide), below_alloc _ _⟩
    · have e1 : (r == 32) = false := by simpa using h1
      by_cases h2 : r = 9
      · subst h2
        go_enter Tryd.func18, Tryd.ntmps18
        go_wp2
        go_ret
        exact ⟨retb (by decide), below_alloc _ _⟩
      · have e2 : (r == 9) = false := by simpa using h2
        by_cases h3 : r = 10
        · subst h3
          go_enter Tryd.func18, Tryd.ntmps18
          go_wp2
          go_ret
          exact ⟨retb (by decide), below_alloc _ _⟩
        · have e3 : (r == 10) = false := by simpa using h3
          by_cases h4 : r = 13
          · subst h4
            go_enter Tryd.func18, Tryd.ntmps18
            go_wp2
            go_ret
            exact ⟨retb (by decide), below_alloc _ _⟩
          · have e4 : (r == 13) = false := by simpa using h4
            go_enter Tryd.func18, Tryd.ntmps18
            go_wp2
            go_ret
            exact ⟨retb (by simp [h1, h2, h3, h4]), below_alloc _ _⟩
  · have e0 : (kd == 0) = false := by simpa using hk
    go_enter Tryd.func18, Tryd.ntmps18
    go_wp2
    go_ret
    exact ⟨retb (by simp [hk]), below_alloc _ _⟩

/-- has a list a break that a node makes, whose number is not 0? -/
def madeB (l : List Cr) : Bool := l.any fun c => decide (c.kind = 5) && !decide (c.r = 0)
set_option maxRecDepth 100000 in
set_option maxHeartbeats 4000000 in
theorem wmade_any (v : Value) (l : List Cr) (w : World) (h1 : RwC w v l) (hn : l.length ≤ 1048576) :
    Calls Tryd.prog 19 #[v] w fun e w' => e = .returned (.bool (madeB l)) ∧ w = w' := by
  have H1 := Lib.hid h1
  obtain ⟨A, c, rfl⟩ := h1.form
  obtain ⟨b0, hb0⟩ : ∃ b, madeB l = b := ⟨_, rfl⟩
  have HBB := Lib.hid hb0
  rw [hb0]
  obtain ⟨n, hl⟩ : ∃ n, l.length = n := ⟨_, rfl⟩
  have HL := Lib.hid hl
  rw [hl] at hn H1 ⊢
  clear h1 hl hb0
  go_enter Tryd.func19, Tryd.ntmps19
  go_wp2_with fail
  go_loopg [3] n (fun kx s3 wr => ∃ k : Nat, s3 = .int .i64 k ∧ k ≤ n ∧ kx = n - k ∧ w = wr ∧ Hid (∀ i c, i < k → l[i]? = some c → (decide (c.kind = 5) && !decide (c.r = 0)) = false))
  case atStart => exact ⟨0, rfl, by omega, rfl, rfl, Lib.hid fun i c hi => by omega⟩
  case round =>
    obtain ⟨k, rfl, hk, rfl, rfl, HI⟩ := hrel
    by_cases hlt : k < n
    · have hz : (k : Int) < n := by omega
      obtain ⟨x, hx⟩ := atC_of (l := l) (i := k) (by rw [HL.out]; exact hlt)
      obtain ⟨a1, cap1, o1, hv, _, ha1, hL1⟩ := H1.out.get (Below.refl _ _) hx
      rw [HL.out] at hv
      injection hv with hv1 hv2 hv3
      subst hv1 hv3
      have HX := Lib.hid hx
      have q0 : w.cell? ⟨a1.block, o1, none⟩ = some (.int .i32 x.r) := by have := hL1 0 _ rfl; rwa [Addr.add_lit] at this
      have q4 : w.cell? ⟨a1.block, o1 + 4, none⟩ = some (.int .u8 x.kind) := by have := hL1 4 _ rfl; rwa [Addr.add_lit] at this
      have HSTEP : Hid ((decide (x.kind = 5) && !decide (x.r = 0)) = false → ∀ i c, i < k + 1 → l[i]? = some c → (decide (c.kind = 5) && !decide (c.r = 0)) = false) := Lib.hid fun h i c hi hc => by
        by_cases e : i = k
        · subst e
          rw [HX.out] at hc
          cases hc
          exact h
        · exact HI.out i c (by omega) hc
      have HHIT : Hid ((decide (x.kind = 5) && !decide (x.r = 0)) = true → b0 = true) := Lib.hid fun h => by
        rw [← HBB.out]
        exact List.any_eq_true.2 ⟨x, List.mem_of_getElem? HX.out, h⟩
      obtain ⟨r, hr⟩ : ∃ r, x.r = r := ⟨_, rfl⟩
      obtain ⟨kd, hkd⟩ : ∃ z, x.kind = z := ⟨_, rfl⟩
      rw [hr] at q0 HSTEP HHIT
      rw [hkd] at q4 HSTEP HHIT
      clear hv2 hx hL1 hr hkd
      by_cases h5 : kd = 5
      · subst h5
        by_cases hr0 : r = 0
        · subst hr0
          have HI2 := Lib.hid (HSTEP.out (by decide))
          clear HSTEP HHIT HI
          go_wp2_with fail
          go_roundg (n - (k + 1))
          case measure => omega
          case rel => exact ⟨k + 1, by go_num, by omega, rfl, rfl, HI2⟩
        · have er : (r == 0) = false := by simpa using hr0
          have HB := Lib.hid (HHIT.out (by simp [hr0]))
          clear HSTEP HHIT HI
          go_wp2_with fail
          go_ret
          exact ⟨retb HB.out.symm, rfl⟩
      · have e5 : (kd == 5) = false := by simpa using h5
        have HI2 := Lib.hid (HSTEP.out (by simp [h5]))
        clear HSTEP HHIT HI
        go_wp2_with fail
        go_roundg (n - (k + 1))
        case measure => omega
        case rel => exact ⟨k + 1, by go_num, by omega, rfl, rfl, HI2⟩
    · obtain rfl : k = n := by omega
      have HB : Hid (b0 = false) := Lib.hid (by
        rw [← HBB.out]
        cases h : madeB l with
        | false => rfl
        | true =>
          obtain ⟨c, hc, hh⟩ := List.any_eq_true.1 h
          obtain ⟨i, hi⟩ := List.mem_iff_getElem?.1 hc
          have := HI.out i c (by have := (List.getElem?_eq_some_iff.1 hi).1; rw [HL.out] at this; exact this) hi
          rw [hh] at this
          cases this)
      go_wp2_with fail
      go_ret
      exact ⟨retb HB.out.symm, rfl⟩
end Go.Proofs.YtejcfhfmdijimaaDoor
