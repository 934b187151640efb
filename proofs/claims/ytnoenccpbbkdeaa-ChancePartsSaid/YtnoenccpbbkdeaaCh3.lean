/- Contracts of chance's in and valid and of the reference's May: may the list be? Conditions: the slices read as the lists, at most 1048576 long. -/
import Derived.Test.YtnoenccpbbkdeaaCh2
import Derived.Test.YtnoenccpbbkdeaaGJ
namespace Go.Proofs.Ytnoenccpbbkdeaa
open Go.ChangeShapes Go.WideShapes Go.ChangeAt Go.RowKit
open Wh (Cr)
open Ch

/-- numbers of 64 bits, as cells -/
def r64 (l : List Int) : List Value := l.map (Value.int .i64)
theorem r64_len (l : List Int) : (r64 l).length = l.length := by simp [r64]
theorem r64_at {l : List Int} {k : Nat} {x : Int} (h : l[k]? = some x) : (r64 l)[k]? = some (.int .i64 x) := by simp [r64, h]
abbrev RI (w : World) (v : Value) (l : List Int) : Prop := Row (fun _ => False) w v (r64 l)
theorem at_ {α : Type} {l : List α} {k : Nat} (h : k < l.length) : ∃ x, l[k]? = some x := ⟨_, List.getElem?_eq_getElem h⟩

theorem lies_cell {w : World} {g o : Nat} {cs : Array Value} (h : Lies w ⟨g, o, none⟩ cs) (j : Nat) {v : Value} (hv : cs[j]? = some v) : w.cell? ⟨g, o + j, none⟩ = some v := by
  have h1 := h j v hv
  have e : (⟨g, o, none⟩ : Addr).add j = ⟨g, o + j, none⟩ := by unfold Addr.add; split <;> simp_all
  rwa [e] at h1
/-- what is there of the first k may be -/
def okUp (n : Nat) (l : List Cr) (rs : List Int) (k : Nat) : Prop := ∀ i c r, i < k → l[i]? = some c → rs[i]? = some r → okC n c = true ∧ (0 < i → okR n r = true)
theorem okUp_succ {n : Nat} {l : List Cr} {rs : List Int} {k : Nat} {c : Cr} {r : Int} (h : okUp n l rs k) (hc : l[k]? = some c) (hr : rs[k]? = some r) (h1 : okC n c = true) (h2 : 0 < k → okR n r = true) : okUp n l rs (k + 1) := fun i d q hi hd hq => by
  by_cases e : i = k
  · subst e
    rw [hc] at hd
    rw [hr] at hq
    cases hd
    cases hq
    exact ⟨h1, h2⟩
  · exact h i d q (by omega) hd hq
theorem may_true {n : Nat} {l : List Cr} {rs : List Int} (hl : l.length = rs.length) (h : okUp n l rs l.length) : mayC l n rs = true := by
  unfold mayC
  simp only [Bool.and_eq_true, decide_eq_true_eq]
  refine ⟨⟨hl, List.all_eq_true.2 fun c hc => ?_⟩, List.all_eq_true.2 fun r hr => ?_⟩
  · obtain ⟨i, hi⟩ := List.getElem?_of_mem hc
    have hil := (List.getElem?_eq_some_iff.1 hi).1
    obtain ⟨r, hr⟩ := at_ (l := rs) (k := i) (by omega)
    exact (h i c r hil hi hr).1
  · obtain ⟨i, hi⟩ := List.getElem?_of_mem hr
    rw [List.getElem?_drop] at hi
    have hil := (List.getElem?_eq_some_iff.1 hi).1
    obtain ⟨c, hc⟩ := at_ (l := l) (k := 1 + i) (by omega)
    exact (h (1 + i) c r (by omega) hc hi).2 (by omega)
theorem may_len {n : Nat} {l : List Cr} {rs : List Int} (hl : ¬ l.length = rs.length) : mayC l n rs = false := by
  unfold mayC
  rw [decide_eq_false hl]
  rfl
theorem may_badC {n : Nat} {l : List Cr} {rs : List Int} {k : Nat} {c : Cr} (hc : l[k]? = some c) (h : okC n c = false) : mayC l n rs = false := by
  unfold mayC
  have e : l.all (okC n) = false := by
    rw [Bool.eq_false_iff]
    intro h2
    rw [List.all_eq_true.1 h2 c (List.mem_of_getElem? hc)] at h
    cases h
  rw [e]
  simp
theorem may_badR {n : Nat} {l : List Cr} {rs : List Int} {k : Nat} {r : Int} (h0 : 0 < k) (hr : rs[k]? = some r) (h : okR n r = false) : mayC l n rs = false := by
  unfold mayC
  have e : (rs.drop 1).all (okR n) = false := by
    rw [Bool.eq_false_iff]
    intro h2
    obtain ⟨j, rfl⟩ : ∃ j, k = j + 1 := ⟨k - 1, by omega⟩
    rw [List.all_eq_true.1 h2 r (List.mem_of_getElem? (i := j) (by rw [List.getElem?_drop, Nat.add_comm]; exact hr))] at h
    cases h
  rw [e]
  simp
theorem okC_is {n : Nat} {c : Cr} (h0 : 0 ≤ c.node) (h1 : c.node < (n : Int)) (h2 : c.kind ≤ 6) : okC n c = true := by simp [okC, h0, h1, h2]
theorem okC_kind {n : Nat} {c : Cr} (h : ¬ c.kind ≤ 6) : okC n c = false := by simp [okC, h]
theorem okC_low {n : Nat} {c : Cr} (h : c.node < 0) : okC n c = false := by simp [okC]; omega
theorem okC_high {n : Nat} {c : Cr} (h : ¬ c.node < (n : Int)) : okC n c = false := by simp [okC, h]
theorem okC_in {n : Nat} {c : Cr} (h : okR n c.node = true) (h2 : c.kind ≤ 6) : okC n c = true := by
  unfold okR at h
  simp only [Bool.and_eq_true, decide_eq_true_eq] at h
  exact okC_is h.1 h.2 h2
theorem okC_out {n : Nat} {c : Cr} (h : okR n c.node = false) : okC n c = false := by
  unfold okR at h
  unfold okC
  rw [h]
  rfl

set_option maxRecDepth 100000 in
set_option maxHeartbeats 2000000 in
theorem chidx_any (i : Int) (n : Nat) (w : World) :
    Calls Try.prog 30 #[.int .i64 i, .int .i64 (n : Int)] w fun e w' => e = .returned (.bool (okR n i)) ∧ w' = w := by
  go_enter Try.func30, Try.ntmps30
  by_cases h0 : 0 ≤ i
  · go_wp2_with fail
    go_ret
    exact ⟨retb (by simp [okR, h0]), rfl⟩
  · go_wp2_with fail
    go_ret
    exact ⟨retb (by simp [okR]; omega), rfl⟩


set_option maxRecDepth 100000 in
set_option maxHeartbeats 8000000 in
theorem chvalid_any (l : List Cr) (n : Nat) (rs : List Int) (v vr : Value) (w : World) (hR : RwC w v l) (hI : RI w vr rs) (hlen : l.length ≤ 1048576) :
    Calls Try.prog 19 #[v, .int .i64 (n : Int), vr] w fun e w' => e = .returned (.bool (mayC l n rs)) ∧ Below w.heap.size w w' := by
  have HR := Lib.hid hR
  have HI := Lib.hid hI
  obtain ⟨A, cap, rfl⟩ := hR.form
  obtain ⟨A2, cap2, rfl⟩ := hI.form
  obtain ⟨m, hm⟩ : ∃ m, l.length = m := ⟨_, rfl⟩
  obtain ⟨m2, hm2⟩ : ∃ m, rs.length = m := ⟨_, rfl⟩
  have HM := Lib.hid hm
  have HM2 := Lib.hid hm2
  obtain ⟨q, hq⟩ : ∃ q, mayC l n rs = q := ⟨_, rfl⟩
  have HQ := Lib.hid hq
  rw [hq]
  rw [r64_len, hm2] at HI ⊢
  rw [hm] at hlen HR ⊢
  clear hR hI hm hm2 hq
  go_enter Try.func19, Try.ntmps19
  by_cases hmm : m2 = m
  rotate_left
  · have hz : ¬ (m2 : Int) = m := by omega
    go_wp2_with fail
    go_ret
    exact ⟨retb (by rw [← HQ.out, may_len (by rw [HM.out, HM2.out]; omega)]), Below.refl _ _⟩
  subst hmm
  go_wp2_with fail
  go_loopg [16] m2 (fun kx i wr => ∃ (k : Nat), i = .int .i64 k ∧ k ≤ m2 ∧ kx = m2 - k ∧ Below w.heap.size w wr ∧ Hid (okUp n l rs k))
  case atStart => exact ⟨0, rfl, by omega, by omega, Below.refl _ _, Lib.hid fun i _ _ h => absurd h (by omega)⟩
  case round =>
    obtain ⟨k, rfl, hk, rfl, bel, HK⟩ := hrel
    by_cases hlt : k < m2
    · obtain ⟨c, hc⟩ := at_ (l := l) (k := k) (by rw [HM.out]; exact hlt)
      obtain ⟨r, hr⟩ := at_ (l := rs) (k := k) (by rw [HM2.out]; exact hlt)
      obtain ⟨ad, cp, o, hv, hab, ha, hLi⟩ := HR.out.get bel hc
      rw [HM.out] at hv
      injection hv with hv1 hv2 hv3
      subst hv1 hv3
      obtain ⟨a2, cp2, hv4, hab2, _, hcell⟩ := HI.out.at_ (by rw [r64_len, HM2.out]; omega)
      obtain rfl : A2 = some a2 := by injection hv4
      have hcz := (bel.cell (p := a2.add k) (by rw [block_of_add]; exact hab2)).trans (hcell k _ (r64_at hr))
      have HCC := Lib.hid hc
      have HRR := Lib.hid hr
      have C1 : Hid (∀ W, Calls Try.prog 30 #[.int .i64 c.node, .int .i64 (n : Int)] W fun e w' => e = .returned (.bool (okR n c.node)) ∧ w' = W) := Lib.hid fun W => chidx_any _ n W
      have C2 : Hid (∀ W, Calls Try.prog 30 #[.int .i64 r, .int .i64 (n : Int)] W fun e w' => e = .returned (.bool (okR n r)) ∧ w' = W) := Lib.hid fun W => chidx_any _ n W
      obtain ⟨q1, hq1⟩ : ∃ q, okR n c.node = q := ⟨_, rfl⟩
      obtain ⟨q2, hq2⟩ : ∃ q, okR n r = q := ⟨_, rfl⟩
      have HQ1 := Lib.hid hq1
      have HQ2 := Lib.hid hq2
      rw [hq1] at C1
      rw [hq2] at C2
      obtain ⟨nd, hnd⟩ : ∃ x, c.node = x := ⟨_, rfl⟩
      obtain ⟨kd, hkd⟩ : ∃ x, c.kind = x := ⟨_, rfl⟩
      rw [hnd] at C1
      have HKD := Lib.hid hkd
      have hkz : (k : Int) < m2 := by omega
      have hk4 : (5 : Nat) = 5 := rfl
      clear hv2 hv4 hcell hc hr hq1 hq2 hk4
      go_wp2_with (first
        | (refine ldC rfl (.tmp 19) rfl _ rfl c (by first | exact hLi | exact ha ▸ hLi) ?_)
        | (refine alCV rfl rfl ?_; intro w1 b1 B1)
        | (refine stC rfl (.tmp 8) (.tmp 20) rfl rfl _ rfl c rfl zCr B1 ?_; intro w2 m3 B2; refine Mk.out ?_))
      constructor
      have b2 : Below wr.heap.size wr w2 := b1.trans (m3.below b1.size fun k hk => by omega)
      have bel2 := bel.trans (b2.mono bel.size)
      have hcz2 := (b2.cell (p := a2.add k) (by rw [block_of_add]; have := bel.size; omega)).trans hcz
      have c1 : w2.cell? ⟨wr.heap.size, 1, none⟩ = some (.int .i64 c.node) := B2.cell 1
      have c4 : w2.cell? ⟨wr.heap.size, 4, none⟩ = some (.int .u8 c.kind) := B2.cell 4
      rw [hnd] at c1
      rw [hkd] at c4
      clear hcz hLi b1 B1 m3 B2 b2 bel hnd hkd
      by_cases h6 : 6 < kd
      · go_wp2_with fail
        go_ret
        exact ⟨retb (by rw [← HQ.out, may_badC HCC.out (okC_kind (by rw [HKD.out]; omega))]), bel2⟩
      · go_wp2_with fail
        refine (C1.out _).mono ?_
        rintro e w3 ⟨rfl, rfl⟩
        cases q1
        · go_wp2_with fail
          go_ret
          exact ⟨retb (by rw [← HQ.out, may_badC HCC.out (okC_out HQ1.out)]), bel2⟩
        · by_cases h0 : 0 < k
          · have h0z : (0 : Int) < k := by omega
            go_wp2_with fail
            refine (C2.out _).mono ?_
            rintro e w3 ⟨rfl, rfl⟩
            cases q2
            · go_wp2_with fail
              go_ret
              exact ⟨retb (by rw [← HQ.out, may_badR h0 HRR.out HQ2.out]), bel2⟩
            · go_wp2_with fail
              go_roundg (m2 - (k + 1))
              case measure => omega
              case rel => exact ⟨k + 1, by go_num, by omega, by first | rfl | trivial, bel2, Lib.hid (okUp_succ HK.out HCC.out HRR.out (okC_in HQ1.out (by rw [HKD.out]; omega)) fun _ => HQ2.out)⟩
          · have h0z : ¬ (0 : Int) < k := by omega
            go_wp2_with fail
            go_roundg (m2 - (k + 1))
            case measure => omega
            case rel => exact ⟨k + 1, by go_num, by omega, by first | rfl | trivial, bel2, Lib.hid (okUp_succ HK.out HCC.out HRR.out (okC_in HQ1.out (by rw [HKD.out]; omega)) fun h => absurd h h0)⟩
    · obtain rfl : k = m2 := by omega
      go_wp2_with fail
      go_ret
      exact ⟨retb (by rw [← HQ.out, may_true (by rw [HM.out, HM2.out]) (by rw [HM.out]; exact HK.out)]), bel⟩

set_option maxRecDepth 100000 in
set_option maxHeartbeats 8000000 in
theorem rmay_any (l : List Cr) (n : Nat) (rs : List Int) (v vr : Value) (A3 : Option Addr) (cap3 : Nat) (w : World) (hR : RwC w v l) (hI : RI w vr rs) (hlen : l.length ≤ 1048576) :
    Calls Try.prog 24 #[v, .slice A3 n cap3, vr] w fun e w' => e = .returned (.bool (mayC l n rs)) ∧ w' = w := by
  have HR := Lib.hid hR
  have HI := Lib.hid hI
  obtain ⟨A, cap, rfl⟩ := hR.form
  obtain ⟨A2, cap2, rfl⟩ := hI.form
  obtain ⟨m, hm⟩ : ∃ m, l.length = m := ⟨_, rfl⟩
  obtain ⟨m2, hm2⟩ : ∃ m, rs.length = m := ⟨_, rfl⟩
  have HM := Lib.hid hm
  have HM2 := Lib.hid hm2
  obtain ⟨q, hq⟩ : ∃ q, mayC l n rs = q := ⟨_, rfl⟩
  have HQ := Lib.hid hq
  rw [hq]
  rw [r64_len, hm2] at HI ⊢
  rw [hm] at hlen HR ⊢
  clear hR hI hm hm2 hq
  go_enter Try.func24, Try.ntmps24
  by_cases hmm : m2 = m
  rotate_left
  · have hz : ¬ (m : Int) = m2 := by omega
    go_wp2_with fail
    go_ret
    exact ⟨retb (by rw [← HQ.out, may_len (by rw [HM.out, HM2.out]; omega)]), rfl⟩
  subst hmm
  go_wp2_with fail
  go_loopg [7] m2 (fun kx i wr => ∃ (k : Nat), i = .int .i64 k ∧ k ≤ m2 ∧ kx = m2 - k ∧ wr = w ∧ Hid (okUp n l rs k))
  case atStart => exact ⟨0, rfl, by omega, by omega, rfl, Lib.hid fun i _ _ h => absurd h (by omega)⟩
  case round =>
    obtain ⟨k, rfl, hk, rfl, rfl, HK⟩ := hrel
    by_cases hlt : k < m2
    · obtain ⟨c, hc⟩ := at_ (l := l) (k := k) (by rw [HM.out]; exact hlt)
      obtain ⟨r, hr⟩ := at_ (l := rs) (k := k) (by rw [HM2.out]; exact hlt)
      obtain ⟨ad, cp, o, hv, hab, ha, hLi⟩ := HR.out.get (Below.refl _ _) hc
      rw [HM.out] at hv
      injection hv with hv1 hv2 hv3
      subst hv1 hv3
      obtain ⟨a2, cp2, hv4, hab2, _, hcell⟩ := HI.out.at_ (by rw [r64_len, HM2.out]; omega)
      obtain rfl : A2 = some a2 := by injection hv4
      have hcz := hcell k _ (r64_at hr)
      have c1 : wr.cell? ⟨ad.block, o + 1, none⟩ = some (.int .i64 c.node) := lies_cell hLi 1 rfl
      have c4 : wr.cell? ⟨ad.block, o + 4, none⟩ = some (.int .u8 c.kind) := lies_cell hLi 4 rfl
      have HCC := Lib.hid hc
      have HRR := Lib.hid hr
      obtain ⟨nd, hnd⟩ : ∃ x, c.node = x := ⟨_, rfl⟩
      obtain ⟨kd, hkd⟩ : ∃ x, c.kind = x := ⟨_, rfl⟩
      rw [hnd] at c1
      rw [hkd] at c4
      have HND := Lib.hid hnd
      have HKD := Lib.hid hkd
      have hkz : (k : Int) < m2 := by omega
      clear hv2 hv4 hcell hc hr hLi hnd hkd
      by_cases hn0 : nd < 0
      · go_wp2_with fail
        go_ret
        exact ⟨retb (by rw [← HQ.out, may_badC HCC.out (okC_low (by rw [HND.out]; exact hn0))]), rfl⟩
      by_cases hn1 : (n : Int) ≤ nd
      · go_wp2_with fail
        go_ret
        exact ⟨retb (by rw [← HQ.out, may_badC HCC.out (okC_high (by rw [HND.out]; omega))]), rfl⟩
      by_cases h6 : 6 < kd
      · go_wp2_with fail
        go_ret
        exact ⟨retb (by rw [← HQ.out, may_badC HCC.out (okC_kind (by rw [HKD.out]; omega))]), rfl⟩
      have hoc : Hid (okC n c = true) := Lib.hid (okC_is (by rw [HND.out]; omega) (by rw [HND.out]; omega) (by rw [HKD.out]; omega))
      by_cases h0 : 0 < k
      · have h0z : (0 : Int) < k := by omega
        by_cases hr0 : r < 0
        · go_wp2_with fail
          go_ret
          exact ⟨retb (by rw [← HQ.out, may_badR h0 HRR.out (by simp [okR]; omega)]), rfl⟩
        by_cases hr1 : (n : Int) ≤ r
        · go_wp2_with fail
          go_ret
          exact ⟨retb (by rw [← HQ.out, may_badR h0 HRR.out (by simp [okR]; omega)]), rfl⟩
        have hor : Hid (okR n r = true) := Lib.hid (by simp [okR]; omega)
        go_wp2_with fail
        go_roundg (m2 - (k + 1))
        case measure => omega
        case rel => exact ⟨k + 1, by go_num, by omega, by first | rfl | trivial, rfl, Lib.hid (okUp_succ HK.out HCC.out HRR.out hoc.out fun _ => hor.out)⟩
      · have h0z : ¬ (0 : Int) < k := by omega
        go_wp2_with fail
        go_roundg (m2 - (k + 1))
        case measure => omega
        case rel => exact ⟨k + 1, by go_num, by omega, by first | rfl | trivial, rfl, Lib.hid (okUp_succ HK.out HCC.out HRR.out hoc.out fun h => absurd h h0)⟩
    · obtain rfl : k = m2 := by omega
      go_wp2_with fail
      go_ret
      exact ⟨retb (by rw [← HQ.out, may_true (by rw [HM.out, HM2.out]) (by rw [HM.out]; exact HK.out)]), rfl⟩
end Go.Proofs.Ytnoenccpbbkdeaa
