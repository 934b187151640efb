/- Contract of the reference's Chances. Conditions: the slices read as the lists, at most 100000 characters. -/
import Derived.Test.YtnoenccpbbkdeaaCh11
namespace Go.Proofs.Ytnoenccpbbkdeaa
open Go.ChangeShapes Go.WideShapes Go.ChangeAt Go.RowKit Go.Shelf
open Wh (Cr)
open Ch

set_option maxRecDepth 100000 in
set_option maxHeartbeats 4000000 in
theorem rchances_no (ss : List Sty) (l : List Cr) (rs : List Int) (v vs vr : Value) (w : World) (hR : RwC w v l) (hS : Ss w vs ss) (hI : RI w vr rs) (hlen : l.length ≤ 100000) (hm : mayC l ss.length rs = false) :
    Calls Try.prog 11 #[v, vs, vr] w fun e w' => e = .returned (.tuple #[.slice none 0 0, .int .i64 2]) ∧ Below w.heap.size w w' := by
  obtain ⟨A2, cap2, rfl⟩ := hS.form
  have C := Lib.hid (rmay_any l ss.length rs v vr A2 cap2 w hR hI (by omega))
  rw [hm] at C
  clear hR hS hI hm
  go_enter Try.func11, Try.ntmps11
  go_wp2_with fail
  refine C.out.mono ?_
  rintro e w1 ⟨rfl, rfl⟩
  go_wp2_with fail
  go_ret2
  exact ⟨rfl, Below.refl _ _⟩

set_option maxRecDepth 100000 in
set_option maxHeartbeats 8000000 in
theorem rchances_ok (ss : List Sty) (l : List Cr) (rs : List Int) (v vs vr : Value) (w : World) (hR : RwC w v l) (hS : Ss w vs ss) (hI : RI w vr rs) (hlen : l.length ≤ 100000) (hm : mayC l ss.length rs = true) :
    Calls Try.prog 11 #[v, vs, vr] w fun e w' => ∃ u, e = .returned (.tuple #[u, .int .i64 0]) ∧ R8 w' u (chn ss z0 l rs) ∧ Below w.heap.size w w' := by
  obtain ⟨hml, _, _⟩ := mayC_is hm
  have HC : Hid (∀ (i : Nat) (ca cb : Cr) (r : Int) (W : World), Below w.heap.size w W → l[i]? = some ca → l[i + 1]? = some cb → rs[i + 1]? = some r →
      Calls Try.prog 25 #[v, vs, vr, .int .i64 ((i + 1 : Nat) : Int)] W fun e w' => e = .returned (.int .u8 (Ch.oneC ca cb (stl ss r) (stl ss ca.node) (bkF ss l (i + 1)))) ∧ Below W.heap.size W w') :=
    Lib.hid fun i ca cb r W b ha hb hr => rone_any ss l rs v vs vr i W (hR.below b) (hS.below b) (hI.below b) hlen hm ha hb hr
  obtain ⟨A, cap, rfl⟩ := hR.form
  obtain ⟨A2, cap2, rfl⟩ := hS.form
  obtain ⟨A3, cap3, rfl⟩ := hI.form
  have C := Lib.hid (rmay_any l ss.length rs _ _ A2 cap2 w hR hI (by omega))
  rw [hm] at C
  have HLN : Hid ((chn ss z0 l rs).length = l.length) := Lib.hid (chn_len ss l rs z0 hml)
  have HML := Lib.hid hml
  obtain ⟨m, hm1⟩ : ∃ m, l.length = m := ⟨_, rfl⟩
  have HM := Lib.hid hm1
  rw [hm1] at C HC HLN hlen ⊢
  clear hR hS hI hm hml hm1
  go_enter Try.func11, Try.ntmps11
  go_wp2_with fail
  refine C.out.mono ?_
  rintro e w1 ⟨rfl, rfl⟩
  go_wp2_with fail
  have hO0 : own8 w1.heap.size w1 (.slice none 0 0) ((chn ss z0 l rs).take 0) := ⟨rfl, .inl ⟨rfl, rfl⟩⟩
  go_loopg [8, 9] m (fun kx s8 s9 wr => ∃ (k : Nat) (v8 : Value), v8 = s8 ∧ s9 = .int .i64 k ∧ k ≤ m ∧ kx = m - k ∧ Below w1.heap.size w1 wr ∧ own8 w1.heap.size wr v8 ((chn ss z0 l rs).take k))
  case atStart => exact ⟨0, _, rfl, rfl, Nat.zero_le _, by first | rfl | omega, Below.refl _ _, hO0⟩
  case round =>
    clear hO0 C
    obtain ⟨k, v8, rfl, rfl, hk, rfl, bel, hO⟩ := hrel
    by_cases hkm : k < m
    · obtain ⟨c, hc⟩ := at_ (l := l) (k := k) (by rw [HM.out]; exact hkm)
      obtain ⟨r, hr⟩ := at_ (l := rs) (k := k) (by rw [← HML.out, HM.out]; exact hkm)
      obtain ⟨x, hx⟩ := at_ (l := chn ss z0 l rs) (k := k) (by rw [HLN.out]; exact hkm)
      have hsu : (chn ss z0 l rs).take (k + 1) = (chn ss z0 l rs).take k ++ [x] := by rw [List.take_add_one, hx]; rfl
      have hll : ((chn ss z0 l rs).take k).length = k := by rw [List.length_take, HLN.out]; omega
      have HSU := Lib.hid hsu
      obtain ⟨LL, hLL⟩ : ∃ L, (chn ss z0 l rs).take k = L := ⟨_, rfl⟩
      rw [hLL] at hO hll HSU
      have hkz : (k : Int) < m := by omega
      have hbs := bel.size
      by_cases h0 : k = 0
      · subst h0
        obtain rfl : x = 0 := by
          have e := chn_zero (ss := ss) hc hr
          rw [hx] at e
          exact Option.some.inj e
        have hO' : wr.ownsRow w1.heap.size 5 1 v8 0 (r8 LL) := by have := hO; unfold own8 at this; rwa [hll] at this
        clear hc hr hx hsu hLL hO
        go_wp2_with (first
          | (refine apN8 (o1 := ⟨some 24, _, _, _, _, _⟩) rfl (.const (.int .u8 0)) rfl 24 rfl rfl (.tmp 23) rfl 0 rfl _ (fun _ => rfl) (fun _ => rfl) w1.heap.size 0 _ hO' (by omega) hbs ?_; intro u5 v5 w5 O5 b5 m5 n5; refine Mk.out ?_))
        constructor
        have O6 : own8 w1.heap.size w5 v5 ((chn ss z0 l rs).take (0 + 1)) := by
          rw [HSU.out]
          unfold own8
          rw [List.length_append, hll]
          unfold r8 at O5 ⊢
          rw [List.map_append]
          exact O5
        have bel5 := bel.trans b5
        clear O5 m5 n5 b5
        go_wp2_with fail
        go_roundg (m - (0 + 1))
        case measure => omega
        case rel => exact ⟨0 + 1, v5, rfl, by go_num, by omega, by first | rfl | trivial, bel5, O6⟩
      · obtain ⟨k0, hk0⟩ : ∃ k0, k = k0 + 1 := ⟨k - 1, by omega⟩
        obtain ⟨a, ha⟩ := at_ (l := l) (k := k0) (by rw [HM.out]; omega)
        have e := chn_at (ss := ss) ha (by rw [← hk0]; exact hc) (by rw [← hk0]; exact hr)
        have e2 := bkF_at (ss := ss) hc
        have C1 := HC.out k0 a c r wr bel ha (by rw [← hk0]; exact hc) (by rw [← hk0]; exact hr)
        rw [← hk0] at e C1
        rw [hx] at e
        rw [e2, ← Option.some.inj e] at C1
        have HC1 := Lib.hid C1
        have HO := Lib.hid hO
        have n_k : ((k : Int) == 0) = false := by simp; omega
        have HK0 : Hid (0 < k) := Lib.hid (by omega)
        clear hc hr hx hsu hLL ha e e2 C1 hO hk0 h0
        go_wp2_with fail
        refine HC1.out.mono ?_
        rintro e w4 ⟨rfl, b4⟩
        have hO4 := HO.out.below b4
        have hO' : w4.ownsRow w1.heap.size 5 1 v8 k (r8 LL) := by have := hO4; unfold own8 at this; rwa [hll] at this
        have bel4 := bel.trans (b4.mono hbs)
        have hbs4 := bel4.size
        clear hO4 HO HC1 b4
        go_wp2_with (first
          | (refine apN8 (o1 := ⟨some 32, _, _, _, _, _⟩) rfl (.tmp 31) rfl 32 rfl rfl (.tmp 26) rfl x rfl _ (fun _ => rfl) (fun _ => rfl) w1.heap.size k _ hO' (by omega) hbs4 ?_; intro u5 v5 w5 O5 b5 m5 n5; refine Mk.out ?_))
        constructor
        have O6 : own8 w1.heap.size w5 v5 ((chn ss z0 l rs).take (k + 1)) := by
          rw [HSU.out]
          unfold own8
          rw [List.length_append, hll]
          unfold r8 at O5 ⊢
          rw [List.map_append]
          exact O5
        have bel5 := bel4.trans b5
        clear O5 m5 n5 b5
        go_wp2_with fail
        go_roundg (m - (k + 1))
        case measure => omega
        case rel => exact ⟨k + 1, v5, rfl, by go_num, by omega, by first | rfl | trivial, bel5, O6⟩
    · obtain rfl : k = m := by omega
      have hrow := hO.row
      rw [List.take_of_length_le (by rw [HLN.out]; omega)] at hrow
      have HRW := Lib.hid hrow
      clear hrow hO
      go_wp2_with fail
      go_ret2
      exact ⟨_, rfl, HRW.out, bel⟩
end Go.Proofs.Ytnoenccpbbkdeaa
