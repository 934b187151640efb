/- Contracts of tabs.wrong, skipped, Step, and of slices' IndexFunc, ContainsFunc at wrong. Conditions: the rows lie where the slices say, at most 1048576 cells; numbers are int64. -/
import Derived.Test.YtddihpiheopleaaTaMath
import Derived.Test.YtddihpiheopleaaRwI
import Derived.Test.YtddihpiheopleaaMk
import Derived.Test.YtddihpiheopleaaUnitF
namespace Go.Proofs.Ytddihpiheopleaa.Ta
open Go.ChangeShapes Go.WideShapes Go.ChangeAt Go.RowKit
open Ce
open Fo (fitV fitE)

def W64 (z : Int) : Prop := -9223372036854775808 ≤ z ∧ z ≤ 9223372036854775807

set_option maxRecDepth 100000 in
set_option maxHeartbeats 1000000 in
theorem wrong_any (c : Cl) (w : World) : Calls Try.prog 36 #[.agg (clA c)] w fun e w' => e = .returned (.bool (wrongC c)) ∧ Below w.heap.size w w' := by
  obtain ⟨k, n, ch, d, sf, em⟩ := c
  go_enter Try.func36, Try.ntmps36
  go_wp2_with (refine bxClV rfl (.tmp 0) rfl ⟨k, n, ch, d, sf, em⟩ rfl ?_; intro w1 b1 B1; refine Mk.out ?_)
  constructor
  have c0 : w1.cell? ⟨w.heap.size, 0, none⟩ = some (.int .u8 k) := B1.cell 0
  have c3 : w1.cell? ⟨w.heap.size, 3, none⟩ = some (.int .i64 d) := B1.cell 3
  clear B1
  by_cases hk : k = 4 <;> by_cases hd : d < 0
  all_goals
    go_wp2_with fail
    go_ret
    exact ⟨retb (by simp [wrongC, hk, hd]), b1⟩

set_option maxHeartbeats 1000000 in
theorem skipped_any (rs : List Int) (v : Value) (i : Nat) (w : World) (hR : RowI .u8 w v rs) (_ : i ≤ 1048576) :
    Calls Try.prog 38 #[v, .int .i64 (i : Int)] w fun e w' => e = .returned (.bool (gone rs i)) ∧ w = w' := by
  obtain ⟨A, cap, rfl⟩ := hR.form
  obtain ⟨g, hg⟩ : ∃ g, gone rs i = g := ⟨_, rfl⟩
  have HG := Lib.hid hg
  by_cases h : i < rs.length
  · obtain ⟨r, hr⟩ : ∃ r, rs[i]? = some r := ⟨_, List.getElem?_eq_getElem h⟩
    obtain ⟨a, cap2, hv, hc⟩ := hR.get hr
    injection hv with h1 h2 h3
    subst h1 h3
    have HG2 : Hid (g = decide (r = 1)) := Lib.hid (by rw [← hg]; unfold gone; rw [hr])
    rw [hg]
    obtain ⟨n, hn⟩ : ∃ n, rs.length = n := ⟨_, rfl⟩
    rw [hn] at h ⊢
    have hz : (i : Int) < n := by omega
    clear hR hr hg HG h2 hn
    by_cases h1 : r = 1
    · go_enter Try.func38, Try.ntmps38
      go_wp2_with fail
      go_ret
      exact ⟨retb (by rw [HG2.out]; simp [h1]), rfl⟩
    · go_enter Try.func38, Try.ntmps38
      go_wp2_with fail
      go_ret
      exact ⟨retb (by rw [HG2.out]; simp [h1]), rfl⟩
  · have HG2 : Hid (g = false) := Lib.hid (by rw [← hg]; unfold gone; rw [List.getElem?_eq_none (by omega)])
    rw [hg]
    obtain ⟨n, hn⟩ : ∃ n, rs.length = n := ⟨_, rfl⟩
    rw [hn] at h ⊢
    have hz : ¬ (i : Int) < n := by omega
    clear hR hg HG hn
    go_enter Try.func38, Try.ntmps38
    go_wp2_with fail
    go_ret
    exact ⟨retb (by rw [HG2.out]), rfl⟩

set_option maxRecDepth 100000 in
set_option maxHeartbeats 1000000 in
theorem step_any (c : Cl) (x : Int) (w : World) (hx : W64 x) (hc : W64 c.adv) :
    Calls Try.prog 39 #[.agg (clA c), .int .i64 x] w fun e w' => e = .returned (.tuple #[.int .i64 (stepV c x).1, .int .i64 (stepV c x).2]) ∧ Below w.heap.size w w' := by
  have C := Lib.hid (wrong_any c)
  obtain ⟨b, hb⟩ : ∃ b, wrongC c = b := ⟨_, rfl⟩
  obtain ⟨v, e, hv⟩ : ∃ v e, stepV c x = (v, e) := ⟨_, _, rfl⟩
  have HV := Lib.hid hv
  have HB := Lib.hid hb
  rw [hv]
  rw [hb] at C
  clear hv hb
  obtain ⟨k, n, ch, d, sf, em⟩ := c
  obtain ⟨hx1, hx2⟩ := hx
  obtain ⟨hc1, hc2⟩ := hc
  simp only at hc1 hc2
  go_enter Try.func39, Try.ntmps39
  go_wp2_with (refine bxClV rfl (.tmp 0) rfl ⟨k, n, ch, d, sf, em⟩ rfl ?_; intro w1 b1 B1; refine Mk.out ?_)
  constructor
  have L1 := B1.lies
  go_wp2_with (refine ldCl (o := ⟨some 8, _, _, _, _, _⟩) rfl (.tmp 2) rfl _ rfl ⟨k, n, ch, d, sf, em⟩ L1 ?_)
  refine (C.out _).mono ?_
  rintro e2 w2 ⟨rfl, b2⟩
  have B2 := B1.keep (S := fun _ => False) (Mod.of_below b2) id
  have c0 : w2.cell? ⟨w.heap.size, 0, none⟩ = some (.int .u8 k) := B2.cell 0
  have c3 : w2.cell? ⟨w.heap.size, 3, none⟩ = some (.int .i64 d) := B2.cell 3
  have hw := B2.lt
  have bel := below_seq b1 b2
  clear L1 B1 B2 C b1 b2
  cases b with
  | true =>
    obtain ⟨rfl, rfl⟩ : v = 0 ∧ e = 2 := by
      have := HV.out
      unfold stepV at this
      rw [if_pos HB.out] at this
      injection this with h1 h2
      exact ⟨h1.symm, h2.symm⟩
    go_wp2_with fail
    go_ret2
    exact ⟨rfl, bel⟩
  | false =>
    have hs : stepV ⟨k, n, ch, d, sf, em⟩ x = if k = 4 then (if fitE x = 0 ∧ d ≠ 0 then (fitV (x + d - x % d), fitE (x + d - x % d)) else (fitV x, fitE x)) else (fitV (x + d), fitE (x + d)) := by
      unfold stepV
      rw [if_neg (by rw [HB.out]; decide)]
    have hd : k = 4 → 0 ≤ d := fun hk => by
      have := HB.out
      simp [wrongC, hk] at this
      exact this
    have HS := Lib.hid (hs.symm.trans HV.out)
    clear hs HV HB
    by_cases hk : k = 4
    · subst hk
      have hd := hd rfl
      rw [if_pos rfl] at HS
      rcases fit_cases x with ⟨f1, f2, f3, f4⟩ | ⟨f1, f2, f3⟩
      · by_cases h0 : d = 0
        · subst h0
          obtain ⟨rfl, rfl⟩ : x = v ∧ e = 0 := by
            have := HS.out
            rw [if_neg (by simp), f1, f2] at this
            injection this with h1 h2
            exact ⟨h1, h2.symm⟩
          have F1 := Lib.hid f1
          have F2 := Lib.hid f2
          clear HS f1 f2
          go_wp2_with fail
          refine (Fo.sum1 x _ _ _ (by simp) (by omega)).mono ?_
          rintro e3 w3 ⟨rfl, rfl⟩
          rw [F1.out, F2.out]
          go_wp2_with fail
          go_ret2
          exact ⟨rfl, below_seq bel (below_alloc _ _)⟩
        · have F1 := Lib.hid f1
          have F2 := Lib.hid f2
          rw [if_pos ⟨f1, h0⟩] at HS
          clear f1 f2
          go_wp2_with fail
          refine (Fo.sum1 x _ _ _ (by simp) (by omega)).mono ?_
          rintro e3 w3 ⟨rfl, rfl⟩
          rw [F1.out, F2.out]
          have h1 : ¬ d = 0 := h0
          go_wp2_with fail
          refine (Fo.stop_any x d _ (by omega) (by omega)).mono ?_
          rintro e4 w4 ⟨rfl, b4⟩
          have HS2 := HS.out
          injection HS2 with h2 h3
          rw [h2, h3]
          go_wp2_with fail
          go_ret2
          exact ⟨rfl, below_seq (below_seq bel (below_alloc _ _)) b4.1⟩
      · obtain ⟨rfl, rfl⟩ : v = 0 ∧ e = 10 := by
          have := HS.out
          rw [if_neg (by rw [f1]; simp), f1, f2] at this
          injection this with h1 h2
          exact ⟨h1.symm, h2.symm⟩
        have F1 := Lib.hid f1
        have F2 := Lib.hid f2
        clear HS f1 f2 f3
        go_wp2_with fail
        refine (Fo.sum1 x _ _ _ (by simp) (by omega)).mono ?_
        rintro e3 w3 ⟨rfl, rfl⟩
        rw [F1.out, F2.out]
        go_wp2_with fail
        go_ret2
        exact ⟨rfl, below_seq bel (below_alloc _ _)⟩
    · rw [if_neg hk] at HS
      go_wp2_with fail
      refine (Fo.sum2 x d _ _ _ (by simp) (by omega) (by omega)).mono ?_
      rintro e3 w3 ⟨rfl, rfl⟩
      have HS2 := HS.out
      injection HS2 with h2 h3
      rw [h2, h3]
      go_wp2_with fail
      go_ret2
      exact ⟨rfl, below_seq bel (below_alloc _ _)⟩

/-- what IndexFunc says: the first cell that is wrong, or -1 -/
def IdxOf (l : List Cl) (z : Int) : Prop := (z = -1 ∧ l.any wrongC = false) ∨ (0 ≤ z ∧ l.any wrongC = true)
set_option maxRecDepth 100000 in
set_option maxHeartbeats 2000000 in
theorem idx_any (l : List Cl) (v : Value) (w : World) (hR : RwCl w v l) (hn : l.length ≤ 1048576) :
    Calls Try.prog 42 #[v, .func (.func 36) #[] #[]] w fun e w' => ∃ z, e = .returned (.int .i64 z) ∧ IdxOf l z ∧ Below w.heap.size w w' := by
  have HR := Lib.hid hR
  obtain ⟨A, cap, rfl⟩ := hR.form
  obtain ⟨n, hl⟩ : ∃ n, l.length = n := ⟨_, rfl⟩
  have HL := Lib.hid hl
  rw [hl] at hn HR ⊢
  clear hR hl
  go_enter Try.func42, Try.ntmps42
  go_wp2_with fail
  go_loopg [8] n (fun kx s8 wr => ∃ k : Nat, s8 = .int .i64 k ∧ k ≤ n ∧ kx = n - k ∧ Below w.heap.size w wr ∧ Hid (∀ i c, i < k → l[i]? = some c → wrongC c = false))
  case atStart => exact ⟨0, rfl, by omega, rfl, Below.refl _ _, Lib.hid (fun i c hi => by omega)⟩
  case round =>
    obtain ⟨k, rfl, hk, rfl, bel, HK⟩ := hrel
    by_cases hlt : k < n
    · obtain ⟨c, hc⟩ : ∃ c, l[k]? = some c := ⟨_, List.getElem?_eq_getElem (by rw [HL.out]; exact hlt)⟩
      have hz : (k : Int) < n := by omega
      have C := Lib.hid (fun w => wrong_any c w)
      obtain ⟨a, cap2, o, hv, hab, ha, hL⟩ := HR.out.get bel hc
      rw [HL.out] at hv
      injection hv with hv1 hv2 hv3
      subst hv1 hv3
      have HC := Lib.hid hc
      clear hv2 hc
      obtain ⟨b, hb⟩ : ∃ b, wrongC c = b := ⟨_, rfl⟩
      have HBD := Lib.hid hb
      rw [hb] at C
      clear hb
      cases b with
      | false =>
        go_wp2_with (refine ldCl rfl (.tmp 14) rfl _ rfl c hL ?_)
        refine (C.out _).mono ?_
        rintro e w2 ⟨rfl, b2⟩
        go_wp2_with fail
        go_roundg (n - (k + 1))
        case measure => omega
        case rel => exact ⟨k + 1, by go_num, by omega, rfl, bel.trans (b2.mono bel.size), Lib.hid fun i c' hi hc' => (by
            rcases Nat.lt_or_ge i k with h | h
            · exact HK.out i c' h hc'
            · obtain rfl : i = k := by omega
              have := hc'.symm.trans HC.out
              injection this with this
              rw [this]; exact HBD.out)⟩
      | true =>
        go_wp2_with (refine ldCl rfl (.tmp 14) rfl _ rfl c hL ?_)
        refine (C.out _).mono ?_
        rintro e w2 ⟨rfl, b2⟩
        go_wp2_with fail
        go_ret
        exact ⟨k, rfl, .inr ⟨by omega, List.any_eq_true.2 ⟨c, List.mem_of_getElem? HC.out, HBD.out⟩⟩, bel.trans (b2.mono bel.size)⟩
    · obtain rfl : k = n := by omega
      go_wp2_with fail
      go_ret
      refine ⟨-1, rfl, .inl ⟨rfl, List.any_eq_false.2 fun c hc => ?_⟩, bel⟩
      obtain ⟨i, hi⟩ := List.getElem?_of_mem hc
      have hil := (List.getElem?_eq_some_iff.1 hi).1
      rw [HK.out i c (by rw [← HL.out]; exact hil) hi]
      decide

theorem cont_any (l : List Cl) (v : Value) (w : World) (hR : RwCl w v l) (hn : l.length ≤ 1048576) :
    Calls Try.prog 35 #[v, .func (.func 36) #[] #[]] w fun e w' => e = .returned (.bool (l.any wrongC)) ∧ Below w.heap.size w w' := by
  have C := Lib.hid (idx_any l v w hR hn)
  obtain ⟨b, hb⟩ : ∃ b, l.any wrongC = b := ⟨_, rfl⟩
  unfold IdxOf at C
  rw [hb] at C ⊢
  clear hR hn hb
  go_enter Try.func35, Try.ntmps35
  go_wp2_with fail
  refine C.out.mono ?_
  rintro e w2 ⟨z, rfl, hi, b2⟩
  rcases hi with ⟨rfl, rfl⟩ | ⟨hz, rfl⟩
  · go_wp2_with fail
    go_ret
    exact ⟨rfl, b2⟩
  · go_wp2_with fail
    go_ret
    exact ⟨rfl, b2⟩
end Go.Proofs.Ytddihpiheopleaa.Ta
