/- The walk of TabsRise: for every row and every two numbers the law returns true. Conditions: the slice reads as the row; numbers are int64. -/
import Derived.Test.YtpaaicbgehpdiaaTaHead
import Derived.Test.YtpaaicbgehpdiaaTaLawM
namespace Go.Proofs.Ytpaaicbgehpdiaa.Ta
open Go.ChangeShapes Go.WideShapes Go.ChangeAt Go.RowKit
open Ce
open Fo (fitV fitE)

/-- what Pens answers, as a list and an error -/
theorem pens_as {l : List Cl} {x E : Int} {ys : List Int} (h : pens l [] x = (ys, E)) (v : Value) (w : World) (hl : RwCl w v l) (hlen : l.length ≤ 1048576) (hx : W64 x) (ha : ∀ c ∈ l, W64 c.adv) :
    Calls Try.prog 8 #[v, .slice none 0 0, .int .i64 x] w fun e w' => ∃ u, e = .returned (.tuple #[u, .int .i64 E]) ∧ RowI .i64 w' u (if E = 0 then ys else []) ∧ Below w.heap.size w w' := by
  have := pens_any l [] x v (.slice none 0 0) w hl RowI.nil_ hlen hx ha
  rw [h] at this
  refine this.mono ?_
  rintro e w' ⟨⟨u, h1, h2, _⟩, h3⟩
  exact ⟨u, h1, h2, h3⟩
theorem pens_wrong {l : List Cl} (x : Int) (h : l.any wrongC = true) : pens l [] x = ([], 2) := if_pos h
/-- two answers of one row -/
theorem two_pens {l : List Cl} (ha : ∀ c ∈ l, -1099511627776 ≤ c.adv ∧ c.adv ≤ 1099511627776) (hl : l.length ≤ 200) {x y : Int} (hx : -2199023255552 ≤ x ∧ x ≤ 2199023255552) (hy : -2199023255552 ≤ y ∧ y ≤ 2199023255552) :
    ∃ E ys zs N, (E = 0 ∨ E = 2) ∧ pens l [] x = (ys, E) ∧ pens l [] y = (zs, E) ∧ (if E = 0 then ys else []).length = N ∧ (if E = 0 then zs else []).length = N ∧ N ≤ 201 ∧ (E = 0 → N = l.length + 1 ∧ l.any wrongC = false) := by
  cases hw : l.any wrongC with
  | true => exact ⟨2, [], [], 0, .inr rfl, pens_wrong x hw, pens_wrong y hw, rfl, rfl, by omega, fun h => by cases h⟩
  | false =>
    obtain ⟨ys, h1, h2⟩ := pens_small hw ha hx hl
    obtain ⟨zs, h3, h4⟩ := pens_small hw ha hy hl
    exact ⟨0, ys, zs, l.length + 1, .inl rfl, h1, h3, h2, h4, by omega, fun _ => ⟨rfl, rfl⟩⟩

set_option maxRecDepth 100000 in
set_option maxHeartbeats 4000000 in
theorem lawRise_any (l : List Cl) (v : Value) (x y : Int) (w : World) (hR : RwCl w v l) (hx : W64 x) (hy : W64 y) (ha : ∀ c ∈ l, W64 c.adv) :
    Calls Try.prog 6 #[v, .int .i64 x, .int .i64 y] w fun e w' => e = .returned (.bool true) ∧ Below w.heap.size w w' := by
  have HA := Lib.hid ha
  obtain ⟨A, cap, rfl⟩ := hR.form
  obtain ⟨n, hn⟩ : ∃ n, l.length = n := ⟨_, rfl⟩
  have HN := Lib.hid hn
  rw [hn] at hR ⊢
  have HR := Lib.hid hR
  obtain ⟨hx1, hx2⟩ := hx
  obtain ⟨hy1, hy2⟩ := hy
  clear ha hn hR
  go_enter Try.func6, Try.ntmps6
  by_cases hbig : 200 < n
  · have hz : (200 : Int) < n := by omega
    go_wp2_with fail
    refine (head_any _).mono ?_
    rintro e w1 ⟨rfl, b⟩
    go_wp2_with fail
    go_ret
    exact ⟨rfl, b⟩
  have hz : (n : Int) ≤ 200 := by omega
  have hz2 : ¬ (200 : Int) < n := by omega
  have H200 : Hid (n ≤ 200) := Lib.hid (by omega)
  clear hbig
  obtain ⟨p, hp⟩ : ∃ p, min x y = p := ⟨_, rfl⟩
  obtain ⟨q, hq⟩ : ∃ q, max x y = q := ⟨_, rfl⟩
  have HPQ : Hid (p ≤ q) := Lib.hid (by omega)
  by_cases h1 : p < -1099511627776
  · go_wp2_with fail
    refine (head_any _).mono ?_
    rintro e w1 ⟨rfl, b⟩
    go_wp2_with fail
    go_ret
    exact ⟨rfl, b⟩
  by_cases h2 : 1099511627776 < q
  · go_wp2_with fail
    refine (head_any _).mono ?_
    rintro e w1 ⟨rfl, b⟩
    go_wp2_with fail
    go_ret
    exact ⟨rfl, b⟩
  have HP : Hid (-2199023255552 ≤ p ∧ p ≤ 2199023255552) := Lib.hid (by omega)
  have HQ : Hid (-2199023255552 ≤ q ∧ q ≤ 2199023255552) := Lib.hid (by omega)
  go_wp2_with fail
  go_loopg [7] n (fun kx s7 wr => w = wr ∧ ∃ k : Nat, s7 = .int .i64 k ∧ k ≤ n ∧ kx = n - k ∧ Hid (∀ i c, i < k → l[i]? = some c → -1099511627776 ≤ c.adv ∧ c.adv ≤ 1099511627776))
  case atStart => exact ⟨rfl, 0, rfl, by omega, rfl, Lib.hid (fun i c hi => by omega)⟩
  case round =>
    obtain ⟨rfl, k, rfl, hk, rfl, HK⟩ := hrel
    by_cases hlt : k < n
    · have hlz : (k : Int) < n := by omega
      obtain ⟨c, hc⟩ : ∃ c, l[k]? = some c := ⟨_, List.getElem?_eq_getElem (by rw [HN.out]; exact hlt)⟩
      obtain ⟨a, cap2, o, hv, hab, hadr, hL⟩ := HR.out.get (Below.refl _ _) hc
      rw [HN.out] at hv
      injection hv with hv1 hv2 hv3
      subst hv1 hv3
      obtain ⟨ck, cn, cch, d, csf, cem⟩ := c
      have c3 : w.cell? ⟨a.block, o + 3, none⟩ = some (.int .i64 d) := by have := hL 3 _ rfl; rwa [Addr.add_lit] at this
      have HC := Lib.hid hc
      clear hv2 hc hL
      by_cases hd1 : 1099511627776 < d
      · go_wp2_with fail
        refine (head_any _).mono ?_
        rintro e w1 ⟨rfl, b⟩
        go_wp2_with fail
        go_ret
        exact ⟨rfl, b⟩
      by_cases hd2 : d < -1099511627776
      · go_wp2_with fail
        refine (head_any _).mono ?_
        rintro e w1 ⟨rfl, b⟩
        go_wp2_with fail
        go_ret
        exact ⟨rfl, b⟩
      go_wp2_with fail
      go_roundg (n - (k + 1))
      case measure => omega
      case rel => exact ⟨rfl, k + 1, by go_num, by omega, rfl, Lib.hid fun i c' hi hc' => (by
        rcases Nat.lt_or_ge i k with h | h
        · exact HK.out i c' h hc'
        · obtain rfl : i = k := by omega
          have := hc'.symm.trans HC.out
          injection this with this
          subst this
          simp only
          omega)⟩
    · obtain rfl : k = n := by omega
      have hall : ∀ c ∈ l, -1099511627776 ≤ c.adv ∧ c.adv ≤ 1099511627776 := fun c hc => by
        obtain ⟨i, hi⟩ := List.getElem?_of_mem hc
        exact HK.out i c (by rw [← HN.out]; exact (List.getElem?_eq_some_iff.1 hi).1) hi
      obtain ⟨E, ys, zs, N, hE, hys, hzs, hl1, hl2, hN, hE0⟩ := two_pens hall (by rw [HN.out]; exact H200.out) HP.out HQ.out
      have hlen : l.length ≤ 1048576 := by have := HN.out; have := H200.out; omega
      have C1 := Lib.hid (pens_as hys _ w HR.out hlen ⟨by have := HP.out; omega, by have := HP.out; omega⟩ HA.out)
      have C2 : Hid (∀ W, Below w.heap.size w W → _) := Lib.hid (fun W b => pens_as hzs _ W (HR.out.below b) hlen ⟨by have := HQ.out; omega, by have := HQ.out; omega⟩ HA.out)
      have HLE : Hid (∀ (i : Nat) a b, (if E = 0 then ys else [])[i]? = some a → (if E = 0 then zs else [])[i]? = some b → a ≤ b) := Lib.hid fun i a b h1 h2 => by
        by_cases h0 : E = 0
        · subst h0
          rw [if_pos rfl] at h1 h2
          exact f0_le l p q ys zs HPQ.out (pens_is hys).2.2 (pens_is hzs).2.2 i a b h1 h2
        · rw [if_neg h0] at h1
          simp at h1
      obtain ⟨y1, hy1⟩ : ∃ t, (if E = 0 then ys else []) = t := ⟨_, rfl⟩
      obtain ⟨z1, hz1⟩ : ∃ t, (if E = 0 then zs else []) = t := ⟨_, rfl⟩
      rw [hy1] at hl1 C1 HLE
      rw [hz1] at hl2 HLE
      simp only [hz1] at C2
      have HL1 := Lib.hid hl1
      have HL2 := Lib.hid hl2
      have HE := Lib.hid hE
      clear hall hys hzs hl1 hl2 hE0 hlen hy1 hz1 HK hE HA HR
      go_wp2_with fail
      refine C1.out.mono ?_
      rintro e w1 ⟨u1, rfl, S1, b1⟩
      have hf1 := S1.form
      rw [HL1.out] at hf1
      obtain ⟨A1, c1, rfl⟩ := hf1
      have HS1 := Lib.hid S1
      have HB1 := Lib.hid b1
      clear S1 b1 C1
      go_wp2_with fail
      refine (C2.out w1 HB1.out).mono ?_
      rintro e w2 ⟨u2, rfl, S2, b2⟩
      have hf2 := S2.form
      rw [HL2.out] at hf2
      obtain ⟨A2, c2, rfl⟩ := hf2
      have HS1 := Lib.hid (HS1.out.below b2)
      have HB2 := Lib.hid (below_seq HB1.out b2)
      have HS2 := Lib.hid S2
      clear S2 b2 C2 HB1
      have hEE : (E != E) = false := by simp
      go_wp2_with fail
      go_loopg [12] N (fun kx s12 wr => ∃ k : Nat, s12 = .int .i64 k ∧ k ≤ N ∧ kx = N - k ∧ Below w2.heap.size w2 wr)
      case atStart => exact ⟨0, rfl, by omega, rfl, Below.refl _ _⟩
      case round =>
        obtain ⟨j, rfl, hj, rfl, bel⟩ := hrel
        by_cases hlt2 : j < N
        · have hlz : (j : Int) < N := by omega
          obtain ⟨a, ha⟩ : ∃ a, y1[j]? = some a := ⟨_, List.getElem?_eq_getElem (by rw [HL1.out]; exact hlt2)⟩
          obtain ⟨b, hb⟩ : ∃ a, z1[j]? = some a := ⟨_, List.getElem?_eq_getElem (by rw [HL2.out]; exact hlt2)⟩
          have hab := HLE.out j a b ha hb
          obtain ⟨a1, cap1, hv, hc1⟩ := (HS1.out.below bel).get ha
          rw [HL1.out] at hv
          injection hv with hv1 hv2 hv3
          subst hv1 hv3
          obtain ⟨a2, cap2, hv, hc2⟩ := (HS2.out.below bel).get hb
          rw [HL2.out] at hv
          injection hv with hv1 hv4 hv3
          subst hv1 hv3
          have hnb : ¬ b < a := by omega
          clear hv2 hv4 ha hb
          go_wp2_with fail
          go_quiet (fail)
          go_wp2_with fail
          go_roundg (N - (j + 1))
          case measure => omega
          case rel => exact ⟨j + 1, by go_num, by omega, rfl, below_drewN bel _⟩
        · obtain rfl : j = N := by omega
          rcases HE.out with rfl | rfl
          all_goals
            go_wp2_with fail
            refine (head_any _).mono ?_
            rintro e w3 ⟨rfl, b3⟩
            go_wp2_with fail
            go_ret
            exact ⟨rfl, below_seq HB2.out (below_seq bel b3)⟩
end Go.Proofs.Ytpaaicbgehpdiaa.Ta
