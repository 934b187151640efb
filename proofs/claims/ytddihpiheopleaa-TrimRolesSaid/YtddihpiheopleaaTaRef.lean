/- Contracts of the document's answers for tabs (package stickfulref12): fits, Step, Pens, End: what the program's own give; appends to rows of numbers. Conditions: as those of the program's. -/
import Derived.Test.YtddihpiheopleaaClA
import Derived.Test.YtddihpiheopleaaTa1
import Derived.Test.YtddihpiheopleaaRefA
namespace Go.Proofs.Ytddihpiheopleaa.Ce
open Go.ChangeShapes Go.WideShapes Go.ChangeAt Go.RowKit

section
variable {ops : Array Oper} {Q : Exit → Act → World → Prop} {a : Act} {W : World} {rest : List Oper} {o1 o2 : Oper}
theorem elhL : Elh Try.prog 54 2 1 8 := ⟨Try.underlying54, ⟨.int .i64 0, by kernel_rfl, rfl⟩, by decide, by decide⟩
/-- a row of numbers of the call's own -/
def OwL (base : Nat) (w : World) (v : Value) (l : List Int) : Prop := w.ownsRow base 2 1 v l.length (l.map (Value.int .i64))
theorem OwL.row {base : Nat} {w : World} {v : Value} {l : List Int} (h : OwL base w v l) : RowI .i64 w v l := RowI.of_own h
theorem OwL.nil_ (base : Nat) (w : World) : OwL base w (.slice none 0 0) [] := own_nil w base 1 2
theorem OwL.below {base : Nat} {w w' : World} {v : Value} {l : List Int} (h : OwL base w v l) (b : Below w.heap.size w w') : OwL base w' v l := own_below h b
theorem apL (hg1 : o1.guard = none) (x : Operand) (ho1 : o1.op = .buildSlice 54 1 #[(0, x)]) (D : Tmp) (hd1 : o1.dst = some D)
    (hg2 : o2.guard = none) (sl : Operand) (ho2 : o2.op = .call { callee := .builtin .append, args := #[sl, .tmp D], argTypes := #[54, 54] }) (s : Int) (hx : a.eval x = .int .i64 s)
    (v : Value) (hs : ∀ u, (a.put (some D) u).eval sl = v) (hD : ∀ u, (a.put (some D) u).eval (.tmp D) = u) (base : Nat) (l : List Int) (hO : OwL base W v l) (hn : l.length < 4194304) (hb : base ≤ W.heap.size)
    (h : ∀ u A8 n8 c8 w', OwL base w' (.slice A8 n8 c8) (l ++ [s]) → Below base W w' → Mod (fun k => v.ownBlock = some k) W w' → (∀ k, (Value.slice A8 n8 c8).ownBlock = some k → v.ownBlock = some k ∨ W.heap.size ≤ k) → wpList Try.prog ops Q rest ((a.put (some D) u).put o2.dst (.slice A8 n8 c8)) w') : wpList Try.prog ops Q (o1 :: o2 :: rest) a W :=
  apH elhL hg1 x ho1 D hd1 hg2 sl ho2 (.int .i64 s) #[.int .i64 s] hx rfl (by simp [Value.oneCell']) (fun w => by kernel_rfl) v hs hD base l.length (l.map (Value.int .i64)) hO hn hb fun u v' w' o1 b1 m1 k1 => by
    obtain ⟨g8, c8, rfl⟩ := ownsRow_succ o1
    refine h u _ _ _ w' ?_ b1 m1 k1
    show w'.ownsRow _ _ _ _ (l ++ [s]).length _
    rw [List.map_append, List.length_append]
    exact o1
theorem OwL.lit1 {base g : Nat} {w : World} {x : Int} (hB : Blk w g 2 #[.int .i64 x]) (hb : base ≤ g) : OwL base w (.slice (some ⟨g, 0, none⟩) 1 1) [x] :=
  ⟨rfl, .inr ⟨g, 1, _, rfl, hb, hB, Nat.le_refl _, by unfold maxLen; omega, rfl, rfl⟩⟩
end
end Go.Proofs.Ytddihpiheopleaa.Ce
namespace Go.Proofs.Ytddihpiheopleaa.Ta
open Go.ChangeShapes Go.WideShapes Go.ChangeAt Go.RowKit
open Ce
open Fo (fitV fitE)

theorem rfits_any (x : Int) (w : World) (hx : W64 x) : Calls Try.prog 40 #[.int .i64 x] w fun e w' => e = .returned (.bool (decide (fitE x = 0))) ∧ w = w' := by
  obtain ⟨hx1, hx2⟩ := hx
  obtain ⟨z, hz⟩ : ∃ z, decide (fitE x = 0) = z := ⟨_, rfl⟩
  rw [hz]
  rcases fit_cases x with ⟨f1, f2, f3, f4⟩ | ⟨f1, f2, f3⟩
  · obtain rfl : true = z := by rw [← hz, f1]; rfl
    clear f1 f2 hz
    go_enter Try.func40, Try.ntmps40
    go_wp2_with fail
    go_ret
    exact ⟨rfl, rfl⟩
  · obtain rfl : false = z := by rw [← hz, f1]; rfl
    clear f1 f2 hz
    by_cases h : x < -4611686018427387904
    · go_enter Try.func40, Try.ntmps40
      go_wp2_with fail
      go_ret
      exact ⟨rfl, rfl⟩
    · have h2 : ¬ x ≤ 4611686018427387904 := by omega
      have h3 : -4611686018427387904 ≤ x := by omega
      clear f3 h
      go_enter Try.func40, Try.ntmps40
      go_wp2_with fail
      go_ret
      exact ⟨rfl, rfl⟩
theorem rsum2 (x y : Int) (t : TypeId) (g : Nat) (w0 : World) (hg : g = w0.heap.size) (hx : W64 x) (hy : W64 y) :
    Calls Try.prog 46 #[.slice (some ⟨g, 0, none⟩) 2 2] (w0.alloc (.cells #[.int .i64 x, .int .i64 y] t)) fun e w' => e = .returned (.tuple #[.int .i64 (fitV (x + y)), .int .i64 (fitE (x + y))]) ∧ (w0.alloc (.cells #[.int .i64 x, .int .i64 y] t)) = w' := by
  subst hg
  unfold W64 at hx hy
  have h := Fo.rsum_any ⟨w0.heap.size, 0, none⟩ [x, y] 2 (w0.alloc (.cells #[.int .i64 x, .int .i64 y] t)) (by simp) (fun j hj => by
    have : j = 0 ∨ j = 1 := by simp at hj; omega
    rw [add_plain, World.cell?_alloc_new]
    rcases this with rfl | rfl <;> simp) (by simp; omega)
  simpa using h

set_option maxRecDepth 100000 in
set_option maxHeartbeats 1000000 in
theorem rstep_any (c : Cl) (x : Int) (w : World) (hx : W64 x) (hc : W64 c.adv) :
    Calls Try.prog 41 #[.agg (clA c), .int .i64 x] w fun e w' => e = .returned (.tuple #[.int .i64 (stepV c x).1, .int .i64 (stepV c x).2]) ∧ Below w.heap.size w w' := by
  obtain ⟨v, e, hv⟩ : ∃ v e, stepV c x = (v, e) := ⟨_, _, rfl⟩
  have HV := Lib.hid hv
  have CF := Lib.hid (fun W => rfits_any x W hx)
  rw [hv]
  clear hv
  obtain ⟨k, n, ch, d, sf, em⟩ := c
  obtain ⟨hx1, hx2⟩ := hx
  obtain ⟨hc1, hc2⟩ := hc
  simp only at hc1 hc2
  go_enter Try.func41, Try.ntmps41
  go_wp2_with (refine bxClV rfl (.tmp 0) rfl ⟨k, n, ch, d, sf, em⟩ rfl ?_; intro w1 b1 B1; refine Mk.out ?_)
  constructor
  have c0 : w1.cell? ⟨w.heap.size, 0, none⟩ = some (.int .u8 k) := B1.cell 0
  have c3 : w1.cell? ⟨w.heap.size, 3, none⟩ = some (.int .i64 d) := B1.cell 3
  have hw := B1.lt
  clear B1
  by_cases hk : k = 4
  · subst hk
    by_cases hd : d < 0
    · obtain ⟨rfl, rfl⟩ : v = 0 ∧ e = 2 := by
        have := HV.out
        unfold stepV at this
        rw [if_pos (by simp [wrongC, hd])] at this
        injection this with h1 h2
        exact ⟨h1.symm, h2.symm⟩
      go_wp2_with fail
      go_ret2
      exact ⟨rfl, b1⟩
    · have HS : Hid ((if fitE x = 0 ∧ d ≠ 0 then (fitV (x + d - x % d), fitE (x + d - x % d)) else (fitV x, fitE x)) = (v, e)) := Lib.hid (by
        have := HV.out
        unfold stepV at this
        rw [if_neg (by simp [wrongC, hd]), if_pos rfl] at this
        exact this)
      clear HV
      rcases fit_cases x with ⟨f1, f2, f3, f4⟩ | ⟨f1, f2, f3⟩
      · rw [f1] at CF
        by_cases h0 : d = 0
        · subst h0
          obtain ⟨rfl, rfl⟩ : x = v ∧ e = 0 := by
            have := HS.out
            rw [if_neg (by simp), f1, f2] at this
            injection this with h1 h2
            exact ⟨h1, h2.symm⟩
          clear HS f1 f2 f3 f4
          go_wp2_with fail
          refine (CF.out _).mono ?_
          rintro e3 w3 ⟨rfl, rfl⟩
          go_wp2_with fail
          go_ret2
          exact ⟨rfl, b1⟩
        · have HS2 := HS.out
          rw [if_pos ⟨f1, h0⟩] at HS2
          have HS3 := Lib.hid HS2
          clear HS HS2 f1 f2
          go_wp2_with fail
          refine (CF.out _).mono ?_
          rintro e3 w3 ⟨rfl, rfl⟩
          have h1 : ¬ d = 0 := h0
          go_wp2_with fail
          refine (Fo.rstop_any x d _ (by omega) (by omega)).mono ?_
          rintro e4 w4 ⟨rfl, b4⟩
          have HS2 := HS3.out
          injection HS2 with h2 h3
          rw [h2, h3]
          clear HS3 h2 h3
          go_wp2_with fail
          go_ret2
          exact ⟨rfl, below_seq b1 b4.1⟩
      · obtain ⟨rfl, rfl⟩ : v = 0 ∧ e = 10 := by
          have := HS.out
          rw [if_neg (by rw [f1]; simp), f1, f2] at this
          injection this with h1 h2
          exact ⟨h1.symm, h2.symm⟩
        rw [f1] at CF
        clear HS f1 f2 f3
        go_wp2_with fail
        refine (CF.out _).mono ?_
        rintro e3 w3 ⟨rfl, rfl⟩
        go_wp2_with fail
        go_ret2
        exact ⟨rfl, b1⟩
  · have HS : Hid ((fitV (x + d), fitE (x + d)) = (v, e)) := Lib.hid (by
      have := HV.out
      unfold stepV at this
      rw [if_neg (by simp [wrongC, hk]), if_neg hk] at this
      exact this)
    have h1 : (k == 4) = false := by simpa using hk
    have h2 : (k != 4) = true := by simpa using hk
    clear HV hk
    go_wp2_with fail
    refine (rsum2 x d _ _ _ (by simp) ⟨hx1, hx2⟩ ⟨hc1, hc2⟩).mono ?_
    rintro e3 w3 ⟨rfl, rfl⟩
    have HS2 := HS.out
    injection HS2 with h3 h4
    rw [h3, h4]
    clear h3 h4 HS
    go_wp2_with fail
    go_ret2
    exact ⟨rfl, below_seq b1 (below_alloc _ _)⟩
end Go.Proofs.Ytddihpiheopleaa.Ta
namespace Go.Proofs.Ytddihpiheopleaa.Ta
open Go.ChangeShapes Go.WideShapes Go.ChangeAt Go.RowKit
open Ce
open Fo (fitV fitE)

/-- what stands where the pens are asked for -/
def PensP (E : Int) (ys : List Int) (w : World) (u : Value) : Prop := (E = 0 → RowI .i64 w u ys) ∧ (E ≠ 0 → u = .slice none 0 0)
theorem PensP.ok {E : Int} {ys : List Int} {w : World} {u : Value} (h : RowI .i64 w u ys) (hE : E = 0) : PensP E ys w u := ⟨fun _ => h, fun h => absurd hE h⟩
theorem PensP.no {E : Int} {ys : List Int} {w : World} (hE : E ≠ 0) : PensP E ys w (.slice none 0 0) := ⟨fun h => absurd h hE, fun _ => rfl⟩
set_option maxRecDepth 100000 in
set_option maxHeartbeats 2000000 in
theorem rpens_any (l : List Cl) (rs : List Int) (x : Int) (vl vr : Value) (w : World) (hl : RwCl w vl l) (hr : RowI .u8 w vr rs) (hlen : l.length ≤ 1048576) (hx : W64 x) (ha : ∀ c ∈ l, W64 c.adv) :
    Calls Try.prog 31 #[vl, vr, .int .i64 x] w fun e w' => ∃ u, e = .returned (.tuple #[u, .int .i64 (pens l rs x).2]) ∧ PensP (pens l rs x).2 (pens l rs x).1 w' u ∧ Below w.heap.size w w' := by
  have HL := Lib.hid hl
  have HR := Lib.hid hr
  have HA := Lib.hid ha
  have CF := Lib.hid (fun W => rfits_any x W hx)
  obtain ⟨A, cap, rfl⟩ := hl.form
  obtain ⟨A2, cap2, rfl⟩ := hr.form
  obtain ⟨n, hn⟩ : ∃ n, l.length = n := ⟨_, rfl⟩
  obtain ⟨m, hm⟩ : ∃ m, rs.length = m := ⟨_, rfl⟩
  have HN := Lib.hid hn
  have HM := Lib.hid hm
  obtain ⟨ys, E, hyE⟩ : ∃ ys E, pens l rs x = (ys, E) := ⟨_, _, rfl⟩
  have HYE := Lib.hid hyE
  rw [hyE]
  rw [hn] at hlen HL ⊢
  rw [hm] at HR ⊢
  obtain ⟨hx1, hx2⟩ := hx
  clear hl hr ha hn hm hyE
  go_enter Try.func31, Try.ntmps31
  go_wp2_with fail
  go_loopg [8] n (fun kx s8 wr => Below w.heap.size w wr ∧ ∃ (k : Nat), s8 = .int .i64 k ∧ k ≤ n ∧ kx = n - k ∧ Hid (∀ i c, i < k → l[i]? = some c → wrongC c = false))
  case atStart => exact ⟨Below.refl _ _, 0, by go_num, by omega, rfl, Lib.hid fun i c hi => by omega⟩
  case round =>
    obtain ⟨bel, k, rfl, hk, rfl, HK⟩ := hrel
    by_cases hlt : k < n
    · have hlz : (k : Int) < n := by omega
      have HLT := Lib.hid hlt
      obtain ⟨c, hc⟩ : ∃ c, l[k]? = some c := ⟨_, List.getElem?_eq_getElem (by rw [HN.out]; exact hlt)⟩
      obtain ⟨ad, cp2, o, hv, hab, hadr, hL⟩ := (HL.out.below bel).get (Below.refl _ _) hc
      rw [HN.out] at hv
      injection hv with hv1 hv2 hv3
      subst hv1 hv3
      have c5 : wr.cell? ⟨ad.block, o, none⟩ = some (.int .u8 c.k) := by have := hL 0 _ rfl; rwa [Addr.add_lit] at this
      have c6 : wr.cell? ⟨ad.block, o + 3, none⟩ = some (.int .i64 c.adv) := by have := hL 3 _ rfl; rwa [Addr.add_lit] at this
      have HC := Lib.hid hc
      have next : Hid (wrongC c = false → ∀ i c, i < k + 1 → l[i]? = some c → wrongC c = false) := Lib.hid fun h i c' hi hc' => by
        rcases Nat.lt_or_ge i k with h2 | h2
        · exact HK.out i c' h2 hc'
        · obtain rfl : i = k := by omega
          have := hc'.symm.trans HC.out
          injection this with this
          rw [this]; exact h
      have HE : Hid (wrongC c = true → ys = [] ∧ E = 2) := Lib.hid fun h => by
        have hp := HYE.out
        unfold pens at hp
        rw [if_pos (List.any_eq_true.2 ⟨c, List.mem_of_getElem? HC.out, h⟩)] at hp
        injection hp with h1 h2
        exact ⟨h1.symm, h2.symm⟩
      have HW : Hid (wrongC c = (decide (c.k = 4) && decide (c.adv < 0))) := Lib.hid rfl
      obtain ⟨ck, hck⟩ : ∃ q, c.k = q := ⟨_, rfl⟩
      obtain ⟨ca, hca⟩ : ∃ q, c.adv = q := ⟨_, rfl⟩
      rw [hck] at c5 HW
      rw [hca] at c6 HW
      clear hck hca HC hv2 hL hc hlt
      by_cases h4 : ck = 4
      · subst h4
        by_cases h0 : ca < 0
        · obtain ⟨rfl, rfl⟩ := HE.out (by rw [HW.out]; simp [h0])
          go_wp2_with fail
          go_ret2
          exact ⟨_, rfl, PensP.no (by decide), bel⟩
        · have HX := Lib.hid (next.out (by rw [HW.out]; simp [h0]))
          go_wp2_with fail
          go_roundg (n - (k + 1))
          case measure => have := HLT.out; omega
          case rel => exact ⟨bel, k + 1, by go_num, by have := HLT.out; omega, rfl, HX⟩
      · have HX := Lib.hid (next.out (by rw [HW.out]; simp [h4]))
        have h4b : (ck == 4) = false := by simpa using h4
        clear h4
        go_wp2_with fail
        go_roundg (n - (k + 1))
        case measure => have := HLT.out; omega
        case rel => exact ⟨bel, k + 1, by go_num, by have := HLT.out; omega, rfl, HX⟩
    · obtain rfl : k = n := by omega
      have hw : l.any wrongC = false := List.any_eq_false.2 fun c hc => by
        obtain ⟨i, hi⟩ := List.getElem?_of_mem hc
        rw [HK.out i c (by rw [← HN.out]; exact (List.getElem?_eq_some_iff.1 hi).1) hi]
        decide
      have hst := At.start (rs := rs) (x := x) hw
      rw [HYE.out] at hst
      rcases fit_cases x with ⟨f1, f2, f3, f4⟩ | ⟨f1, f2, f3⟩
      · rw [f1] at CF hst
        rw [f2] at hst
        have HST := Lib.hid hst
        clear hst hw f1 f2 HK
        go_wp2_with fail
        refine (CF.out _).mono ?_
        rintro e3 w3 ⟨rfl, rfl⟩
        clear CF
        go_wp2_with fail
        have O0 : Hid (OwL w.heap.size (wr.alloc (.cells #[.int .i64 x] 2)) (.slice (some ⟨wr.heap.size, 0, none⟩) 1 1) ([] ++ [x])) := Lib.hid (OwL.lit1 (Blk.new wr 2 #[.int .i64 x]) bel.size)
        have B0 : Below w.heap.size w (wr.alloc (.cells #[.int .i64 x] 2)) := bel.alloc bel.size _
        obtain ⟨w4, hw4⟩ : ∃ q, wr.alloc (.cells #[.int .i64 x] 2) = q := ⟨_, rfl⟩
        obtain ⟨g4, hg4⟩ : ∃ q, wr.heap.size = q := ⟨_, rfl⟩
        rw [hw4] at O0 B0 ⊢
        rw [hg4] at O0 ⊢
        clear hw4 hg4 bel
        go_loopg [2, 9, 10] k (fun kx s2 s9 s10 w5 => Below w.heap.size w w5 ∧ ∃ (i : Nat) (p : Int) (pre : List Int) (A9 : Option Addr) (n9 c9 : Nat), s2 = .int .i64 p ∧ s9 = .slice A9 n9 c9 ∧ s10 = .int .i64 i ∧ i ≤ k ∧ kx = k - i ∧ Hid (OwL w.heap.size w5 (.slice A9 n9 c9) (pre ++ [p])) ∧ Hid (At (gone rs) l ys E i p 0 pre) ∧ (-4611686018427387904 ≤ p ∧ p ≤ 4611686018427387904))
        case atStart => exact ⟨B0, 0, x, [], _, 1, 1, rfl, rfl, by go_num, Nat.zero_le _, rfl, O0, HST, f3, f4⟩
        case round =>
          obtain ⟨bel, i, p, pre, A9, n9, c9, rfl, rfl, rfl, hi, rfl, HO, HAT, hp1, hp2⟩ := hrel
          obtain ⟨pl, hpl⟩ : ∃ q, pre.length = q := ⟨_, rfl⟩
          have HPL : Hid (pre.length = i) := Lib.hid (by
            rcases HAT.out with ⟨_, _, _, _, _, h⟩ | ⟨h, _⟩
            · exact h
            · exact absurd rfl h)
          have HSM : Hid ((pre ++ [p]).length < 4194304) := Lib.hid (by rw [List.length_append, HPL.out]; simp; omega)
          clear hpl
          by_cases him : i < k
          · have himz : (i : Int) < k := by omega
            have HIM := Lib.hid him
            obtain ⟨c, hc⟩ : ∃ c, l[i]? = some c := ⟨_, List.getElem?_eq_getElem (by rw [HN.out]; exact him)⟩
            obtain ⟨ad, cp2, o, hv, hab, hadr, hL⟩ := (HL.out.below bel).get (Below.refl _ _) hc
            rw [HN.out] at hv
            injection hv with hv1 hv2 hv3
            subst hv1 hv3
            have HC := Lib.hid hc
            obtain ⟨q, e4, hs⟩ : ∃ q e4, stepV c p = (q, e4) := ⟨_, _, rfl⟩
            have CS := Lib.hid (fun w => rstep_any c p w ⟨by omega, by omega⟩ (HA.out c (List.mem_of_getElem? hc)))
            rw [hs] at CS
            have hq := stepV_fit c p
            rw [hs] at hq
            have HS4 := Lib.hid hs
            have HQ4 := Lib.hid hq
            have HBL := Lib.hid bel.size
            clear hs hq hv2 hc him
            by_cases hmi : i < m
            · have hmiz : (i : Int) < m := by omega
              obtain ⟨r, hr⟩ : ∃ r, rs[i]? = some r := ⟨_, List.getElem?_eq_getElem (by rw [HM.out]; exact hmi)⟩
              obtain ⟨ar, capr, hv, hcr⟩ := (HR.out.below bel).get hr
              rw [HM.out] at hv
              injection hv with hv1 hv2 hv3
              subst hv1 hv3
              have HG : Hid (gone rs i = decide (r = 1)) := Lib.hid (by unfold gone; rw [hr])
              clear hv2 hr hmi
              by_cases hr1 : r = 1
              · subst hr1
                clear hL
                go_wp2_with (with_reducible refine selO ⟨some 57, _, _, _, _, _⟩ ?_; refine Mk.out ?_)
                constructor
                refine apL rfl (.tmp 56) rfl 57 rfl rfl (.tmp 55) rfl p rfl _ (fun _ => rfl) (fun _ => rfl) w.heap.size _ HO.out HSM.out HBL.out ?_
                intro u10 A10 n10 c10 w10 O10 b10 _ _
                have HO10 := Lib.hid O10
                clear O10
                go_wp2_with fail
                go_roundg (k - (i + 1))
                case measure => have := HIM.out; omega
                case rel => exact ⟨bel.trans b10, i + 1, p, _, A10, n10, c10, rfl, rfl, by go_num, HIM.out, rfl, HO10, Lib.hid (HAT.out.gone HC.out (by rw [HG.out]; rfl)), hp1, hp2⟩
              · have hgf : Hid (gone rs i = false) := Lib.hid (by rw [HG.out]; simp [hr1])
                have hr1b : (r == 1) = false := by simpa using hr1
                clear hr1
                go_wp2_with (refine ldCl rfl (.tmp 62) rfl _ rfl c hL ?_)
                refine (CS.out _).mono ?_
                rintro e5 w5 ⟨rfl, b5⟩
                have bel5 := bel.trans (b5.mono bel.size)
                have HO5 := Lib.hid (HO.out.below b5)
                clear CS b5 hL HO
                by_cases he : e4 = 0
                · subst he
                  go_wp2_with (with_reducible refine selO ⟨some 74, _, _, _, _, _⟩ ?_; refine Mk.out ?_)
                  constructor
                  refine apL rfl (.tmp 73) rfl 74 rfl rfl (.tmp 72) rfl q rfl _ (fun _ => rfl) (fun _ => rfl) w.heap.size _ HO5.out HSM.out bel5.size ?_
                  intro u10 A10 n10 c10 w10 O10 b10 _ _
                  have HO10 := Lib.hid O10
                  clear O10 HO5
                  go_wp2_with fail
                  go_roundg (k - (i + 1))
                  case measure => have := HIM.out; omega
                  case rel => exact ⟨bel5.trans b10, i + 1, q, _, A10, n10, c10, rfl, rfl, by go_num, HIM.out, rfl, HO10, Lib.hid (HAT.out.step HC.out hgf.out HS4.out), HQ4.out⟩
                · have heb : (e4 != 0) = true := by simpa using he
                  have hX := HAT.out.step HC.out hgf.out HS4.out
                  have hE : E = e4 := by
                    rcases hX with ⟨h, _⟩ | ⟨_, _, h, _⟩
                    · exact absurd h he
                    · exact h
                  subst hE
                  have HE := Lib.hid he
                  clear hX he
                  go_wp2_with fail
                  go_ret2
                  exact ⟨_, rfl, PensP.no HE.out, bel5⟩
            · have hmiz : ¬ (i : Int) < m := by omega
              have hgf : Hid (gone rs i = false) := Lib.hid (by unfold gone; rw [List.getElem?_eq_none (by rw [HM.out]; omega)])
              clear hmi
              go_wp2_with (refine ldCl rfl (.tmp 62) rfl _ rfl c hL ?_)
              refine (CS.out _).mono ?_
              rintro e5 w5 ⟨rfl, b5⟩
              have bel5 := bel.trans (b5.mono bel.size)
              have HO5 := Lib.hid (HO.out.below b5)
              clear CS b5 hL HO
              by_cases he : e4 = 0
              · subst he
                go_wp2_with (with_reducible refine selO ⟨some 74, _, _, _, _, _⟩ ?_; refine Mk.out ?_)
                constructor
                refine apL rfl (.tmp 73) rfl 74 rfl rfl (.tmp 72) rfl q rfl _ (fun _ => rfl) (fun _ => rfl) w.heap.size _ HO5.out HSM.out bel5.size ?_
                intro u10 A10 n10 c10 w10 O10 b10 _ _
                have HO10 := Lib.hid O10
                clear O10 HO5
                go_wp2_with fail
                go_roundg (k - (i + 1))
                case measure => have := HIM.out; omega
                case rel => exact ⟨bel5.trans b10, i + 1, q, _, A10, n10, c10, rfl, rfl, by go_num, HIM.out, rfl, HO10, Lib.hid (HAT.out.step HC.out hgf.out HS4.out), HQ4.out⟩
              · have heb : (e4 != 0) = true := by simpa using he
                have hX := HAT.out.step HC.out hgf.out HS4.out
                have hE : E = e4 := by
                  rcases hX with ⟨h, _⟩ | ⟨_, _, h, _⟩
                  · exact absurd h he
                  · exact h
                subst hE
                have HE := Lib.hid he
                clear hX he
                go_wp2_with fail
                go_ret2
                exact ⟨_, rfl, PensP.no HE.out, bel5⟩
          · obtain rfl : i = k := by omega
            have hA : At (gone rs) l ys E l.length p 0 pre := by rw [HN.out]; exact HAT.out
            obtain ⟨h1, h2⟩ := hA.end_
            subst h1 h2
            have HRW := Lib.hid HO.out.row
            clear hA HO
            go_wp2_with fail
            go_ret2
            exact ⟨_, rfl, PensP.ok HRW.out rfl, bel⟩
      · obtain ⟨rfl, rfl⟩ : ys = [] ∧ E = 10 := by
          have := HYE.out
          unfold pens at this
          rw [if_neg (by simp [hw]), if_neg (by rw [f1]; decide), f1] at this
          injection this with h1 h2
          exact ⟨h1.symm, h2.symm⟩
        rw [f1] at CF
        clear hst hw f1 f2 f3 HK
        go_wp2_with fail
        refine (CF.out _).mono ?_
        rintro e3 w3 ⟨rfl, rfl⟩
        go_wp2_with fail
        go_ret2
        exact ⟨_, rfl, PensP.no (by decide), bel⟩

set_option maxRecDepth 100000 in
set_option maxHeartbeats 1000000 in
theorem rend_any (l : List Cl) (rs : List Int) (x : Int) (vl vr : Value) (w : World) (hl : RwCl w vl l) (hr : RowI .u8 w vr rs) (hlen : l.length ≤ 1048576) (hx : W64 x) (ha : ∀ c ∈ l, W64 c.adv) :
    Calls Try.prog 22 #[vl, vr, .int .i64 x] w fun e w' => e = .returned (.tuple #[.int .i64 (if (pens l rs x).2 = 0 then (pens l rs x).1.getLastD 0 else 0), .int .i64 (pens l rs x).2]) ∧ Below w.heap.size w w' := by
  have C := Lib.hid (rpens_any l rs x vl vr w hl hr hlen hx ha)
  have hpl := pens_len l rs x
  obtain ⟨A, cap, rfl⟩ := hl.form
  obtain ⟨A2, cap2, rfl⟩ := hr.form
  obtain ⟨n, hn⟩ : ∃ n, l.length = n := ⟨_, rfl⟩
  obtain ⟨m, hm⟩ : ∃ m, rs.length = m := ⟨_, rfl⟩
  obtain ⟨ys, E, hyE⟩ : ∃ ys E, pens l rs x = (ys, E) := ⟨_, _, rfl⟩
  rw [hyE] at C hpl ⊢
  rw [hn] at C hpl hlen ⊢
  rw [hm] at C ⊢
  simp only at hpl
  have HPL := Lib.hid hpl
  obtain ⟨z, hz⟩ : ∃ z, (if E = 0 then ys.getLastD 0 else 0) = z := ⟨_, rfl⟩
  have HZ := Lib.hid hz
  simp only [hz]
  clear hl hr hx ha hn hm hyE hpl hz
  go_enter Try.func22, Try.ntmps22
  go_wp2_with fail
  refine C.out.mono ?_
  rintro e1 w1 ⟨u, rfl, P, b1⟩
  by_cases he : E = 0
  · have hR := P.1 he
    have hlen2 := HPL.out.2 he
    obtain ⟨A3, c3, rfl⟩ := hR.form
    rw [hlen2] at hR ⊢
    obtain ⟨p, hp⟩ : ∃ p, ys[n]? = some p := ⟨_, List.getElem?_eq_getElem (by omega)⟩
    have hlast : ys.getLastD 0 = p := by
      rw [List.getLastD_eq_getLast?, List.getLast?_eq_getElem?, hlen2, Nat.add_sub_cancel, hp]
      rfl
    obtain rfl : p = z := by rw [← HZ.out, if_pos he, hlast]
    obtain ⟨a3, c4, hv, hcl⟩ := hR.get hp
    rw [hlen2] at hv
    injection hv with hv1 hv2 hv3
    subst hv1 hv3 he
    clear hR hp hlast hlen2 hv2 C P
    go_wp2_with fail
    go_ret2
    exact ⟨rfl, b1⟩
  · obtain rfl := P.2 he
    obtain rfl : 0 = z := by rw [← HZ.out, if_neg he]
    have heb : (E != 0) = true := by simpa using he
    clear he P C
    go_wp2_with fail
    go_ret2
    exact ⟨rfl, b1⟩
end Go.Proofs.Ytddihpiheopleaa.Ta
