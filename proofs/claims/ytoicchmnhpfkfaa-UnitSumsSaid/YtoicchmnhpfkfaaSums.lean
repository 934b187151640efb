/- UnitSums: for every input the law returns true, and its arguments read behind the call as they did before. No condition. -/
import Derived.Test.YtoicchmnhpfkfaaRefA
import Derived.Test.YtoicchmnhpfkfaaRows
import Derived.WalkKit
import Derived.ProofKit
import Derived.OpenShut
import Derived.ShutString
import Derived.ChangeOld
import Derived.Below
import Derived.OwnWalk
import Derived.Maps.AppendAt
import Derived.Deep.RegionLaw
import Derived.Deep.RegionHeld3
import Derived.Deep.DeepCutAuto
import Derived.Deep.AppendLies
namespace Go.Proofs.Ytoicchmnhpfkfaa.unitSums
open Go.ChangeShapes Go.WideShapes Go.ChangeAt Go.RowKit
open Go.ChangeMaps (open_string shut_string)
set_option linter.unusedVariables false

theorem own : ownKnob Try.prog.godebug = none := by kernel_rfl
theorem laidOut : laidOutB Try.prog = true := by kernel_rfl

/-- WHAT THE WALK IS TOLD OF A SLICE OF INTEGERS THAT CAME IN: it is nil; or it leads to a row of 'cap' cells, the numbers 'zs' (the first 'len' are its elements, the rest its spare room), each fitting its kind. -/
def IsRow (k : IntKind) (w : World) (a : Option Addr) (len cap : Nat) (zs : List Int) : Prop :=
  (a = none ∧ len = 0 ∧ cap = 0 ∧ zs = []) ∨
  ∃ x, a = some x ∧ len ≤ cap ∧ cap ≤ maxLen ∧ zs.length = cap ∧ (∀ i, i < zs.length → w.cell? (x.add i) = some (.int k (zs.getD i 0))) ∧ ∀ n ∈ zs, (Lit.int k n).wf = true

theorem Try.infoI : (Try.prog.info? 2).map (fun i => (i.zero, i.size, i.bytes)) = some (some (.int .i64 0), 1, 8) := by kernel_rfl

/-- unit.Sum at a row of the call's own -/
theorem sum_own (base : Nat) (v : Value) (zs : List Int) (w : World) (hn : zs.length ≤ 1000) (h : w.ownsRow base 2 1 v zs.length (zs.map (Value.int .i64))) (hr : ∀ z ∈ zs, -9223372036854775808 ≤ z ∧ z ≤ 9223372036854775807) :
    Calls Try.prog 10 #[v] w fun e w' => e = .returned (.tuple #[.int .i64 (fitV zs.sum), .int .i64 (fitE zs.sum)]) ∧ w = w' := by
  rcases h.2 with ⟨rfl, h0⟩ | ⟨g, cap, cur, rfl, h1, hg, rest⟩
  · have : zs = [] := List.length_eq_zero_iff.1 h0
    subst this
    exact sum_nil w
  · refine sum_any ⟨g, 0, none⟩ zs cap w (by omega) (fun j hj => ?_) hr
    refine h.cells (g := g) rfl j _ ?_
    simp [List.getD, hj]

theorem add_add' (a : Addr) (i j : Nat) : (a.add i).add j = a.add (i + j) := by
  unfold Addr.add
  by_cases hi : i = 0 <;> by_cases hj : j = 0 <;> simp [hi, hj, Nat.add_assoc]

/-- append onto a row of the call's own, as one step of a statement whose order is open -/
theorem step_app {ops : Array Oper} {o : Oper} {a : Act} {K : Act → World → Prop} {Q : Exit → Act → World → Prop} {E : Prop} (w : World) (hgd : o.guard = none) (s x : Operand)
    (ho : o.op = .call { callee := .builtin .append, args := #[s, x], argTypes := #[22, 22] })
    (base : Nat) (v : Value) (ys : List Int) (hs : a.eval s = v) (hown : w.ownsRow base 2 1 v ys.length (ys.map (Value.int .i64)))
    (ad : Addr) (c : Nat) (zs : List Int) (n : Nat) (hn : zs.length = n) (hx : a.eval x = .slice (some ad) n c) (hcell : ∀ j, j < zs.length → w.cell? (ad.add j) = some (.int .i64 (zs.getD j 0)))
    (hb : ys.length + zs.length ≤ 1000) (hbase : base ≤ w.heap.size)
    (h : ∀ v' w', w'.ownsRow base 2 1 v' (ys ++ zs).length ((ys ++ zs).map (Value.int .i64)) → w.grownBy w' v.ownBlock → K (a.put o.dst v') w') :
    if Region.wanted o (yielded ops a.tmps) = true then Oper.wp Try.prog o a w K Q else E := by
  obtain ⟨i0, hi, hz0, hz1, hz2⟩ := info_parts Try.infoI
  subst hn
  have hw : Region.wanted o (yielded ops a.tmps) = true := by simp [Region.wanted, hgd]
  rw [if_pos hw]
  refine wp_append_own w s x 22 ho base 2 i0 (.int .i64 0) 1 8 Try.underlying22 hi hz0 hz1 hz2 rfl (by decide) v ys.length _ hs hown ad zs.length c (zs.map (Value.int .i64)) hx (by simp) ?_ ?_ (by unfold maxLen; omega) (by omega) hbase ?_
  · intro j u hu
    rw [List.getElem?_map] at hu
    rcases Nat.lt_or_ge j zs.length with hj | hj
    · rw [List.getElem?_eq_getElem hj] at hu
      have := hcell j hj
      rw [this]
      simp only [List.getD, List.getElem?_eq_getElem hj, Option.getD_some]
      exact hu
    · rw [List.getElem?_eq_none hj] at hu
      cases hu
  · intro u hu
    obtain ⟨z, _, rfl⟩ := List.mem_map.1 hu
    rfl
  · intro v' w' h1 h2 _
    refine h v' w' ?_ h2
    rw [List.length_append, List.map_append]
    exact h1

theorem own_empty (w : World) (t : TypeId) : (w.alloc (.cells #[] t)).ownsRow w.heap.size t 1 (.slice (some ⟨w.heap.size, 0, none⟩) 0 0) 0 [] :=
  ⟨rfl, .inr ⟨w.heap.size, 0, #[], rfl, Nat.le_refl _, (MapKept.heap_alloc w _).1, Nat.le_refl _, Nat.zero_le _, rfl, rfl⟩⟩

set_option maxRecDepth 100000 in
set_option maxHeartbeats 1000000 in
theorem out_a (A : Option Addr) (n c : Nat) (turn : Int) (w : World) (h : 1000 < n) (hbig : n ≤ 9223372036854775807) :
    Calls Try.prog 3 #[.slice A n c, .int .i64 turn] w fun e w' => e = .returned (.bool true) ∧ Below w.heap.size w w' := by
  go_enter Try.func3, Try.ntmps3
  go_wp2_with fail
  refine (head_any _).mono ?_
  rintro e w1 ⟨rfl, g⟩
  go_wp2_with fail
  go_ret
  exact ⟨rfl, g.1⟩

set_option maxRecDepth 100000 in
set_option maxHeartbeats 1000000 in
theorem main_nil (turn : Int) (w : World) :
    Calls Try.prog 3 #[.slice none 0 0, .int .i64 turn] w fun e w' => e = .returned (.bool true) ∧ Below w.heap.size w w' := by
  go_enter Try.func3, Try.ntmps3
  go_wp2_with fail
  refine (sum_nil _).mono ?_
  rintro e w1 ⟨rfl, rfl⟩
  go_wp2_with fail
  refine (rsum_nil _).mono ?_
  rintro e w1 ⟨rfl, rfl⟩
  go_wp2_with fail
  refine (head_any _).mono ?_
  rintro e w1 ⟨rfl, g⟩
  go_wp2_with fail
  go_ret
  exact ⟨by simp, g.1⟩

set_option maxRecDepth 100000 in
set_option maxHeartbeats 1000000 in
theorem main_zero (a : Addr) (cap : Nat) (turn : Int) (w : World) :
    Calls Try.prog 3 #[.slice (some a) 0 cap, .int .i64 turn] w fun e w' => e = .returned (.bool true) ∧ Below w.heap.size w w' := by
  have C1 := Lib.hid (sum_any a [] cap w (by simp) (by simp) (by simp))
  have C2 := Lib.hid (rsum_any a [] cap w (by simp) (by simp) (by simp))
  rw [show fitV ([] : List Int).sum = 0 from rfl, show fitE ([] : List Int).sum = 0 from rfl, List.length_nil] at C1 C2
  go_enter Try.func3, Try.ntmps3
  go_wp2_with fail
  refine C1.out.mono ?_
  rintro e w1 ⟨rfl, rfl⟩
  go_wp2_with fail
  refine C2.out.mono ?_
  rintro e w1 ⟨rfl, rfl⟩
  go_wp2_with fail
  refine (head_any _).mono ?_
  rintro e w1 ⟨rfl, g⟩
  go_wp2_with fail
  go_ret
  exact ⟨by simp, g.1⟩

set_option maxRecDepth 100000 in
set_option maxHeartbeats 1500000 in
theorem main_some (a : Addr) (zs : List Int) (n cap kk : Nat) (turn r x : Int) (w : World) (hz : Hid (zs.length = n)) (hn0 : 0 < n) (hn : ¬ 1000 < n) (hcap : n ≤ cap) (hcapb : cap ≤ 9223372036854775807)
    (ha : a.block < w.heap.size) (hc : ∀ j, j < n → w.cell? (a.add j) = some (.int .i64 (zs.getD j 0))) (hr : ∀ z ∈ zs, -9223372036854775808 ≤ z ∧ z ≤ 9223372036854775807) (hx : Hid (zs.getD 0 0 = x))
    (ht : -9223372036854775808 ≤ turn ∧ turn ≤ 9223372036854775807) (hm : turn.tmod (n : Int) = r) (hk : (r < 0 ∧ r + (n : Int) = kk) ∨ (¬ r < 0 ∧ r = kk)) (hkn : kk < n) (hrb : -(n : Int) < r ∧ r < n) (m : Bool)
    (M1 : Hid (∀ w, Calls Try.prog 12 #[.int .i64 x] w fun e w' => e = .returned (.bool m) ∧ w = w'))
    (M2 : Hid (∀ w, Calls Try.prog 13 #[.int .i64 x] w fun e w' => e = .returned (.bool m) ∧ w = w')) :
    Calls Try.prog 3 #[.slice (some a) n cap, .int .i64 turn] w fun e w' => e = .returned (.bool true) ∧ Below w.heap.size w w' := by
  have C1 := sum_any a zs cap w (by rw [hz.out]; omega) (by rw [hz.out]; exact hc) hr
  have C2 := rsum_any a zs cap w (by rw [hz.out]; omega) (by rw [hz.out]; exact hc) hr
  rw [hz.out] at C1 C2
  have D1 := Lib.hid C1
  have D2 := Lib.hid C2
  have HC := Lib.hid hc
  have HR := Lib.hid hr
  have HK := Lib.hid hk
  have en : ((n : Int) == 0) = false := by simp; omega
  have hck : ¬ cap = kk := by omega
  obtain ⟨sv, se, ev, ee⟩ : ∃ sv se : Int, fitV zs.sum = sv ∧ fitE zs.sum = se := ⟨_, _, rfl, rfl⟩
  rw [ev, ee] at D1 D2
  have EV := Lib.hid (And.intro ev ee)
  have hkl : kk ≤ n := by omega
  have hkc : kk ≤ cap := by omega
  have L1 : Hid ((zs.drop kk).length = n - kk) := by show _ = _; rw [List.length_drop, hz.out]
  have L2 : Hid ((zs.take kk).length = kk) := by show _ = _; rw [List.length_take, hz.out]; omega
  have HC1 : Hid (∀ j, j < (zs.drop kk).length → w.cell? ((a.add kk).add j) = some (.int .i64 ((zs.drop kk).getD j 0))) := by
    intro j hj
    rw [L1.out] at hj
    rw [add_add', hc (kk + j) (by omega)]
    simp [List.getD]
  have HC2 : Hid (∀ j, j < (zs.take kk).length → w.cell? (a.add j) = some (.int .i64 ((zs.take kk).getD j 0))) := by
    intro j hj
    rw [L2.out] at hj
    rw [hc j (by omega)]
    simp [List.getD, hj]
  have C3 : Hid (∀ (v : Value) (w2 : World), w2.ownsRow w.heap.size 2 1 v (zs.drop kk ++ zs.take kk).length ((zs.drop kk ++ zs.take kk).map (Value.int .i64)) → Calls Try.prog 10 #[v] w2 fun e w' => e = .returned (.tuple #[.int .i64 sv, .int .i64 se]) ∧ w2 = w') := by
    intro v w2 ho
    have hs : (zs.drop kk ++ zs.take kk).sum = zs.sum := by
      rw [List.sum_append, Int.add_comm, ← List.sum_append, List.take_append_drop]
    have := sum_own w.heap.size v (zs.drop kk ++ zs.take kk) w2 (by rw [List.length_append, L1.out, L2.out]; omega) ho (fun z hz => by
      rw [List.mem_append] at hz
      rcases hz with h | h
      · exact hr z (List.mem_of_mem_drop h)
      · exact hr z (List.mem_of_mem_take h))
    rw [hs, ev, ee] at this
    exact this
  have belA : Below w.heap.size w (w.alloc (.cells #[] 2)).drew := ((Below.refl _ _).alloc (Nat.le_refl _) _).drew
  have hab : ∀ j, (a.add j).block < w.heap.size := fun j => by rw [block_add]; exact ha
  have HAB := Lib.hid hab
  have LB : Hid ((zs.drop kk).length + (zs.take kk).length ≤ 1000) := by show _ ≤ _; rw [L1.out, L2.out]; omega
  have LB1 : Hid (([] : List Int).length + (zs.drop kk).length ≤ 1000) := by show _ ≤ _; rw [L1.out, List.length_nil]; omega
  have HCA : Hid (∀ j, j < (zs.drop kk).length → (w.alloc (.cells #[] 2)).drew.cell? ((a.add kk).add j) = some (.int .i64 ((zs.drop kk).getD j 0))) := fun j hj =>
    (belA.cell (by rw [block_add]; exact HAB.out kk)).trans (HC1.out j hj)
  have OWN0 : Hid ((w.alloc (.cells #[] 2)).drew.ownsRow w.heap.size 2 1 (.slice (some ⟨w.heap.size, 0, none⟩) 0 0) ([] : List Int).length (([] : List Int).map (Value.int .i64))) := own_empty w _
  clear C1 C2 hc hr ev ee hab
  rcases hk with ⟨hk1, hk2⟩ | ⟨hk1, rfl⟩
  all_goals
    go_enter Try.func3, Try.ntmps3
    go_wp2_with fail
    refine D1.out.mono ?_
    rintro e w1 ⟨rfl, rfl⟩
    go_wp2_with fail
    refine D2.out.mono ?_
    rintro e w1 ⟨rfl, rfl⟩
    go_wp2_with fail
  all_goals
    go_cut [10, 11] (fun s10 s11 wx => Below w.heap.size w wx ∧ s10 = .int .i64 sv ∧ s11 = .int .i64 se)
    case first =>
      go_region_law (first
        | (refine step_app w1 rfl (.tmp 61) (.tmp 64) rfl w.heap.size v1 (zs.drop kk) rfl hown1 a cap (zs.take kk) kk L2.out rfl (fun j hj => (bel1.cell (HAB.out j)).trans (HC2.out j hj)) LB.out bel1.size ?_; intro v2 w2 hown2 hgrow2; have bel2 : Below w.heap.size w w2 := bel1.grown hgrow2 bel1.size (fun g hg => (hown1.lt g hg).1))
        | (refine step_app (w.alloc (.cells #[] 2)).drew rfl (.tmp 57) (.tmp 60) rfl w.heap.size (.slice (some ⟨w.heap.size, 0, none⟩) 0 0) [] rfl OWN0.out (a.add kk) (cap - kk) (zs.drop kk) (n - kk) L1.out rfl HCA.out LB1.out belA.size ?_; intro v1 w1 hown1 hgrow1; have bel1 : Below w.heap.size w w1 := belA.grown hgrow1 belA.size (fun g hg => (OWN0.out.lt g hg).1))
        | (go_simp; go_at_call 10; refine (C3.out _ _ hown2).mono ?_; rintro e w3 ⟨rfl, rfl⟩))
      all_goals (go_wp2_with fail; go_meet; exact ⟨bel2, rfl, rfl⟩)
    case rest =>
      obtain ⟨bel, rfl, rfl⟩ := hcut
      have hcell : wc.cell? a = some (.int .i64 x) := by
        have h0 := HC.out 0 hn0
        rw [hx.out] at h0
        rw [bel.cell ha]
        simpa [Addr.add] using h0
      have hsz := bel.size
      have HB : Hid (a.block < wc.drew.heap.size) := World.block_lt_of_cell? _ _ hcell
      have hn1 : (0 : Int) < (n : Int) := by omega
      clear C3 belA HCA OWN0 D1 D2 HC1 HC2
      cases m
      all_goals
        go_wp2_with fail
        go_region_held3 (fun w' => w'.cell? a = some (.int .i64 x)) (go_keep) (first
          | (go_at_call 12; refine (M1.out _).mono ?_; rintro e w1 ⟨rfl, rfl⟩)
          | (go_at_call 13; refine (M2.out _).mono ?_; rintro e w1 ⟨rfl, rfl⟩)
          | (go_at_call 9; refine (head_any _).mono ?_; rintro e w2 ⟨rfl, g2⟩; have hw2 : w2.cell? a = some (.int .i64 x) := (g2.cell HB.out).trans hcell))
        all_goals (go_wp2_with fail; go_ret; exact ⟨rfl, bel.drew.trans (g2.1.mono hsz)⟩)

theorem walk (a0 : Option Addr) (len0 cap0 : Nat) (z0 : List Int) (a1 : Int) (w : World) (w0 : IsRow .i64 w a0 len0 cap0 z0) (w1 : (Lit.int .i64 a1).wf = true) :
    Calls Try.prog 3 #[.slice a0 len0 cap0, .int .i64 a1] w fun e w' => e = .returned (.bool true) ∧ Below w.heap.size w w' := by
  have ht := wf64 w1
  rcases w0 with ⟨rfl, rfl, rfl, rfl⟩ | ⟨x, rfl, hl, hm, hz, hcell, hwz⟩
  · exact main_nil a1 w
  · unfold maxLen at hm
    by_cases h1 : 1000 < len0
    · exact out_a _ len0 cap0 a1 w h1 (by omega)
    · rcases Nat.eq_zero_or_pos len0 with h2 | h2
      · subst h2
        exact main_zero x cap0 a1 w
      · have hlen : (z0.take len0).length = len0 := by rw [List.length_take]; omega
        have hc : ∀ j, j < len0 → w.cell? (x.add j) = some (.int .i64 ((z0.take len0).getD j 0)) := fun j hj => by
          rw [hcell j (by omega)]
          simp [List.getD, hj]
        have hr : ∀ z ∈ z0.take len0, -9223372036854775808 ≤ z ∧ z ≤ 9223372036854775807 := fun z hz => wf64 (hwz z (List.mem_of_mem_take hz))
        have ha : x.block < w.heap.size := by
          rw [← block_add x 0]
          exact World.block_lt_of_cell? _ _ (hc 0 h2)
        obtain ⟨k1, k2, k3, k4⟩ := tmod_is a1 (len0 : Int) (by omega)
        have hx := hr ((z0.take len0).getD 0 0) (by
          have h0 : 0 < (z0.take len0).length := by omega
          simp only [List.getD, List.getElem?_eq_getElem h0, Option.getD_some]
          exact List.getElem_mem h0)
        refine main_some x (z0.take len0) len0 cap0 (if a1.tmod len0 < 0 then (a1.tmod len0 + len0).toNat else (a1.tmod len0).toNat) a1 (a1.tmod len0) _ w hlen h2 h1 hl (by omega) ha hc hr rfl ht rfl ?_ ?_ ⟨k1, k2⟩ _ (fun w => may_any _ w hx.1 hx.2) (fun w => rmay_any _ w)
        · by_cases hneg : a1.tmod len0 < 0
          · left; rw [if_pos hneg]; omega
          · right; rw [if_neg hneg]; omega
        · by_cases hneg : a1.tmod len0 < 0
          · rw [if_pos hneg]; omega
          · rw [if_neg hneg]; omega

/-! ### THE ROW's STEP: WRITTEN OUT: LEAVE IT -/
set_option maxRecDepth 100000 in
theorem lifted (os : Os) (started : os.Started) (H : Type) (enc : TypeId × Value → H) :
    ReturnsInHanded {} Try.checked os 3 .any (Rows.unitSumsSpec.pre6 enc Try.prog Try.f3 Rows.unitSumsRow.domain false) (Rows.unitSumsSpec.post enc Try.prog Try.f3 false true false false) := by
  refine returnsInHanded_of_change (C := Try.checked) own started (by kernel_rfl) Try.func3
    (ChangeSpec.witness6 (enc := enc) (C := Try.checked) false ⟨#[], #[.slice none 0 0, .int .i64 0], []⟩ 8 (by kernel_rfl) (by kernel_rfl) (by kernel_rfl) (by kernel_rfl)) ?_
  intro W base args ds gs before hval0 hW hcnd _
  have hval : ∀ (j : Nat) t v, Try.f3.params[j]? = some t → args[j]? = some v → Value.okWide Try.prog W .any base t v := hval0
  have hW' := hW
  obtain ⟨p, q, hA0, hV, rfl, hfz, hnd⟩ := hW
  have hA : DataW.TrodAll enc Try.prog W 0 (fun _ => true) true Try.f3.params.toList args.toList ds p := hA0
  rw [Try.params3] at hA hval
  obtain ⟨v0, vs0, d0, ds0, p0, q0, hargs, rfl, rfl, h0, r0⟩ := trodAll_cons hA
  obtain ⟨v1, vs1, d1, ds1, p1, q1, rfl, rfl, rfl, h1, r1⟩ := trodAll_cons r0
  obtain ⟨rfl, rfl, rfl⟩ := trodAll_nil r1
  obtain rfl : args = #[v0, v1] := by cases args; simp_all
  obtain ⟨rfl, rfl⟩ := trodVars_none hV
  obtain ⟨a0, len0, cap0, rfl⟩ := okWide_slice Try.underlying22 (hval 0 22 v0 rfl rfl)
  have k0 := h0
  have lt0 : ∀ x ∈ p0, x.block < W.heap.size := by obtain ⟨m, hm⟩ := k0; exact DataW.trod_lt m _ _ _ hm
  obtain ⟨z0, w0⟩ : ∃ zs, IsRow .i64 W a0 len0 cap0 zs := by
    obtain ⟨fuel, hf⟩ := h0
    rcases open_ints Try.underlying22 Try.underlying2 (by kernel_rfl) hf with ⟨hcs, _⟩ | ⟨x, l, c, zs, hcs, _, hl, hm, hz, _, hcell, hwz⟩
    · simp [Value.cells] at hcs
      obtain ⟨rfl, rfl, rfl⟩ := hcs
      exact ⟨[], .inl ⟨rfl, rfl, rfl, rfl⟩⟩
    · simp [Value.cells] at hcs
      obtain ⟨rfl, rfl, rfl⟩ := hcs
      exact ⟨zs, .inr ⟨_, rfl, hl, hm, by simpa using hz, hcell, hwz⟩⟩
  obtain ⟨a1, rfl, rfl, rfl, w1⟩ := open_int Try.underlying3 (hval 1 3 v1 rfl rfl) h1
  clear hA0 hval0
  refine (walk a0 len0 cap0 z0 a1 W w0 w1).mono fun e W' ⟨he, bel⟩ => ?_
  subst he
  exact ⟨_, rfl, _, _, _, [], _, [], hW', trodAll_mk1 (shut_bool Try.underlying4 _), (trodAll_cons_mk (Below.trod laidOut (by kernel_rfl) (of_decide_eq_true (by kernel_rfl)) k0 bel lt0) (trodAll_cons_mk (shut_int Try.underlying3 w1) trodAll_mk0)), rfl, bel.frame _, fun h => by cases h⟩

theorem over : Rows.unitSumsRow.holds Try.pinned (OpenSpec.ofChange Rows.unitSumsSpec) :=
  OpenClaim.holds_of_wide 3 Try.f3 rfl rfl rfl rfl rfl rfl rfl ⟨rfl, rfl, rfl, rfl, rfl⟩ rfl rfl rfl rfl rfl (by kernel_rfl) Try.func3 (by kernel_rfl)
    (of_decide_eq_true (by kernel_rfl)) (by unfold Func.isWrapper; first | (rw [if_pos (by decide +kernel)]; kernel_rfl) | (rw [if_neg (by decide +kernel)]; exact ⟨rfl, rfl⟩))
    (fun os started H enc _ => lifted os started H enc)

/-- ████ THE STATEMENT ████ -/
theorem proved : Rows.UnitSumsSaid := over
#print axioms proved
end Go.Proofs.Ytoicchmnhpfkfaa.unitSums
