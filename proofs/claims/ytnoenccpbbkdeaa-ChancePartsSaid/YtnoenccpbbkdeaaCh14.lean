/- Contracts of the laws' great and head. No conditions. -/
import Derived.Test.YtnoenccpbbkdeaaCh13
namespace Go.Proofs.Ytnoenccpbbkdeaa
open Go.ChangeShapes Go.WideShapes Go.ChangeAt Go.RowKit Go.Shelf
open Wh (Cr)
open Ch

set_option maxRecDepth 100000 in
set_option maxHeartbeats 4000000 in
theorem cgreat_any (A1 A2 A3 : Option Addr) (n1 n2 n3 c1 c2 c3 : Nat) (w : World) :
    Calls Try.prog 8 #[.agg #[.slice A1 n1 c1, .slice A2 n2 c2, .slice A3 n3 c3]] w fun e w' => e = .returned (.bool (decide (100 < n1) || decide (40 < n2) || decide (150 < n3))) ∧ Below w.heap.size w w' := by
  have b := below_alloc w (.cells #[.slice A1 n1 c1, .slice A2 n2 c2, .slice A3 n3 c3] 26)
  obtain ⟨q, hq⟩ : ∃ q, (decide (100 < n1) || decide (40 < n2) || decide (150 < n3)) = q := ⟨_, rfl⟩
  have HQ := Lib.hid hq
  rw [hq]
  clear hq
  go_enter Try.func8, Try.ntmps8
  by_cases h1 : 100 < n1
  · obtain rfl : true = q := by rw [← HQ.out, decide_eq_true h1]; rfl
    have z1 : (100 : Int) < n1 := by omega
    go_wp2_with fail
    go_ret
    exact ⟨rfl, b⟩
  have z1 : ¬ (100 : Int) < n1 := by omega
  by_cases h2 : 40 < n2
  · obtain rfl : true = q := by rw [← HQ.out, decide_eq_true h2]; simp
    have z2 : (40 : Int) < n2 := by omega
    go_wp2_with fail
    go_ret
    exact ⟨rfl, b⟩
  have z2 : ¬ (40 : Int) < n2 := by omega
  by_cases h3 : 150 < n3
  · obtain rfl : true = q := by rw [← HQ.out, decide_eq_true h3]; simp
    have z3 : (150 : Int) < n3 := by omega
    go_wp2_with fail
    go_ret
    exact ⟨rfl, b⟩
  · obtain rfl : false = q := by rw [← HQ.out, decide_eq_false h1, decide_eq_false h2, decide_eq_false h3]; rfl
    have z3 : ¬ (150 : Int) < n3 := by omega
    go_wp2_with fail
    go_ret
    exact ⟨rfl, b⟩

/-- a literal, as it is made -/
theorem row_new (w : World) (t : TypeId) (n : Nat) (cs : Array Value) (xs : List Value) (hn : xs.length = n) (hc : cs = xs.toArray) : Row (fun _ => False) (w.alloc (.cells cs t)) (.slice (some ⟨w.heap.size, 0, none⟩) n n) xs := by
  subst hc hn
  have B := Blk.new w t xs.toArray
  refine .inr ⟨⟨w.heap.size, 0, none⟩, xs.length, rfl, .inr ⟨B.lt, id⟩, fun j u hj => ?_⟩
  rw [add0, B.cell j]
  simpa using hj
theorem rwc_lit (c : Cr) (w : World) : RwC (w.alloc (.cells (chA c) 39)) (.slice (some ⟨w.heap.size, 0, none⟩) 1 1) [c] := by
  have B := Blk.new w 39 (chA c)
  refine .inr ⟨⟨w.heap.size, 0, none⟩, 1, rfl, .inr ⟨B.lt, id⟩, fun i x hx j u hj => ?_⟩
  have hi : i = 0 := by
    have := (List.getElem?_eq_some_iff.1 hx).1
    simp at this
    exact this
  subst hi
  simp at hx
  subst hx
  rw [Nat.zero_mul, Nat.zero_add]
  exact B.lies j u (by simpa using hj)
theorem hd_m0 : mayC (mkL [97, 98, 99] [0, 1, 0]) 1 (List.replicate 3 0) = true := by decide +kernel
theorem hd_c0 : chn [⟨0, 0, 0, 0, 0, 0, 0, 0, 0⟩] z0 (mkL [97, 98, 99] [0, 1, 0]) (List.replicate 3 0) = [0, 0, 1] := by decide +kernel
theorem hd_m1 : mayC (mkL [97, 98, 99] [0, 1, 0]) 1 (List.replicate 3 0) = true := by decide +kernel
theorem hd_c1 : chn [⟨1, 0, 0, 0, 0, 0, 0, 0, 0⟩] z0 (mkL [97, 98, 99] [0, 1, 0]) (List.replicate 3 0) = [0, 0, 0] := by decide +kernel
theorem hd_m2 : mayC (mkL [97, 98, 99] [0, 0, 0]) 1 (List.replicate 3 0) = true := by decide +kernel
theorem hd_c2 : chn [⟨0, 0, 1, 0, 0, 0, 0, 0, 0⟩] z0 (mkL [97, 98, 99] [0, 0, 0]) (List.replicate 3 0) = [0, 2, 2] := by decide +kernel
theorem hd_m3 : mayC (mkL [97, 98] [0, 0]) 1 (List.replicate 2 0) = true := by decide +kernel
theorem hd_c3 : chn [⟨0, 1, 0, 0, 0, 0, 0, 0, 0⟩] z0 (mkL [97, 98] [0, 0]) (List.replicate 2 0) = [0, 1] := by decide +kernel
theorem hd_m4 : mayC (mkL [97, 98] [0, 0]) 1 (List.replicate 2 0) = true := by decide +kernel
theorem hd_c4 : chn [⟨0, 0, 0, 3, 0, 0, 0, 0, 0⟩] z0 (mkL [97, 98] [0, 0]) (List.replicate 2 0) = [0, 1] := by decide +kernel
theorem hd_m5 : mayC (mkL [19968, 20108] [0, 0]) 1 (List.replicate 2 0) = true := by decide +kernel
theorem hd_c5 : chn [⟨0, 0, 0, 0, 0, 0, 0, 0, 0⟩] z0 (mkL [19968, 20108] [0, 0]) (List.replicate 2 0) = [0, 1] := by decide +kernel
theorem hd_m6 : mayC (mkL [19968, 20108] [0, 0]) 1 (List.replicate 2 0) = true := by decide +kernel
theorem hd_c6 : chn [⟨0, 2, 0, 0, 0, 0, 0, 0, 0⟩] z0 (mkL [19968, 20108] [0, 0]) (List.replicate 2 0) = [0, 0] := by decide +kernel
theorem hd_m7 : mayC (mkL [32, 32, 97] [3, 3, 0]) 1 (List.replicate 3 0) = true := by decide +kernel
theorem hd_c7 : chn [⟨5, 0, 0, 0, 0, 0, 0, 0, 0⟩] z0 (mkL [32, 32, 97] [3, 3, 0]) (List.replicate 3 0) = [0, 1, 1] := by decide +kernel
theorem hd_m8 : mayC (mkL [97, 98, 99] [0, 5, 0]) 1 (List.replicate 3 0) = true := by decide +kernel
theorem hd_c8 : chn [⟨0, 0, 0, 0, 0, 0, 0, 0, 0⟩] z0 (mkL [97, 98, 99] [0, 5, 0]) (List.replicate 3 0) = [0, 0, 0] := by decide +kernel

/-- what an operation of head hands back -/
inductive Kt
  | val (v : Value)
  | r8 (l : List Int)
  | r32 (l : List Int)
def Kt.holds : Kt → Value → World → Prop
  | .val v, u, _ => u = v
  | .r8 l, u, W => R8 W u l
  | .r32 l, u, W => Row (fun _ => False) W u (l.map (Value.int .i32))
theorem Kt.below {k : Kt} {u : Value} {w w' : World} (h : k.holds u w) (b : Below w.heap.size w w') : k.holds u w' := by
  cases k with
  | val v => exact h
  | r8 l =>
    have h1 : R8 w u l := h
    exact Row.below h1 b
  | r32 l =>
    have h1 : Row (fun _ => False) w u (l.map (Value.int .i32)) := h
    exact Row.below h1 b
def ktH (w : World) (i : Nat) : Kt :=
  ([.val (.slice (some ⟨w.heap.size, 0, none⟩) 3 3),
    .val (.slice (some ⟨w.heap.size + 1 + 1, 0, none⟩) 3 3),
    .val (.agg (Sty.cells ⟨0, 0, 0, 0, 0, 0, 0, 0, 0⟩)),
    .r8 [0, 0, 1],
    .val (.bool true),
    .val (.bool true),
    .val (.slice (some ⟨w.heap.size, 0, none⟩) 3 3),
    .val (.slice (some ⟨w.heap.size + 1 + 1, 0, none⟩) 3 3),
    .val (.agg (Sty.cells ⟨1, 0, 0, 0, 0, 0, 0, 0, 0⟩)),
    .val (.slice (some ⟨w.heap.size + 1, 0, none⟩) 3 3),
    .val (.bool true),
    .val (.bool true),
    .val (.bool true),
    .val (.slice (some ⟨w.heap.size, 0, none⟩) 3 3),
    .val (.slice (some ⟨w.heap.size + 1, 0, none⟩) 3 3),
    .val (.agg (Sty.cells ⟨0, 0, 1, 0, 0, 0, 0, 0, 0⟩)),
    .r8 [0, 2, 2],
    .val (.bool true),
    .val (.bool true),
    .val (.bool true),
    .val (.slice (some ⟨w.heap.size, 0, none⟩) 3 3),
    .val (.slice (some ⟨w.heap.size, 0, none⟩) 2 3),
    .val (.slice (some ⟨w.heap.size + 1, 0, none⟩) 3 3),
    .val (.slice (some ⟨w.heap.size + 1, 0, none⟩) 2 3),
    .val (.agg (Sty.cells ⟨0, 1, 0, 0, 0, 0, 0, 0, 0⟩)),
    .r8 [0, 1],
    .val (.bool true),
    .val (.bool true),
    .val (.bool true),
    .val (.slice (some ⟨w.heap.size, 0, none⟩) 3 3),
    .val (.slice (some ⟨w.heap.size, 0, none⟩) 2 3),
    .val (.slice (some ⟨w.heap.size + 1, 0, none⟩) 3 3),
    .val (.slice (some ⟨w.heap.size + 1, 0, none⟩) 2 3),
    .val (.agg (Sty.cells ⟨0, 0, 0, 3, 0, 0, 0, 0, 0⟩)),
    .r8 [0, 1],
    .val (.bool true),
    .val (.bool true),
    .val (.bool true),
    .r32 [19968, 20108],
    .val (.slice (some ⟨w.heap.size + 1, 0, none⟩) 3 3),
    .val (.slice (some ⟨w.heap.size + 1, 0, none⟩) 2 3),
    .val (.agg (Sty.cells ⟨0, 0, 0, 0, 0, 0, 0, 0, 0⟩)),
    .r8 [0, 1],
    .val (.bool true),
    .val (.bool true),
    .val (.bool true),
    .r32 [19968, 20108],
    .val (.slice (some ⟨w.heap.size + 1, 0, none⟩) 3 3),
    .val (.slice (some ⟨w.heap.size + 1, 0, none⟩) 2 3),
    .val (.agg (Sty.cells ⟨0, 2, 0, 0, 0, 0, 0, 0, 0⟩)),
    .r8 [0, 0],
    .val (.bool true),
    .val (.bool true),
    .val (.bool true),
    .r32 [32, 32, 97],
    .r8 [3, 3, 0],
    .val (.agg (Sty.cells ⟨5, 0, 0, 0, 0, 0, 0, 0, 0⟩)),
    .r8 [0, 1, 1],
    .val (.bool true),
    .val (.bool true),
    .val (.bool true),
    .val (.slice (some ⟨w.heap.size, 0, none⟩) 3 3),
    .r8 [0, 5, 0],
    .val (.agg (Sty.cells ⟨0, 0, 0, 0, 0, 0, 0, 0, 0⟩)),
    .val (.slice (some ⟨w.heap.size + 1, 0, none⟩) 3 3),
    .val (.bool true),
    .val (.bool true),
    .val (.bool true),
    .val (.int .i64 2),
    .val (.bool true),
    .val (.bool true),
    .val (.bool true)] : List Kt).getD i (.val undef)

set_option maxRecDepth 100000 in
set_option maxHeartbeats 8000000 in
theorem chead_any (w : World) : Calls Try.prog 9 #[] w fun e w' => e = .returned (.bool true) ∧ Below w.heap.size w w' := by
  go_enter Try.func9, Try.ntmps9
  go_wp2_with fail
  obtain ⟨V1, e_V1⟩ : ∃ x, w.alloc (.cells #[.int .i32 97, .int .i32 98, .int .i32 99] 21) = x := ⟨_, rfl⟩
  have s_V1 : V1.heap.size = w.heap.size + 1 := by rw [← e_V1]; simp
  have b_V1 : Below w.heap.size w V1 := by rw [← e_V1]; exact below_alloc _ _
  have R1 := row_new w 21 3 #[.int .i32 97, .int .i32 98, .int .i32 99] ([97, 98, 99].map (Value.int .i32)) rfl rfl
  rw [e_V1] at R1
  rw [e_V1]
  clear e_V1
  have bel := b_V1
  obtain ⟨V2, e_V2⟩ : ∃ x, V1.alloc (.cells #[.int .u8 0, .int .u8 0, .int .u8 0] 5) = x := ⟨_, rfl⟩
  have s_V2 : V2.heap.size = V1.heap.size + 1 := by rw [← e_V2]; simp
  have b_V2 : Below V1.heap.size V1 V2 := by rw [← e_V2]; exact below_alloc _ _
  have K0 := row_new V1 5 3 #[.int .u8 0, .int .u8 0, .int .u8 0] ([0, 0, 0].map (Value.int .u8)) rfl rfl
  rw [e_V2] at K0
  rw [e_V2]
  clear e_V2
  have R1 := R1.below b_V2
  have bel := below_seq bel b_V2
  obtain ⟨V3, e_V3⟩ : ∃ x, V2.alloc (.cells #[.int .u8 0, .int .u8 1, .int .u8 0] 5) = x := ⟨_, rfl⟩
  have s_V3 : V3.heap.size = V2.heap.size + 1 := by rw [← e_V3]; simp
  have b_V3 : Below V2.heap.size V2 V3 := by rw [← e_V3]; exact below_alloc _ _
  have K1 := row_new V2 5 3 #[.int .u8 0, .int .u8 1, .int .u8 0] ([0, 1, 0].map (Value.int .u8)) rfl rfl
  rw [e_V3] at K1
  rw [e_V3]
  clear e_V3
  have R1 := R1.below b_V3
  have K0 := K0.below b_V3
  have bel := below_seq bel b_V3
  change Calls _ _ _ (((V3.alloc (.cells #[.int .i32 0, .int .i64 1, .int .i64 0, .int .i64 0, .int .u8 0] 39)).alloc (.cells #[.int .u8 0, .int .u8 0, .int .u8 0, .int .u8 0, .int .i64 0, .int .i64 0, .int .i64 0, .int .u8 0, .int .i64 0] 36)).alloc (.cells #[.int .i64 0] 3)) _
  obtain ⟨V4, e_V4⟩ : ∃ x, V3.alloc (.cells #[.int .i32 0, .int .i64 1, .int .i64 0, .int .i64 0, .int .u8 0] 39) = x := ⟨_, rfl⟩
  have s_V4 : V4.heap.size = V3.heap.size + 1 := by rw [← e_V4]; simp
  have b_V4 : Below V3.heap.size V3 V4 := by rw [← e_V4]; exact below_alloc _ _
  have RC : RwC V4 (.slice (some ⟨V3.heap.size, 0, none⟩) 1 1) [⟨0, 1, 0, 0, 0⟩] := by rw [← e_V4]; exact rwc_lit ⟨0, 1, 0, 0, 0⟩ V3
  rw [e_V4]
  clear e_V4
  have R1 := R1.below b_V4
  have K0 := K0.below b_V4
  have K1 := K1.below b_V4
  have bel := below_seq bel b_V4
  obtain ⟨V5, e_V5⟩ : ∃ x, V4.alloc (.cells #[.int .u8 0, .int .u8 0, .int .u8 0, .int .u8 0, .int .i64 0, .int .i64 0, .int .i64 0, .int .u8 0, .int .i64 0] 36) = x := ⟨_, rfl⟩
  have s_V5 : V5.heap.size = V4.heap.size + 1 := by rw [← e_V5]; simp
  have b_V5 : Below V4.heap.size V4 V5 := by rw [← e_V5]; exact below_alloc _ _
  have RS : Ss V5 (.slice (some ⟨V4.heap.size, 0, none⟩) 1 1) [Sty.zero] := by rw [← e_V5]; exact ss_lit Sty.zero V4
  rw [e_V5]
  clear e_V5
  have R1 := R1.below b_V5
  have K0 := K0.below b_V5
  have K1 := K1.below b_V5
  have RC := RC.below b_V5
  have bel := below_seq bel b_V5
  obtain ⟨V6, e_V6⟩ : ∃ x, V5.alloc (.cells #[.int .i64 0] 3) = x := ⟨_, rfl⟩
  have s_V6 : V6.heap.size = V5.heap.size + 1 := by rw [← e_V6]; simp
  have b_V6 : Below V5.heap.size V5 V6 := by rw [← e_V6]; exact below_alloc _ _
  have RZ := row_new V5 3 1 #[.int .i64 0] ([0].map (Value.int .i64)) rfl rfl
  rw [e_V6] at RZ
  rw [e_V6]
  clear e_V6
  have R1 := R1.below b_V6
  have K0 := K0.below b_V6
  have K1 := K1.below b_V6
  have RC := RC.below b_V6
  have RS := RS.below b_V6
  have bel := below_seq bel b_V6
  rw [s_V1] at K0
  rw [s_V2, s_V1] at K1
  rw [s_V3, s_V2, s_V1] at RC
  rw [s_V4, s_V3, s_V2, s_V1] at RS
  rw [s_V5, s_V4, s_V3, s_V2, s_V1] at RZ
  have R2 : Row (fun _ => False) V6 (.slice (some ⟨w.heap.size, 0, none⟩) 2 3) ([97, 98].map (Value.int .i32)) := row_take R1 2 (by decide)
  have KK : R8 V6 (.slice (some ⟨w.heap.size + 1, 0, none⟩) 2 3) [0, 0] := row_take K0 2 (by decide)
  refine (chances_no [Sty.zero] [⟨0, 1, 0, 0, 0⟩] [0] _ _ _ V6 RC RS RZ (by decide) (by decide +kernel)).mono ?_
  rintro e V7 ⟨rfl, b_V7⟩
  have R1 := R1.below b_V7
  have K0 := K0.below b_V7
  have K1 := K1.below b_V7
  have R2 := R2.below b_V7
  have KK := KK.below b_V7
  have bel := below_seq bel b_V7
  clear RC RS RZ b_V1 b_V2 b_V3 b_V4 b_V5 b_V6 b_V7 s_V1 s_V2 s_V3 s_V4 s_V5 s_V6
  have HR1 := Lib.hid R1
  have HR2 := Lib.hid R2
  have HK0 := Lib.hid K0
  have HK1 := Lib.hid K1
  have HKK := Lib.hid KK
  have HBEL := Lib.hid bel
  clear R1 R2 K0 K1 KK bel
  go_wp2_with fail
  simp only [List.append_eq, List.cons_append, List.nil_append]
  refine region_P2 (by kernel_rfl) (fun W => Below V7.heap.size V7 W) (fun _ _ h b => below_seq h b) (fun i u W => (ktH w i).holds u W) (fun _ _ _ _ h b => Kt.below h b) (below_drewN (Below.refl _ _) 1) (by kernel_rfl) (by kernel_rfl) (by kernel_rfl) (by kernel_rfl) ?step ?done
  case step =>
    intro us W hSW i o ho hD
    simp only [putAll, Act.put, List.setIfInBounds_toArray, List.set_cons_zero, List.set_cons_succ]
    match i, ho with
    | 0, ho =>
      simp only [List.getElem?_toArray, List.getElem?_cons_zero, Option.some.injEq] at ho
      subst ho
      exact .inl ⟨wanted_none rfl _, .inl ⟨.slice (some ⟨w.heap.size, 0, none⟩) 3 3, W, (by go_simp), Below.refl _ _, rfl⟩⟩
    | 1, ho =>
      simp only [List.getElem?_toArray, List.getElem?_cons_zero, List.getElem?_cons_succ, Option.some.injEq] at ho
      subst ho
      exact .inl ⟨wanted_none rfl _, .inl ⟨.slice (some ⟨w.heap.size + 1 + 1, 0, none⟩) 3 3, W, (by go_simp), Below.refl _ _, rfl⟩⟩
    | 2, ho =>
      simp only [List.getElem?_toArray, List.getElem?_cons_zero, List.getElem?_cons_succ, Option.some.injEq] at ho
      subst ho
      exact .inl ⟨wanted_none rfl _, .inl ⟨.agg (Sty.cells ⟨0, 0, 0, 0, 0, 0, 0, 0, 0⟩), W, (by kernel_rfl), Below.refl _ _, rfl⟩⟩
    | 3, ho =>
      simp only [List.getElem?_toArray, List.getElem?_cons_zero, List.getElem?_cons_succ, Option.some.injEq] at ho
      subst ho
      exact .inl ⟨wanted_none rfl _, .inl ⟨.slice (some ⟨W.heap.size, 0, none⟩) 3 3, W.alloc (.cells (r8 [0, 0, 1]).toArray 5), (by kernel_rfl), below_alloc _ _, r8_lit W [0, 0, 1] _ 3 _ rfl rfl⟩⟩
    | 4, ho =>
      simp only [List.getElem?_toArray, List.getElem?_cons_zero, List.getElem?_cons_succ, Option.some.injEq] at ho
      subst ho
      have h0 : us 0 = .slice (some ⟨w.heap.size, 0, none⟩) 3 3 := hD 0 (by kernel_rfl)
      have h1 : us 1 = .slice (some ⟨w.heap.size + 1 + 1, 0, none⟩) 3 3 := hD 1 (by kernel_rfl)
      have h2 : us 2 = .agg (Sty.cells ⟨0, 0, 0, 0, 0, 0, 0, 0, 0⟩) := hD 2 (by kernel_rfl)
      rw [h0, h1, h2]
      have g3 : R8 W (us 3) [0, 0, 1] := hD 3 (by kernel_rfl)
      generalize us 3 = x3 at g3 ⊢
      refine .inl ⟨wanted_none rfl _, .inr ⟨_, _, (by go_simp), (tells_any [97, 98, 99] [0, 1, 0] ⟨0, 0, 0, 0, 0, 0, 0, 0, 0⟩ [0, 0, 1] _ _ _ W (HR1.out.below hSW) (HK1.out.below hSW) g3 rfl (by decide) hd_m0 hd_c0).mono ?_⟩⟩
      rintro e W' ⟨rfl, b⟩
      exact ⟨_, rfl, b, rfl⟩
    | 5, ho =>
      simp only [List.getElem?_toArray, List.getElem?_cons_zero, List.getElem?_cons_succ, Option.some.injEq] at ho
      subst ho
      have h4 : us 4 = .bool true := hD 4 (by kernel_rfl)
      rw [h4]
      exact .inl ⟨wanted_none rfl _, .inl ⟨.bool true, W, (by go_simp), Below.refl _ _, rfl⟩⟩
    | 6, ho =>
      simp only [List.getElem?_toArray, List.getElem?_cons_zero, List.getElem?_cons_succ, Option.some.injEq] at ho
      subst ho
      have h5 : us 5 = .bool true := hD 5 (by kernel_rfl)
      rw [h5]
      exact .inl ⟨by kernel_rfl, .inl ⟨.slice (some ⟨w.heap.size, 0, none⟩) 3 3, W, (by go_simp), Below.refl _ _, rfl⟩⟩
    | 7, ho =>
      simp only [List.getElem?_toArray, List.getElem?_cons_zero, List.getElem?_cons_succ, Option.some.injEq] at ho
      subst ho
      have h5 : us 5 = .bool true := hD 5 (by kernel_rfl)
      rw [h5]
      exact .inl ⟨by kernel_rfl, .inl ⟨.slice (some ⟨w.heap.size + 1 + 1, 0, none⟩) 3 3, W, (by go_simp), Below.refl _ _, rfl⟩⟩
    | 8, ho =>
      simp only [List.getElem?_toArray, List.getElem?_cons_zero, List.getElem?_cons_succ, Option.some.injEq] at ho
      subst ho
      have h5 : us 5 = .bool true := hD 5 (by kernel_rfl)
      rw [h5]
      exact .inl ⟨by kernel_rfl, .inl ⟨.agg (Sty.cells ⟨1, 0, 0, 0, 0, 0, 0, 0, 0⟩), W, (by kernel_rfl), Below.refl _ _, rfl⟩⟩
    | 9, ho =>
      simp only [List.getElem?_toArray, List.getElem?_cons_zero, List.getElem?_cons_succ, Option.some.injEq] at ho
      subst ho
      have h5 : us 5 = .bool true := hD 5 (by kernel_rfl)
      rw [h5]
      exact .inl ⟨by kernel_rfl, .inl ⟨.slice (some ⟨w.heap.size + 1, 0, none⟩) 3 3, W, (by go_simp), Below.refl _ _, rfl⟩⟩
    | 10, ho =>
      simp only [List.getElem?_toArray, List.getElem?_cons_zero, List.getElem?_cons_succ, Option.some.injEq] at ho
      subst ho
      have h6 : us 6 = .slice (some ⟨w.heap.size, 0, none⟩) 3 3 := hD 6 (by kernel_rfl)
      have h7 : us 7 = .slice (some ⟨w.heap.size + 1 + 1, 0, none⟩) 3 3 := hD 7 (by kernel_rfl)
      have h8 : us 8 = .agg (Sty.cells ⟨1, 0, 0, 0, 0, 0, 0, 0, 0⟩) := hD 8 (by kernel_rfl)
      have h9 : us 9 = .slice (some ⟨w.heap.size + 1, 0, none⟩) 3 3 := hD 9 (by kernel_rfl)
      have h5 : us 5 = .bool true := hD 5 (by kernel_rfl)
      rw [h6, h7, h8, h9, h5]
      refine .inl ⟨by kernel_rfl, .inr ⟨_, _, (by go_simp), (tells_any [97, 98, 99] [0, 1, 0] ⟨1, 0, 0, 0, 0, 0, 0, 0, 0⟩ [0, 0, 0] _ _ _ W (HR1.out.below hSW) (HK1.out.below hSW) (HK0.out.below hSW) rfl (by decide) hd_m1 hd_c1).mono ?_⟩⟩
      rintro e W' ⟨rfl, b⟩
      exact ⟨_, rfl, b, rfl⟩
    | 11, ho =>
      simp only [List.getElem?_toArray, List.getElem?_cons_zero, List.getElem?_cons_succ, Option.some.injEq] at ho
      subst ho
      have h5 : us 5 = .bool true := hD 5 (by kernel_rfl)
      have h10 : us 10 = .bool true := hD 10 (by kernel_rfl)
      rw [h5, h10]
      exact .inl ⟨wanted_none rfl _, .inl ⟨.bool true, W, (by go_simp), Below.refl _ _, rfl⟩⟩
    | 12, ho =>
      simp only [List.getElem?_toArray, List.getElem?_cons_zero, List.getElem?_cons_succ, Option.some.injEq] at ho
      subst ho
      have h11 : us 11 = .bool true := hD 11 (by kernel_rfl)
      rw [h11]
      exact .inl ⟨wanted_none rfl _, .inl ⟨.bool true, W, (by go_simp), Below.refl _ _, rfl⟩⟩
    | 13, ho =>
      simp only [List.getElem?_toArray, List.getElem?_cons_zero, List.getElem?_cons_succ, Option.some.injEq] at ho
      subst ho
      have h12 : us 12 = .bool true := hD 12 (by kernel_rfl)
      rw [h12]
      exact .inl ⟨by kernel_rfl, .inl ⟨.slice (some ⟨w.heap.size, 0, none⟩) 3 3, W, (by go_simp), Below.refl _ _, rfl⟩⟩
    | 14, ho =>
      simp only [List.getElem?_toArray, List.getElem?_cons_zero, List.getElem?_cons_succ, Option.some.injEq] at ho
      subst ho
      have h12 : us 12 = .bool true := hD 12 (by kernel_rfl)
      rw [h12]
      exact .inl ⟨by kernel_rfl, .inl ⟨.slice (some ⟨w.heap.size + 1, 0, none⟩) 3 3, W, (by go_simp), Below.refl _ _, rfl⟩⟩
    | 15, ho =>
      simp only [List.getElem?_toArray, List.getElem?_cons_zero, List.getElem?_cons_succ, Option.some.injEq] at ho
      subst ho
      have h12 : us 12 = .bool true := hD 12 (by kernel_rfl)
      rw [h12]
      exact .inl ⟨by kernel_rfl, .inl ⟨.agg (Sty.cells ⟨0, 0, 1, 0, 0, 0, 0, 0, 0⟩), W, (by kernel_rfl), Below.refl _ _, rfl⟩⟩
    | 16, ho =>
      simp only [List.getElem?_toArray, List.getElem?_cons_zero, List.getElem?_cons_succ, Option.some.injEq] at ho
      subst ho
      have h12 : us 12 = .bool true := hD 12 (by kernel_rfl)
      rw [h12]
      exact .inl ⟨by kernel_rfl, .inl ⟨.slice (some ⟨W.heap.size, 0, none⟩) 3 3, W.alloc (.cells (r8 [0, 2, 2]).toArray 5), (by kernel_rfl), below_alloc _ _, r8_lit W [0, 2, 2] _ 3 _ rfl rfl⟩⟩
    | 17, ho =>
      simp only [List.getElem?_toArray, List.getElem?_cons_zero, List.getElem?_cons_succ, Option.some.injEq] at ho
      subst ho
      have h13 : us 13 = .slice (some ⟨w.heap.size, 0, none⟩) 3 3 := hD 13 (by kernel_rfl)
      have h14 : us 14 = .slice (some ⟨w.heap.size + 1, 0, none⟩) 3 3 := hD 14 (by kernel_rfl)
      have h15 : us 15 = .agg (Sty.cells ⟨0, 0, 1, 0, 0, 0, 0, 0, 0⟩) := hD 15 (by kernel_rfl)
      have h12 : us 12 = .bool true := hD 12 (by kernel_rfl)
      rw [h13, h14, h15, h12]
      have g16 : R8 W (us 16) [0, 2, 2] := hD 16 (by kernel_rfl)
      generalize us 16 = x16 at g16 ⊢
      refine .inl ⟨by kernel_rfl, .inr ⟨_, _, (by go_simp), (tells_any [97, 98, 99] [0, 0, 0] ⟨0, 0, 1, 0, 0, 0, 0, 0, 0⟩ [0, 2, 2] _ _ _ W (HR1.out.below hSW) (HK0.out.below hSW) g16 rfl (by decide) hd_m2 hd_c2).mono ?_⟩⟩
      rintro e W' ⟨rfl, b⟩
      exact ⟨_, rfl, b, rfl⟩
    | 18, ho =>
      simp only [List.getElem?_toArray, List.getElem?_cons_zero, List.getElem?_cons_succ, Option.some.injEq] at ho
      subst ho
      have h12 : us 12 = .bool true := hD 12 (by kernel_rfl)
      have h17 : us 17 = .bool true := hD 17 (by kernel_rfl)
      rw [h12, h17]
      exact .inl ⟨wanted_none rfl _, .inl ⟨.bool true, W, (by go_simp), Below.refl _ _, rfl⟩⟩
    | 19, ho =>
      simp only [List.getElem?_toArray, List.getElem?_cons_zero, List.getElem?_cons_succ, Option.some.injEq] at ho
      subst ho
      have h18 : us 18 = .bool true := hD 18 (by kernel_rfl)
      rw [h18]
      exact .inl ⟨wanted_none rfl _, .inl ⟨.bool true, W, (by go_simp), Below.refl _ _, rfl⟩⟩
    | 20, ho =>
      simp only [List.getElem?_toArray, List.getElem?_cons_zero, List.getElem?_cons_succ, Option.some.injEq] at ho
      subst ho
      have h19 : us 19 = .bool true := hD 19 (by kernel_rfl)
      rw [h19]
      exact .inl ⟨by kernel_rfl, .inl ⟨.slice (some ⟨w.heap.size, 0, none⟩) 3 3, W, (by go_simp), Below.refl _ _, rfl⟩⟩
    | 21, ho =>
      simp only [List.getElem?_toArray, List.getElem?_cons_zero, List.getElem?_cons_succ, Option.some.injEq] at ho
      subst ho
      have h20 : us 20 = .slice (some ⟨w.heap.size, 0, none⟩) 3 3 := hD 20 (by kernel_rfl)
      have h19 : us 19 = .bool true := hD 19 (by kernel_rfl)
      rw [h20, h19]
      exact .inl ⟨by kernel_rfl, .inl ⟨.slice (some ⟨w.heap.size, 0, none⟩) 2 3, W, (by go_simp), Below.refl _ _, rfl⟩⟩
    | 22, ho =>
      simp only [List.getElem?_toArray, List.getElem?_cons_zero, List.getElem?_cons_succ, Option.some.injEq] at ho
      subst ho
      have h19 : us 19 = .bool true := hD 19 (by kernel_rfl)
      rw [h19]
      exact .inl ⟨by kernel_rfl, .inl ⟨.slice (some ⟨w.heap.size + 1, 0, none⟩) 3 3, W, (by go_simp), Below.refl _ _, rfl⟩⟩
    | 23, ho =>
      simp only [List.getElem?_toArray, List.getElem?_cons_zero, List.getElem?_cons_succ, Option.some.injEq] at ho
      subst ho
      have h22 : us 22 = .slice (some ⟨w.heap.size + 1, 0, none⟩) 3 3 := hD 22 (by kernel_rfl)
      have h19 : us 19 = .bool true := hD 19 (by kernel_rfl)
      rw [h22, h19]
      exact .inl ⟨by kernel_rfl, .inl ⟨.slice (some ⟨w.heap.size + 1, 0, none⟩) 2 3, W, (by go_simp), Below.refl _ _, rfl⟩⟩
    | 24, ho =>
      simp only [List.getElem?_toArray, List.getElem?_cons_zero, List.getElem?_cons_succ, Option.some.injEq] at ho
      subst ho
      have h19 : us 19 = .bool true := hD 19 (by kernel_rfl)
      rw [h19]
      exact .inl ⟨by kernel_rfl, .inl ⟨.agg (Sty.cells ⟨0, 1, 0, 0, 0, 0, 0, 0, 0⟩), W, (by kernel_rfl), Below.refl _ _, rfl⟩⟩
    | 25, ho =>
      simp only [List.getElem?_toArray, List.getElem?_cons_zero, List.getElem?_cons_succ, Option.some.injEq] at ho
      subst ho
      have h19 : us 19 = .bool true := hD 19 (by kernel_rfl)
      rw [h19]
      exact .inl ⟨by kernel_rfl, .inl ⟨.slice (some ⟨W.heap.size, 0, none⟩) 2 2, W.alloc (.cells (r8 [0, 1]).toArray 5), (by kernel_rfl), below_alloc _ _, r8_lit W [0, 1] _ 2 _ rfl rfl⟩⟩
    | 26, ho =>
      simp only [List.getElem?_toArray, List.getElem?_cons_zero, List.getElem?_cons_succ, Option.some.injEq] at ho
      subst ho
      have h21 : us 21 = .slice (some ⟨w.heap.size, 0, none⟩) 2 3 := hD 21 (by kernel_rfl)
      have h23 : us 23 = .slice (some ⟨w.heap.size + 1, 0, none⟩) 2 3 := hD 23 (by kernel_rfl)
      have h24 : us 24 = .agg (Sty.cells ⟨0, 1, 0, 0, 0, 0, 0, 0, 0⟩) := hD 24 (by kernel_rfl)
      have h19 : us 19 = .bool true := hD 19 (by kernel_rfl)
      rw [h21, h23, h24, h19]
      have g25 : R8 W (us 25) [0, 1] := hD 25 (by kernel_rfl)
      generalize us 25 = x25 at g25 ⊢
      refine .inl ⟨by kernel_rfl, .inr ⟨_, _, (by go_simp), (tells_any [97, 98] [0, 0] ⟨0, 1, 0, 0, 0, 0, 0, 0, 0⟩ [0, 1] _ _ _ W (HR2.out.below hSW) (HKK.out.below hSW) g25 rfl (by decide) hd_m3 hd_c3).mono ?_⟩⟩
      rintro e W' ⟨rfl, b⟩
      exact ⟨_, rfl, b, rfl⟩
    | 27, ho =>
      simp only [List.getElem?_toArray, List.getElem?_cons_zero, List.getElem?_cons_succ, Option.some.injEq] at ho
      subst ho
      have h19 : us 19 = .bool true := hD 19 (by kernel_rfl)
      have h26 : us 26 = .bool true := hD 26 (by kernel_rfl)
      rw [h19, h26]
      exact .inl ⟨wanted_none rfl _, .inl ⟨.bool true, W, (by go_simp), Below.refl _ _, rfl⟩⟩
    | 28, ho =>
      simp only [List.getElem?_toArray, List.getElem?_cons_zero, List.getElem?_cons_succ, Option.some.injEq] at ho
      subst ho
      have h27 : us 27 = .bool true := hD 27 (by kernel_rfl)
      rw [h27]
      exact .inl ⟨wanted_none rfl _, .inl ⟨.bool true, W, (by go_simp), Below.refl _ _, rfl⟩⟩
    | 29, ho =>
      simp only [List.getElem?_toArray, List.getElem?_cons_zero, List.getElem?_cons_succ, Option.some.injEq] at ho
      subst ho
      have h28 : us 28 = .bool true := hD 28 (by kernel_rfl)
      rw [h28]
      exact .inl ⟨by kernel_rfl, .inl ⟨.slice (some ⟨w.heap.size, 0, none⟩) 3 3, W, (by go_simp), Below.refl _ _, rfl⟩⟩
    | 30, ho =>
      simp only [List.getElem?_toArray, List.getElem?_cons_zero, List.getElem?_cons_succ, Option.some.injEq] at ho
      subst ho
      have h29 : us 29 = .slice (some ⟨w.heap.size, 0, none⟩) 3 3 := hD 29 (by kernel_rfl)
      have h28 : us 28 = .bool true := hD 28 (by kernel_rfl)
      rw [h29, h28]
      exact .inl ⟨by kernel_rfl, .inl ⟨.slice (some ⟨w.heap.size, 0, none⟩) 2 3, W, (by go_simp), Below.refl _ _, rfl⟩⟩
    | 31, ho =>
      simp only [List.getElem?_toArray, List.getElem?_cons_zero, List.getElem?_cons_succ, Option.some.injEq] at ho
      subst ho
      have h28 : us 28 = .bool true := hD 28 (by kernel_rfl)
      rw [h28]
      exact .inl ⟨by kernel_rfl, .inl ⟨.slice (some ⟨w.heap.size + 1, 0, none⟩) 3 3, W, (by go_simp), Below.refl _ _, rfl⟩⟩
    | 32, ho =>
      simp only [List.getElem?_toArray, List.getElem?_cons_zero, List.getElem?_cons_succ, Option.some.injEq] at ho
      subst ho
      have h31 : us 31 = .slice (some ⟨w.heap.size + 1, 0, none⟩) 3 3 := hD 31 (by kernel_rfl)
      have h28 : us 28 = .bool true := hD 28 (by kernel_rfl)
      rw [h31, h28]
      exact .inl ⟨by kernel_rfl, .inl ⟨.slice (some ⟨w.heap.size + 1, 0, none⟩) 2 3, W, (by go_simp), Below.refl _ _, rfl⟩⟩
    | 33, ho =>
      simp only [List.getElem?_toArray, List.getElem?_cons_zero, List.getElem?_cons_succ, Option.some.injEq] at ho
      subst ho
      have h28 : us 28 = .bool true := hD 28 (by kernel_rfl)
      rw [h28]
      exact .inl ⟨by kernel_rfl, .inl ⟨.agg (Sty.cells ⟨0, 0, 0, 3, 0, 0, 0, 0, 0⟩), W, (by kernel_rfl), Below.refl _ _, rfl⟩⟩
    | 34, ho =>
      simp only [List.getElem?_toArray, List.getElem?_cons_zero, List.getElem?_cons_succ, Option.some.injEq] at ho
      subst ho
      have h28 : us 28 = .bool true := hD 28 (by kernel_rfl)
      rw [h28]
      exact .inl ⟨by kernel_rfl, .inl ⟨.slice (some ⟨W.heap.size, 0, none⟩) 2 2, W.alloc (.cells (r8 [0, 1]).toArray 5), (by kernel_rfl), below_alloc _ _, r8_lit W [0, 1] _ 2 _ rfl rfl⟩⟩
    | 35, ho =>
      simp only [List.getElem?_toArray, List.getElem?_cons_zero, List.getElem?_cons_succ, Option.some.injEq] at ho
      subst ho
      have h30 : us 30 = .slice (some ⟨w.heap.size, 0, none⟩) 2 3 := hD 30 (by kernel_rfl)
      have h32 : us 32 = .slice (some ⟨w.heap.size + 1, 0, none⟩) 2 3 := hD 32 (by kernel_rfl)
      have h33 : us 33 = .agg (Sty.cells ⟨0, 0, 0, 3, 0, 0, 0, 0, 0⟩) := hD 33 (by kernel_rfl)
      have h28 : us 28 = .bool true := hD 28 (by kernel_rfl)
      rw [h30, h32, h33, h28]
      have g34 : R8 W (us 34) [0, 1] := hD 34 (by kernel_rfl)
      generalize us 34 = x34 at g34 ⊢
      refine .inl ⟨by kernel_rfl, .inr ⟨_, _, (by go_simp), (tells_any [97, 98] [0, 0] ⟨0, 0, 0, 3, 0, 0, 0, 0, 0⟩ [0, 1] _ _ _ W (HR2.out.below hSW) (HKK.out.below hSW) g34 rfl (by decide) hd_m4 hd_c4).mono ?_⟩⟩
      rintro e W' ⟨rfl, b⟩
      exact ⟨_, rfl, b, rfl⟩
    | 36, ho =>
      simp only [List.getElem?_toArray, List.getElem?_cons_zero, List.getElem?_cons_succ, Option.some.injEq] at ho
      subst ho
      have h28 : us 28 = .bool true := hD 28 (by kernel_rfl)
      have h35 : us 35 = .bool true := hD 35 (by kernel_rfl)
      rw [h28, h35]
      exact .inl ⟨wanted_none rfl _, .inl ⟨.bool true, W, (by go_simp), Below.refl _ _, rfl⟩⟩
    | 37, ho =>
      simp only [List.getElem?_toArray, List.getElem?_cons_zero, List.getElem?_cons_succ, Option.some.injEq] at ho
      subst ho
      have h36 : us 36 = .bool true := hD 36 (by kernel_rfl)
      rw [h36]
      exact .inl ⟨wanted_none rfl _, .inl ⟨.bool true, W, (by go_simp), Below.refl _ _, rfl⟩⟩
    | 38, ho =>
      simp only [List.getElem?_toArray, List.getElem?_cons_zero, List.getElem?_cons_succ, Option.some.injEq] at ho
      subst ho
      have h37 : us 37 = .bool true := hD 37 (by kernel_rfl)
      rw [h37]
      exact .inl ⟨by kernel_rfl, .inl ⟨.slice (some ⟨W.heap.size, 0, none⟩) 2 2, W.alloc (.cells ([19968, 20108].map (Value.int .i32)).toArray 21), (by kernel_rfl), below_alloc _ _, row_new W _ 2 _ ([19968, 20108].map (Value.int .i32)) rfl rfl⟩⟩
    | 39, ho =>
      simp only [List.getElem?_toArray, List.getElem?_cons_zero, List.getElem?_cons_succ, Option.some.injEq] at ho
      subst ho
      have h37 : us 37 = .bool true := hD 37 (by kernel_rfl)
      rw [h37]
      exact .inl ⟨by kernel_rfl, .inl ⟨.slice (some ⟨w.heap.size + 1, 0, none⟩) 3 3, W, (by go_simp), Below.refl _ _, rfl⟩⟩
    | 40, ho =>
      simp only [List.getElem?_toArray, List.getElem?_cons_zero, List.getElem?_cons_succ, Option.some.injEq] at ho
      subst ho
      have h39 : us 39 = .slice (some ⟨w.heap.size + 1, 0, none⟩) 3 3 := hD 39 (by kernel_rfl)
      have h37 : us 37 = .bool true := hD 37 (by kernel_rfl)
      rw [h39, h37]
      exact .inl ⟨by kernel_rfl, .inl ⟨.slice (some ⟨w.heap.size + 1, 0, none⟩) 2 3, W, (by go_simp), Below.refl _ _, rfl⟩⟩
    | 41, ho =>
      simp only [List.getElem?_toArray, List.getElem?_cons_zero, List.getElem?_cons_succ, Option.some.injEq] at ho
      subst ho
      have h37 : us 37 = .bool true := hD 37 (by kernel_rfl)
      rw [h37]
      exact .inl ⟨by kernel_rfl, .inl ⟨.agg (Sty.cells ⟨0, 0, 0, 0, 0, 0, 0, 0, 0⟩), W, (by kernel_rfl), Below.refl _ _, rfl⟩⟩
    | 42, ho =>
      simp only [List.getElem?_toArray, List.getElem?_cons_zero, List.getElem?_cons_succ, Option.some.injEq] at ho
      subst ho
      have h37 : us 37 = .bool true := hD 37 (by kernel_rfl)
      rw [h37]
      exact .inl ⟨by kernel_rfl, .inl ⟨.slice (some ⟨W.heap.size, 0, none⟩) 2 2, W.alloc (.cells (r8 [0, 1]).toArray 5), (by kernel_rfl), below_alloc _ _, r8_lit W [0, 1] _ 2 _ rfl rfl⟩⟩
    | 43, ho =>
      simp only [List.getElem?_toArray, List.getElem?_cons_zero, List.getElem?_cons_succ, Option.some.injEq] at ho
      subst ho
      have h40 : us 40 = .slice (some ⟨w.heap.size + 1, 0, none⟩) 2 3 := hD 40 (by kernel_rfl)
      have h41 : us 41 = .agg (Sty.cells ⟨0, 0, 0, 0, 0, 0, 0, 0, 0⟩) := hD 41 (by kernel_rfl)
      have h37 : us 37 = .bool true := hD 37 (by kernel_rfl)
      rw [h40, h41, h37]
      have g38 : Row (fun _ => False) W (us 38) ([19968, 20108].map (Value.int .i32)) := hD 38 (by kernel_rfl)
      generalize us 38 = x38 at g38 ⊢
      have g42 : R8 W (us 42) [0, 1] := hD 42 (by kernel_rfl)
      generalize us 42 = x42 at g42 ⊢
      refine .inl ⟨by kernel_rfl, .inr ⟨_, _, (by go_simp), (tells_any [19968, 20108] [0, 0] ⟨0, 0, 0, 0, 0, 0, 0, 0, 0⟩ [0, 1] _ _ _ W g38 (HKK.out.below hSW) g42 rfl (by decide) hd_m5 hd_c5).mono ?_⟩⟩
      rintro e W' ⟨rfl, b⟩
      exact ⟨_, rfl, b, rfl⟩
    | 44, ho =>
      simp only [List.getElem?_toArray, List.getElem?_cons_zero, List.getElem?_cons_succ, Option.some.injEq] at ho
      subst ho
      have h37 : us 37 = .bool true := hD 37 (by kernel_rfl)
      have h43 : us 43 = .bool true := hD 43 (by kernel_rfl)
      rw [h37, h43]
      exact .inl ⟨wanted_none rfl _, .inl ⟨.bool true, W, (by go_simp), Below.refl _ _, rfl⟩⟩
    | 45, ho =>
      simp only [List.getElem?_toArray, List.getElem?_cons_zero, List.getElem?_cons_succ, Option.some.injEq] at ho
      subst ho
      have h44 : us 44 = .bool true := hD 44 (by kernel_rfl)
      rw [h44]
      exact .inl ⟨wanted_none rfl _, .inl ⟨.bool true, W, (by go_simp), Below.refl _ _, rfl⟩⟩
    | 46, ho =>
      simp only [List.getElem?_toArray, List.getElem?_cons_zero, List.getElem?_cons_succ, Option.some.injEq] at ho
      subst ho
      have h45 : us 45 = .bool true := hD 45 (by kernel_rfl)
      rw [h45]
      exact .inl ⟨by kernel_rfl, .inl ⟨.slice (some ⟨W.heap.size, 0, none⟩) 2 2, W.alloc (.cells ([19968, 20108].map (Value.int .i32)).toArray 21), (by kernel_rfl), below_alloc _ _, row_new W _ 2 _ ([19968, 20108].map (Value.int .i32)) rfl rfl⟩⟩
    | 47, ho =>
      simp only [List.getElem?_toArray, List.getElem?_cons_zero, List.getElem?_cons_succ, Option.some.injEq] at ho
      subst ho
      have h45 : us 45 = .bool true := hD 45 (by kernel_rfl)
      rw [h45]
      exact .inl ⟨by kernel_rfl, .inl ⟨.slice (some ⟨w.heap.size + 1, 0, none⟩) 3 3, W, (by go_simp), Below.refl _ _, rfl⟩⟩
    | 48, ho =>
      simp only [List.getElem?_toArray, List.getElem?_cons_zero, List.getElem?_cons_succ, Option.some.injEq] at ho
      subst ho
      have h47 : us 47 = .slice (some ⟨w.heap.size + 1, 0, none⟩) 3 3 := hD 47 (by kernel_rfl)
      have h45 : us 45 = .bool true := hD 45 (by kernel_rfl)
      rw [h47, h45]
      exact .inl ⟨by kernel_rfl, .inl ⟨.slice (some ⟨w.heap.size + 1, 0, none⟩) 2 3, W, (by go_simp), Below.refl _ _, rfl⟩⟩
    | 49, ho =>
      simp only [List.getElem?_toArray, List.getElem?_cons_zero, List.getElem?_cons_succ, Option.some.injEq] at ho
      subst ho
      have h45 : us 45 = .bool true := hD 45 (by kernel_rfl)
      rw [h45]
      exact .inl ⟨by kernel_rfl, .inl ⟨.agg (Sty.cells ⟨0, 2, 0, 0, 0, 0, 0, 0, 0⟩), W, (by kernel_rfl), Below.refl _ _, rfl⟩⟩
    | 50, ho =>
      simp only [List.getElem?_toArray, List.getElem?_cons_zero, List.getElem?_cons_succ, Option.some.injEq] at ho
      subst ho
      have h45 : us 45 = .bool true := hD 45 (by kernel_rfl)
      rw [h45]
      exact .inl ⟨by kernel_rfl, .inl ⟨.slice (some ⟨W.heap.size, 0, none⟩) 2 2, W.alloc (.cells (r8 [0, 0]).toArray 5), (by kernel_rfl), below_alloc _ _, r8_lit W [0, 0] _ 2 _ rfl rfl⟩⟩
    | 51, ho =>
      simp only [List.getElem?_toArray, List.getElem?_cons_zero, List.getElem?_cons_succ, Option.some.injEq] at ho
      subst ho
      have h48 : us 48 = .slice (some ⟨w.heap.size + 1, 0, none⟩) 2 3 := hD 48 (by kernel_rfl)
      have h49 : us 49 = .agg (Sty.cells ⟨0, 2, 0, 0, 0, 0, 0, 0, 0⟩) := hD 49 (by kernel_rfl)
      have h45 : us 45 = .bool true := hD 45 (by kernel_rfl)
      rw [h48, h49, h45]
      have g46 : Row (fun _ => False) W (us 46) ([19968, 20108].map (Value.int .i32)) := hD 46 (by kernel_rfl)
      generalize us 46 = x46 at g46 ⊢
      have g50 : R8 W (us 50) [0, 0] := hD 50 (by kernel_rfl)
      generalize us 50 = x50 at g50 ⊢
      refine .inl ⟨by kernel_rfl, .inr ⟨_, _, (by go_simp), (tells_any [19968, 20108] [0, 0] ⟨0, 2, 0, 0, 0, 0, 0, 0, 0⟩ [0, 0] _ _ _ W g46 (HKK.out.below hSW) g50 rfl (by decide) hd_m6 hd_c6).mono ?_⟩⟩
      rintro e W' ⟨rfl, b⟩
      exact ⟨_, rfl, b, rfl⟩
    | 52, ho =>
      simp only [List.getElem?_toArray, List.getElem?_cons_zero, List.getElem?_cons_succ, Option.some.injEq] at ho
      subst ho
      have h45 : us 45 = .bool true := hD 45 (by kernel_rfl)
      have h51 : us 51 = .bool true := hD 51 (by kernel_rfl)
      rw [h45, h51]
      exact .inl ⟨wanted_none rfl _, .inl ⟨.bool true, W, (by go_simp), Below.refl _ _, rfl⟩⟩
    | 53, ho =>
      simp only [List.getElem?_toArray, List.getElem?_cons_zero, List.getElem?_cons_succ, Option.some.injEq] at ho
      subst ho
      have h52 : us 52 = .bool true := hD 52 (by kernel_rfl)
      rw [h52]
      exact .inl ⟨wanted_none rfl _, .inl ⟨.bool true, W, (by go_simp), Below.refl _ _, rfl⟩⟩
    | 54, ho =>
      simp only [List.getElem?_toArray, List.getElem?_cons_zero, List.getElem?_cons_succ, Option.some.injEq] at ho
      subst ho
      have h53 : us 53 = .bool true := hD 53 (by kernel_rfl)
      rw [h53]
      exact .inl ⟨by kernel_rfl, .inl ⟨.slice (some ⟨W.heap.size, 0, none⟩) 3 3, W.alloc (.cells ([32, 32, 97].map (Value.int .i32)).toArray 21), (by kernel_rfl), below_alloc _ _, row_new W _ 3 _ ([32, 32, 97].map (Value.int .i32)) rfl rfl⟩⟩
    | 55, ho =>
      simp only [List.getElem?_toArray, List.getElem?_cons_zero, List.getElem?_cons_succ, Option.some.injEq] at ho
      subst ho
      have h53 : us 53 = .bool true := hD 53 (by kernel_rfl)
      rw [h53]
      exact .inl ⟨by kernel_rfl, .inl ⟨.slice (some ⟨W.heap.size, 0, none⟩) 3 3, W.alloc (.cells (r8 [3, 3, 0]).toArray 5), (by kernel_rfl), below_alloc _ _, r8_lit W [3, 3, 0] _ 3 _ rfl rfl⟩⟩
    | 56, ho =>
      simp only [List.getElem?_toArray, List.getElem?_cons_zero, List.getElem?_cons_succ, Option.some.injEq] at ho
      subst ho
      have h53 : us 53 = .bool true := hD 53 (by kernel_rfl)
      rw [h53]
      exact .inl ⟨by kernel_rfl, .inl ⟨.agg (Sty.cells ⟨5, 0, 0, 0, 0, 0, 0, 0, 0⟩), W, (by kernel_rfl), Below.refl _ _, rfl⟩⟩
    | 57, ho =>
      simp only [List.getElem?_toArray, List.getElem?_cons_zero, List.getElem?_cons_succ, Option.some.injEq] at ho
      subst ho
      have h53 : us 53 = .bool true := hD 53 (by kernel_rfl)
      rw [h53]
      exact .inl ⟨by kernel_rfl, .inl ⟨.slice (some ⟨W.heap.size, 0, none⟩) 3 3, W.alloc (.cells (r8 [0, 1, 1]).toArray 5), (by kernel_rfl), below_alloc _ _, r8_lit W [0, 1, 1] _ 3 _ rfl rfl⟩⟩
    | 58, ho =>
      simp only [List.getElem?_toArray, List.getElem?_cons_zero, List.getElem?_cons_succ, Option.some.injEq] at ho
      subst ho
      have h56 : us 56 = .agg (Sty.cells ⟨5, 0, 0, 0, 0, 0, 0, 0, 0⟩) := hD 56 (by kernel_rfl)
      have h53 : us 53 = .bool true := hD 53 (by kernel_rfl)
      rw [h56, h53]
      have g54 : Row (fun _ => False) W (us 54) ([32, 32, 97].map (Value.int .i32)) := hD 54 (by kernel_rfl)
      generalize us 54 = x54 at g54 ⊢
      have g55 : R8 W (us 55) [3, 3, 0] := hD 55 (by kernel_rfl)
      generalize us 55 = x55 at g55 ⊢
      have g57 : R8 W (us 57) [0, 1, 1] := hD 57 (by kernel_rfl)
      generalize us 57 = x57 at g57 ⊢
      refine .inl ⟨by kernel_rfl, .inr ⟨_, _, (by go_simp), (tells_any [32, 32, 97] [3, 3, 0] ⟨5, 0, 0, 0, 0, 0, 0, 0, 0⟩ [0, 1, 1] _ _ _ W g54 g55 g57 rfl (by decide) hd_m7 hd_c7).mono ?_⟩⟩
      rintro e W' ⟨rfl, b⟩
      exact ⟨_, rfl, b, rfl⟩
    | 59, ho =>
      simp only [List.getElem?_toArray, List.getElem?_cons_zero, List.getElem?_cons_succ, Option.some.injEq] at ho
      subst ho
      have h53 : us 53 = .bool true := hD 53 (by kernel_rfl)
      have h58 : us 58 = .bool true := hD 58 (by kernel_rfl)
      rw [h53, h58]
      exact .inl ⟨wanted_none rfl _, .inl ⟨.bool true, W, (by go_simp), Below.refl _ _, rfl⟩⟩
    | 60, ho =>
      simp only [List.getElem?_toArray, List.getElem?_cons_zero, List.getElem?_cons_succ, Option.some.injEq] at ho
      subst ho
      have h59 : us 59 = .bool true := hD 59 (by kernel_rfl)
      rw [h59]
      exact .inl ⟨wanted_none rfl _, .inl ⟨.bool true, W, (by go_simp), Below.refl _ _, rfl⟩⟩
    | 61, ho =>
      simp only [List.getElem?_toArray, List.getElem?_cons_zero, List.getElem?_cons_succ, Option.some.injEq] at ho
      subst ho
      have h60 : us 60 = .bool true := hD 60 (by kernel_rfl)
      rw [h60]
      exact .inl ⟨by kernel_rfl, .inl ⟨.slice (some ⟨w.heap.size, 0, none⟩) 3 3, W, (by go_simp), Below.refl _ _, rfl⟩⟩
    | 62, ho =>
      simp only [List.getElem?_toArray, List.getElem?_cons_zero, List.getElem?_cons_succ, Option.some.injEq] at ho
      subst ho
      have h60 : us 60 = .bool true := hD 60 (by kernel_rfl)
      rw [h60]
      exact .inl ⟨by kernel_rfl, .inl ⟨.slice (some ⟨W.heap.size, 0, none⟩) 3 3, W.alloc (.cells (r8 [0, 5, 0]).toArray 5), (by kernel_rfl), below_alloc _ _, r8_lit W [0, 5, 0] _ 3 _ rfl rfl⟩⟩
    | 63, ho =>
      simp only [List.getElem?_toArray, List.getElem?_cons_zero, List.getElem?_cons_succ, Option.some.injEq] at ho
      subst ho
      have h60 : us 60 = .bool true := hD 60 (by kernel_rfl)
      rw [h60]
      exact .inl ⟨by kernel_rfl, .inl ⟨.agg (Sty.cells ⟨0, 0, 0, 0, 0, 0, 0, 0, 0⟩), W, (by kernel_rfl), Below.refl _ _, rfl⟩⟩
    | 64, ho =>
      simp only [List.getElem?_toArray, List.getElem?_cons_zero, List.getElem?_cons_succ, Option.some.injEq] at ho
      subst ho
      have h60 : us 60 = .bool true := hD 60 (by kernel_rfl)
      rw [h60]
      exact .inl ⟨by kernel_rfl, .inl ⟨.slice (some ⟨w.heap.size + 1, 0, none⟩) 3 3, W, (by go_simp), Below.refl _ _, rfl⟩⟩
    | 65, ho =>
      simp only [List.getElem?_toArray, List.getElem?_cons_zero, List.getElem?_cons_succ, Option.some.injEq] at ho
      subst ho
      have h61 : us 61 = .slice (some ⟨w.heap.size, 0, none⟩) 3 3 := hD 61 (by kernel_rfl)
      have h63 : us 63 = .agg (Sty.cells ⟨0, 0, 0, 0, 0, 0, 0, 0, 0⟩) := hD 63 (by kernel_rfl)
      have h64 : us 64 = .slice (some ⟨w.heap.size + 1, 0, none⟩) 3 3 := hD 64 (by kernel_rfl)
      have h60 : us 60 = .bool true := hD 60 (by kernel_rfl)
      rw [h61, h63, h64, h60]
      have g62 : R8 W (us 62) [0, 5, 0] := hD 62 (by kernel_rfl)
      generalize us 62 = x62 at g62 ⊢
      refine .inl ⟨by kernel_rfl, .inr ⟨_, _, (by go_simp), (tells_any [97, 98, 99] [0, 5, 0] ⟨0, 0, 0, 0, 0, 0, 0, 0, 0⟩ [0, 0, 0] _ _ _ W (HR1.out.below hSW) g62 (HK0.out.below hSW) rfl (by decide) hd_m8 hd_c8).mono ?_⟩⟩
      rintro e W' ⟨rfl, b⟩
      exact ⟨_, rfl, b, rfl⟩
    | 66, ho =>
      simp only [List.getElem?_toArray, List.getElem?_cons_zero, List.getElem?_cons_succ, Option.some.injEq] at ho
      subst ho
      have h60 : us 60 = .bool true := hD 60 (by kernel_rfl)
      have h65 : us 65 = .bool true := hD 65 (by kernel_rfl)
      rw [h60, h65]
      exact .inl ⟨wanted_none rfl _, .inl ⟨.bool true, W, (by go_simp), Below.refl _ _, rfl⟩⟩
    | 67, ho =>
      simp only [List.getElem?_toArray, List.getElem?_cons_zero, List.getElem?_cons_succ, Option.some.injEq] at ho
      subst ho
      have h66 : us 66 = .bool true := hD 66 (by kernel_rfl)
      rw [h66]
      exact .inl ⟨wanted_none rfl _, .inl ⟨.bool true, W, (by go_simp), Below.refl _ _, rfl⟩⟩
    | 68, ho =>
      simp only [List.getElem?_toArray, List.getElem?_cons_zero, List.getElem?_cons_succ, Option.some.injEq] at ho
      subst ho
      have h67 : us 67 = .bool true := hD 67 (by kernel_rfl)
      rw [h67]
      exact .inl ⟨by kernel_rfl, .inl ⟨.int .i64 2, W, (by go_simp), Below.refl _ _, rfl⟩⟩
    | 69, ho =>
      simp only [List.getElem?_toArray, List.getElem?_cons_zero, List.getElem?_cons_succ, Option.some.injEq] at ho
      subst ho
      have h68 : us 68 = .int .i64 2 := hD 68 (by kernel_rfl)
      have h67 : us 67 = .bool true := hD 67 (by kernel_rfl)
      rw [h68, h67]
      exact .inl ⟨by kernel_rfl, .inl ⟨.bool true, W, (by go_simp), Below.refl _ _, rfl⟩⟩
    | 70, ho =>
      simp only [List.getElem?_toArray, List.getElem?_cons_zero, List.getElem?_cons_succ, Option.some.injEq] at ho
      subst ho
      have h67 : us 67 = .bool true := hD 67 (by kernel_rfl)
      have h69 : us 69 = .bool true := hD 69 (by kernel_rfl)
      rw [h67, h69]
      exact .inl ⟨wanted_none rfl _, .inl ⟨.bool true, W, (by go_simp), Below.refl _ _, rfl⟩⟩
    | 71, ho =>
      simp only [List.getElem?_toArray, List.getElem?_cons_zero, List.getElem?_cons_succ, Option.some.injEq] at ho
      subst ho
      have h70 : us 70 = .bool true := hD 70 (by kernel_rfl)
      rw [h70]
      exact .inl ⟨wanted_none rfl _, .inl ⟨.bool true, W, (by go_simp), Below.refl _ _, rfl⟩⟩
    | n + 72, ho => simp at ho
  case done =>
    intro us W hSW hD
    have h9 : us 71 = .bool true := hD 71 (by decide)
    simp only [putAll, Act.put, List.setIfInBounds_toArray, List.set_cons_zero, List.set_cons_succ]
    rw [h9]
    have bel2 := below_seq HBEL.out hSW
    go_wp2_with fail
    go_ret
    exact ⟨rfl, bel2⟩
end Go.Proofs.Ytnoenccpbbkdeaa
