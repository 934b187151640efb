/- The walk of PairSpaces: for every row and every number the law returns true. Conditions: the slice reads as the list, of numbers that are not negative, and is no longer than its memory. -/
import Derived.Test.YtijdippkkaigjaaPr21
import Derived.Test.YtijdippkkaigjaaPrApp
namespace Go.Proofs.Ytijdippkkaigjaa
open Go.ChangeShapes Go.WideShapes Go.ChangeAt Go.RowKit Go.Shelf
open Pr
theorem notQ {n : Nat} {f g : Nat → Bool} (h : ((List.range n).all fun i => !(f i && g i)) = true) : ∀ i, i < n → f i = true → g i = true → False := fun i hi h1 h2 => by
  have := List.all_eq_true.1 h i (List.mem_range.2 hi)
  rw [h1, h2] at this
  cases this
/-- what each operation of the region that puts one more in hands back -/
def tabM (v : Value) (k : Int) (va vb : Value) (LA LB : List Int) (m : Int) : Nat → Kq8
  | 0 => .emp
  | 1 => .val v
  | 2 => .val (.int .i64 k)
  | 3 => .val (.int .i64 (k + 1))
  | 4 => .val va
  | 5 => .own LA
  | 6 => .row [m]
  | 7 => .own (LA ++ [m])
  | 8 => .val v
  | 9 => .val (.int .i64 k)
  | 10 => .val (.int .i64 (k + 1))
  | 11 => .val vb
  | 12 => .own (LA ++ [m] ++ LB)
  | 13 => .own (LA ++ [m] ++ LB)
  | _ => .val undef
theorem more_is (l : List Int) (k : Nat) (m : Int) : l.take (k + 1) ++ [m] ++ l.drop (k + 1) = l.take (k + 1) ++ m :: l.drop (k + 1) := by simp
theorem sl8_hi (ad : Addr) (n cap k : Nat) (W : World) (h : k + 1 ≤ cap) : (Instr.slice 22 (.slice (some ad) n cap) none (some (.int .i64 ((k : Int) + 1))) none).run Try.prog W = .ok (.slice (some ad) (k + 1) cap) W := by
  have h1 : (k : Int) + 1 ≤ cap := by omega
  have h2 : (0 : Int) ≤ (k : Int) + 1 := by omega
  go_simp
theorem sl8_lo (ad : Addr) (n cap k : Nat) (W : World) (h : k + 1 ≤ n) : (Instr.slice 22 (.slice (some ad) n cap) (some (.int .i64 ((k : Int) + 1))) none none).run Try.prog W = .ok (fromV ad n cap (k + 1)) W := by
  have h1 : (k : Int) + 1 ≤ n := by omega
  have h2 : (0 : Int) ≤ (k : Int) + 1 := by omega
  unfold fromV
  go_simp
theorem sl8_lo2 (ad : Addr) (n cap k : Nat) (W : World) (h : k + 2 ≤ n) : (Instr.slice 22 (.slice (some ad) n cap) (some (.int .i64 ((k : Int) + 2))) none none).run Try.prog W = .ok (fromV ad n cap (k + 2)) W := by
  have h1 : (k : Int) + 2 ≤ n := by omega
  have h2 : (0 : Int) ≤ (k : Int) + 2 := by omega
  have h3 : ((k : Int) + 2).toNat = k + 2 := by omega
  unfold fromV
  go_simp
theorem sp_same {l : List Int} {k : Nat} (h : l[k]? = some 5) : rulesL (l.take (k + 1) ++ 5 :: l.drop (k + 1)) = (rulesL l).take (k + 1) ++ 7 :: (rulesL l).drop (k + 1) := by
  unfold rulesL
  rw [spaces h, List.map_append, List.map_cons, List.map_take, List.map_drop]

set_option maxRecDepth 100000 in
set_option maxHeartbeats 32000000 in
theorem lawSpaces_any (l : List Int) (v : Value) (M : Nat) (w : World) (R : R8 w v l) (hcap : Cap v) (h0 : ∀ c ∈ l, 0 ≤ c) (hM : M < 256) :
    Calls Try.prog 7 #[v, .int .u8 (M : Int)] w fun e w' => e = .returned (.bool true) ∧ Below w.heap.size w w' := by
  have H0 := Lib.hid h0
  have HCP := Lib.hid hcap
  obtain ⟨A, cap, rfl⟩ := R.form
  obtain ⟨n, hn⟩ : ∃ n, l.length = n := ⟨_, rfl⟩
  have HN := Lib.hid hn
  rw [r8_len, hn] at R HCP ⊢
  clear h0 hcap hn
  go_enter Try.func7, Try.ntmps7
  go_wp2_with fail
  refine (pgreat_any _ _ _ _).mono ?_
  rintro e w_0 ⟨rfl, rfl⟩
  by_cases hg : 120 < n
  · rw [decide_eq_true hg]
    go_wp2_with fail
    refine (phead_any _).mono ?_
    rintro e w_1 ⟨rfl, b⟩
    go_wp2_with fail
    go_ret
    exact ⟨rfl, b⟩
  have HL : Hid (l.length ≤ 120) := Lib.hid (by rw [HN.out]; omega)
  rw [decide_eq_false hg]
  by_cases hn0 : n = 0
  · have hnz : (n : Int) = 0 := by omega
    subst hn0
    clear R
    go_wp2_with fail
    refine (phead_any _).mono ?_
    rintro e w_9 ⟨rfl, bel⟩
    go_wp2_with fail
    go_ret
    exact ⟨rfl, bel⟩
  obtain ⟨k, hk⟩ : ∃ k : Nat, M % n = k := ⟨_, rfl⟩
  have hkn : k < n := by have := Nat.mod_lt M (show 0 < n by omega); omega
  have hkz : (M : Int) % (n : Int) = (k : Int) := by omega
  have hnz : ¬ (n : Int) = 0 := by omega
  have hnz2 : ((n : Int) == 0) = false := by simpa using hn0
  obtain ⟨ad, cap2, hv, _, _, hcell⟩ := R.at_ (by rw [r8_len, HN.out]; omega)
  obtain rfl : A = some ad := by injection hv
  have hcn := HCP.out.le
  obtain ⟨x, hx⟩ : ∃ x, l[k]? = some x := ⟨_, List.getElem?_eq_getElem (by rw [HN.out]; exact hkn)⟩
  have qk := hcell k _ (r8_at hx)
  have HX := Lib.hid hx
  have hknz : (k : Int) < n := by omega
  have hwr : IntKind.i64.wrap ((k : Int) + 1) = (k : Int) + 1 := IntWalk.i64_in _ (by omega)
  have hwr2 : IntKind.i64.wrap ((k : Int) + 2) = (k : Int) + 2 := IntWalk.i64_in _ (by omega)
  clear hv hk hcell hx
  by_cases h5 : x = 5
  rotate_left
  · go_wp2_with fail
    refine (phead_any _).mono ?_
    rintro e w_9 ⟨rfl, bel⟩
    go_wp2_with fail
    go_ret
    exact ⟨rfl, bel⟩
  subst h5
  go_wp2_with fail
  have hA : R8 w_0 (.slice (some ad) (k + 1) cap) (l.take (k + 1)) := by
    have := row_take R (k + 1) (by omega)
    rw [← r8_take] at this
    exact this
  have hB : R8 w_0 (fromV ad n cap (k + 1)) (l.drop (k + 1)) := by
    have := row_from R (by rw [r8_len]; exact HN.out) (k + 1) (by omega) hcn
    rw [← r8_drop] at this
    exact this
  obtain ⟨LA, hLA⟩ : ∃ x, l.take (k + 1) = x := ⟨_, rfl⟩
  obtain ⟨LB, hLB⟩ : ∃ x, l.drop (k + 1) = x := ⟨_, rfl⟩
  have HLA : Hid (LA.length ≤ 121) := Lib.hid (by rw [← hLA, List.length_take]; have := HL.out; omega)
  have HLB : Hid (LB.length ≤ 121) := Lib.hid (by rw [← hLB, List.length_drop]; have := HL.out; omega)
  rw [hLA] at hA
  rw [hLB] at hB
  have HMO : Hid (LA ++ [5] ++ LB = l.take (k + 1) ++ 5 :: l.drop (k + 1)) := Lib.hid (by rw [← hLA, ← hLB, more_is])
  have HRA : Hid (∀ W, Below w_0.heap.size w_0 W → R8 W (.slice (some ad) (k + 1) cap) LA) := Lib.hid fun W h => hA.below h
  have HRB : Hid (∀ W, Below w_0.heap.size w_0 W → R8 W (fromV ad n cap (k + 1)) LB) := Lib.hid fun W h => hB.below h
  have HR := Lib.hid R
  have bel := Below.refl w_0.heap.size w_0
  clear hA hB hLA hLB qk R
  go_wp2_with fail
  refine region_K (by kernel_rfl) (fun W => Below w_0.heap.size w_0 W) (fun i u W => (tabM (.slice (some ad) n cap) (k : Int) (.slice (some ad) (k + 1) cap) (fromV ad n cap (k + 1)) LA LB 5 i).holds w_0.heap.size u W) (killQ (tabM (.slice (some ad) n cap) (k : Int) (.slice (some ad) (k + 1) cap) (fromV ad n cap (k + 1)) LA LB 5) 7 12) (below_drewN (Below.refl _ _) 1) (by kernel_rfl) (by kernel_rfl) (by kernel_rfl) (by kernel_rfl) (by kernel_rfl) ?step ?done
  case step =>
    intro us W hSW i o ho hD
    have hBW : w_0.heap.size ≤ W.heap.size := hSW.size
    have KB : ∀ j u W W', (tabM (.slice (some ad) n cap) (k : Int) (.slice (some ad) (k + 1) cap) (fromV ad n cap (k + 1)) LA LB 5 j).holds w_0.heap.size u W → Below W.heap.size W W' → (tabM (.slice (some ad) n cap) (k : Int) (.slice (some ad) (k + 1) cap) (fromV ad n cap (k + 1)) LA LB 5 j).holds w_0.heap.size u W' := fun j u W W' h b => Kq8.below h b
    have KS : ∀ j u W W', (tabM (.slice (some ad) n cap) (k : Int) (.slice (some ad) (k + 1) cap) (fromV ad n cap (k + 1)) LA LB 5 j).holds w_0.heap.size u W → (tabM (.slice (some ad) n cap) (k : Int) (.slice (some ad) (k + 1) cap) (fromV ad n cap (k + 1)) LA LB 5 j).stable = true → (tabM (.slice (some ad) n cap) (k : Int) (.slice (some ad) (k + 1) cap) (fromV ad n cap (k + 1)) LA LB 5 j).holds w_0.heap.size u W' := fun j u W W' h b => Kq8.keep h b
    simp only [putAll, Act.put, List.setIfInBounds_toArray, List.set_cons_zero, List.set_cons_succ]
    match i, ho with
    | 0, ho =>
      simp only [List.getElem?_toArray, List.getElem?_cons_zero, Option.some.injEq] at ho
      subst ho
      exact .inl ⟨wanted_none rfl _, .inl ⟨.slice (some ⟨W.heap.size, 0, none⟩) 0 0, W.alloc (.cells #[] 5), (by kernel_rfl), below_seq hSW (below_alloc _ _), ⟨⟨_, rfl⟩, own8_none _ W hBW⟩, fun j _ _ h => KB j _ _ _ h (below_alloc _ _)⟩⟩
    | 1, ho =>
      simp only [List.getElem?_toArray, List.getElem?_cons_zero, List.getElem?_cons_succ, Option.some.injEq] at ho
      subst ho
      exact .inl ⟨wanted_none rfl _, .inl ⟨.slice (some ad) n cap, W, (by go_simp), hSW, rfl, fun j _ _ h => h⟩⟩
    | 2, ho =>
      simp only [List.getElem?_toArray, List.getElem?_cons_zero, List.getElem?_cons_succ, Option.some.injEq] at ho
      subst ho
      exact .inl ⟨wanted_none rfl _, .inl ⟨.int .i64 (k : Int), W, (by go_simp), hSW, rfl, fun j _ _ h => h⟩⟩
    | 3, ho =>
      simp only [List.getElem?_toArray, List.getElem?_cons_zero, List.getElem?_cons_succ, Option.some.injEq] at ho
      subst ho
      have h2 : us 2 = .int .i64 (k : Int) := hD 2 (by kernel_rfl)
      rw [h2]
      exact .inl ⟨wanted_none rfl _, .inl ⟨.int .i64 ((k : Int) + 1), W, (by go_simp), hSW, rfl, fun j _ _ h => h⟩⟩
    | 4, ho =>
      simp only [List.getElem?_toArray, List.getElem?_cons_zero, List.getElem?_cons_succ, Option.some.injEq] at ho
      subst ho
      have h1 : us 1 = .slice (some ad) n cap := hD 1 (by kernel_rfl)
      have h3 : us 3 = .int .i64 ((k : Int) + 1) := hD 3 (by kernel_rfl)
      rw [h1, h3]
      have hsl := sl_hi ad n cap k W (by omega)
      exact .inl ⟨wanted_none rfl _, .inl ⟨.slice (some ad) (k + 1) cap, W, (by go_simp), hSW, rfl, fun j _ _ h => h⟩⟩
    | 5, ho =>
      simp only [List.getElem?_toArray, List.getElem?_cons_zero, List.getElem?_cons_succ, Option.some.injEq] at ho
      subst ho
      have hE : (∃ g, us 0 = .slice (some ⟨g, 0, none⟩) 0 0) ∧ own8 w_0.heap.size W (us 0) [] := hD 0 (by kernel_rfl)
      have h4 : us 4 = .slice (some ad) (k + 1) cap := hD 4 (by kernel_rfl)
      have hRX : R8 W (us 4) LA := by rw [h4]; exact HRA.out W hSW
      obtain ⟨u, W2, hr, hO, b⟩ := app8_0 hE.1 hE.2 hRX hBW (by have := HLA.out; omega) 22
      exact .inl ⟨wanted_none rfl _, .inl ⟨u, W2, run_op_of8 (.tmp 33) (.tmp 37) rfl rfl rfl hr, below_seq hSW b, hO, fun j _ _ h => KB j _ _ _ h b⟩⟩
    | 6, ho =>
      simp only [List.getElem?_toArray, List.getElem?_cons_zero, List.getElem?_cons_succ, Option.some.injEq] at ho
      subst ho
      exact .inl ⟨wanted_none rfl _, .inl ⟨.slice (some ⟨W.heap.size, 0, none⟩) 1 1, W.alloc (.cells (r8 [5]).toArray 5), (by kernel_rfl), below_seq hSW (below_alloc _ _), r8_lit W [5] _ 1 _ rfl rfl, fun j _ _ h => KB j _ _ _ h (below_alloc _ _)⟩⟩
    | 7, ho =>
      simp only [List.getElem?_toArray, List.getElem?_cons_zero, List.getElem?_cons_succ, Option.some.injEq] at ho
      subst ho
      have hO : own8 w_0.heap.size W (us 5) (LA) := hD 5 (by kernel_rfl)
      have hRX : R8 W (us 6) [5] := hD 6 (by kernel_rfl)
      obtain ⟨u, W2, hr, hO2, b⟩ := app8 hO hRX hBW (by have h1 := HLA.out; have h2 := HLB.out; simp; omega) 22
      exact .inl ⟨wanted_none rfl _, .inl ⟨u, W2, run_op_of8 (.tmp 38) (.tmp 39) rfl rfl rfl hr, hSW.trans (b.mono (Nat.le_refl _)), hO2, fun j hj hk h => KS j _ _ _ h (killQ.keep hk rfl hj)⟩⟩
    | 8, ho =>
      simp only [List.getElem?_toArray, List.getElem?_cons_zero, List.getElem?_cons_succ, Option.some.injEq] at ho
      subst ho
      exact .inl ⟨wanted_none rfl _, .inl ⟨.slice (some ad) n cap, W, (by go_simp), hSW, rfl, fun j _ _ h => h⟩⟩
    | 9, ho =>
      simp only [List.getElem?_toArray, List.getElem?_cons_zero, List.getElem?_cons_succ, Option.some.injEq] at ho
      subst ho
      exact .inl ⟨wanted_none rfl _, .inl ⟨.int .i64 (k : Int), W, (by go_simp), hSW, rfl, fun j _ _ h => h⟩⟩
    | 10, ho =>
      simp only [List.getElem?_toArray, List.getElem?_cons_zero, List.getElem?_cons_succ, Option.some.injEq] at ho
      subst ho
      have h9 : us 9 = .int .i64 (k : Int) := hD 9 (by kernel_rfl)
      rw [h9]
      exact .inl ⟨wanted_none rfl _, .inl ⟨.int .i64 ((k : Int) + 1), W, (by go_simp), hSW, rfl, fun j _ _ h => h⟩⟩
    | 11, ho =>
      simp only [List.getElem?_toArray, List.getElem?_cons_zero, List.getElem?_cons_succ, Option.some.injEq] at ho
      subst ho
      have h8 : us 8 = .slice (some ad) n cap := hD 8 (by kernel_rfl)
      have h10 : us 10 = .int .i64 ((k : Int) + 1) := hD 10 (by kernel_rfl)
      rw [h8, h10]
      have hsl := sl_lo ad n cap k W (by omega)
      exact .inl ⟨wanted_none rfl _, .inl ⟨fromV ad n cap (k + 1), W, (by go_simp), hSW, rfl, fun j _ _ h => h⟩⟩
    | 12, ho =>
      simp only [List.getElem?_toArray, List.getElem?_cons_zero, List.getElem?_cons_succ, Option.some.injEq] at ho
      subst ho
      have hO : own8 w_0.heap.size W (us 7) (LA ++ [5]) := hD 7 (by kernel_rfl)
      have h11 : us 11 = fromV ad n cap (k + 1) := hD 11 (by kernel_rfl)
      have hRX : R8 W (us 11) LB := by rw [h11]; exact HRB.out W hSW
      obtain ⟨u, W2, hr, hO2, b⟩ := app8 hO hRX hBW (by have h1 := HLA.out; have h2 := HLB.out; simp; omega) 22
      exact .inl ⟨wanted_none rfl _, .inl ⟨u, W2, run_op_of8 (.tmp 40) (.tmp 44) rfl rfl rfl hr, hSW.trans (b.mono (Nat.le_refl _)), hO2, fun j hj hk h => KS j _ _ _ h (killQ.keep hk rfl hj)⟩⟩
    | 13, ho =>
      simp only [List.getElem?_toArray, List.getElem?_cons_zero, List.getElem?_cons_succ, Option.some.injEq] at ho
      subst ho
      have hO : own8 w_0.heap.size W (us 12) (LA ++ [5] ++ LB) := hD 12 (by kernel_rfl)
      exact .inl ⟨wanted_none rfl _, .inl ⟨us 12, W, (by go_simp), hSW, hO, fun j _ _ h => h⟩⟩
    | n + 14, ho => simp at ho
  case done =>
    intro us W hSW hD
    have hO : own8 w_0.heap.size W (us 13) (LA ++ [5] ++ LB) := hD 13 (by decide) (fun i hi h1 h2 => by revert h1 h2; revert hi; revert i; exact notQ (by kernel_rfl))
    simp only [putAll, Act.put, List.setIfInBounds_toArray, List.set_cons_zero, List.set_cons_succ]
    generalize us 13 = u6 at hO ⊢
    generalize us 0 = z0, us 1 = z1, us 2 = z2, us 3 = z3, us 4 = z4, us 5 = z5, us 6 = z6, us 7 = z7, us 8 = z8, us 9 = z9, us 10 = z10, us 11 = z11, us 12 = z12
    have L6 := hO.row
    have bel := below_seq bel hSW
    obtain ⟨ll, hll⟩ : ∃ x, LA ++ [5] ++ LB = x := ⟨_, rfl⟩
    have HLL : Hid (ll.length = n + 1) := Lib.hid (by rw [← hll, HMO.out, List.length_append, List.length_cons, List.length_take, List.length_drop, HN.out]; omega)
    have HQ : Hid (∀ c ∈ ll, 0 ≤ c) := Lib.hid (by
      rw [← hll, HMO.out]
      intro c hc
      rw [List.mem_append, List.mem_cons] at hc
      rcases hc with hc | rfl | hc
      · exact H0.out c (List.mem_of_mem_take hc)
      · decide
      · exact H0.out c (List.mem_of_mem_drop hc))
    have HMO2 : Hid (ll = l.take (k + 1) ++ 5 :: l.drop (k + 1)) := Lib.hid (by rw [← hll, HMO.out])
    have HC6 := Lib.hid hO.cap
    rw [hll] at L6
    have R := HR.out.below hSW
    have HN120 : Hid (n ≤ 120) := Lib.hid (by omega)
    clear hll hO hSW HRA HRB HMO hD HLA HLB HR
    obtain ⟨A6, c6, hu6⟩ := L6.form
    rw [r8_len, HLL.out] at hu6
    subst hu6
    go_wp2_with fail
    refine (pRulesG_any l _ _ R (by have := HL.out; omega) H0.out).mono ?_
    rintro e w_21 ⟨G1, rfl, S1, d21⟩
    have R := R.below d21
    have L6 := L6.below d21
    have bel := below_seq bel d21
    rw [HN.out] at S1 ⊢
    go_wp2_with fail
    refine (pRulesG_any ll _ _ L6 (by rw [HLL.out]; have := HN120.out; omega) HQ.out).mono ?_
    rintro e w_22 ⟨G2, rfl, S2, d22⟩
    have R := R.below d22
    have L6 := L6.below d22
    have S1 := S1.below d22
    have bel := below_seq bel d22
    rw [HLL.out] at S2 ⊢
    have HE : Hid (rulesL ll = (rulesL l).take (k + 1) ++ 7 :: (rulesL l).drop (k + 1)) := Lib.hid (by rw [HMO2.out]; exact sp_same HX.out)
    have hlt : ((rulesL l).take (k + 1)).length = k + 1 := by rw [List.length_take, rulesL_len, HN.out]; omega
    obtain ⟨aq, cq, hvq, _, _, hcq⟩ := S2.at_ (by rw [r8_len, rulesL_len, HLL.out]; omega)
    obtain rfl : (⟨G2, 0, none⟩ : Addr) = aq := by injection hvq with e; injection e
    have q7 := hcq (k + 1) _ (r8_at (show (rulesL ll)[k + 1]? = some (7) by rw [HE.out, List.getElem?_append_right (by omega), hlt, Nat.sub_self]; rfl))
    rw [Addr.add_lit, Nat.zero_add] at q7
    have T1 := row_take S1 (k + 1) (by omega)
    have T2 := row_take S2 (k + 1) (by omega)
    have T3 := row_from S1 (by rw [r8_len, rulesL_len, HN.out]) (k + 1) (by omega) (Nat.le_refl _)
    have T4 := row_from S2 (by rw [r8_len, rulesL_len, HLL.out]) (k + 2) (by omega) (Nat.le_refl _)
    rw [← r8_take] at T1 T2
    rw [← r8_drop] at T3 T4
    have EA : (rulesL ll).take (k + 1) = (rulesL l).take (k + 1) := by rw [HE.out, List.take_append_of_le_length (by omega), List.take_of_length_le (by omega)]
    have EB : (rulesL ll).drop (k + 2) = (rulesL l).drop (k + 1) := by rw [HE.out, show k + 2 = (k + 1) + 1 by omega, ← List.drop_drop, List.drop_left' hlt]; rfl
    have HSA : Hid (∀ W, Below w_22.heap.size w_22 W → Calls Try.prog 12 #[.slice (some ⟨G2, 0, none⟩) (k + 1) (n + 1), .slice (some ⟨G1, 0, none⟩) (k + 1) n] W fun e W' => e = .returned (.bool true) ∧ Below W.heap.size W W') := Lib.hid fun W h => psame8_is _ _ _ _ W (T2.below h) (T1.below h) EA (by rw [List.length_take, rulesL_len, HLL.out]; have := HN120.out; omega)
    have HSB : Hid (∀ W, Below w_22.heap.size w_22 W → Calls Try.prog 12 #[fromV ⟨G2, 0, none⟩ (n + 1) (n + 1) (k + 2), fromV ⟨G1, 0, none⟩ n n (k + 1)] W fun e W' => e = .returned (.bool true) ∧ Below W.heap.size W W') := Lib.hid fun W h => psame8_is _ _ _ _ W (T4.below h) (T3.below h) EB (by rw [List.length_drop, rulesL_len, HLL.out]; have := HN120.out; omega)
    have hk1z : (k : Int) + 1 < (n : Int) + 1 := by omega
    clear hvq hcq T1 T2 T3 T4 EA EB S1 S2 HE hlt R L6
    go_wp2_with fail
    refine region_go (by kernel_rfl) (fun R hR => ?_)
    refine AllS.take (i := 0) (v := ?_) (by rw [List.getElem?_toArray]; rfl) (by kernel_rfl) (by kernel_rfl) (by kernel_rfl) (KeepsIf.read (by rfl) ?_) ?_
    rotate_left
    · intro W hSw
      (try dsimp only at hSw)
      go_simp
      (try with_reducible rfl)
    rotate_left
    (try simp only [Act.put, List.setIfInBounds_toArray, List.set_cons_zero, List.set_cons_succ])
    refine AllS.take (i := 1) (v := ?_) (by rw [List.getElem?_toArray]; rfl) (by kernel_rfl) (by kernel_rfl) (by kernel_rfl) (KeepsIf.read (by rfl) ?_) ?_
    rotate_left
    · intro W hSw
      (try dsimp only at hSw)
      go_simp
      (try with_reducible rfl)
    rotate_left
    (try simp only [Act.put, List.setIfInBounds_toArray, List.set_cons_zero, List.set_cons_succ])
    refine AllS.take (i := 2) (v := ?_) (by rw [List.getElem?_toArray]; rfl) (by kernel_rfl) (by kernel_rfl) (by kernel_rfl) (KeepsIf.read (by rfl) ?_) ?_
    rotate_left
    · intro W hSw
      (try dsimp only at hSw)
      go_simp
      (try with_reducible rfl)
    rotate_left
    (try simp only [Act.put, List.setIfInBounds_toArray, List.set_cons_zero, List.set_cons_succ])
    refine AllS.take (i := 3) (v := .slice (some ⟨G2, 0, none⟩) (k + 1) (n + 1)) (by rw [List.getElem?_toArray]; rfl) (by kernel_rfl) (by kernel_rfl) (by kernel_rfl) (KeepsIf.read (by rfl) (fun W hSw => ?_)) ?_
    · (try dsimp only at hSw)
      have hsl := sl8_hi ⟨G2, 0, none⟩ (n + 1) (n + 1) k W (by omega); go_simp
    (try simp only [Act.put, List.setIfInBounds_toArray, List.set_cons_zero, List.set_cons_succ])
    refine AllS.take (i := 4) (v := ?_) (by rw [List.getElem?_toArray]; rfl) (by kernel_rfl) (by kernel_rfl) (by kernel_rfl) (KeepsIf.read (by rfl) ?_) ?_
    rotate_left
    · intro W hSw
      (try dsimp only at hSw)
      go_simp
      (try with_reducible rfl)
    rotate_left
    (try simp only [Act.put, List.setIfInBounds_toArray, List.set_cons_zero, List.set_cons_succ])
    refine AllS.take (i := 5) (v := ?_) (by rw [List.getElem?_toArray]; rfl) (by kernel_rfl) (by kernel_rfl) (by kernel_rfl) (KeepsIf.read (by rfl) ?_) ?_
    rotate_left
    · intro W hSw
      (try dsimp only at hSw)
      go_simp
      (try with_reducible rfl)
    rotate_left
    (try simp only [Act.put, List.setIfInBounds_toArray, List.set_cons_zero, List.set_cons_succ])
    refine AllS.take (i := 6) (v := ?_) (by rw [List.getElem?_toArray]; rfl) (by kernel_rfl) (by kernel_rfl) (by kernel_rfl) (KeepsIf.read (by rfl) ?_) ?_
    rotate_left
    · intro W hSw
      (try dsimp only at hSw)
      go_simp
      (try with_reducible rfl)
    rotate_left
    (try simp only [Act.put, List.setIfInBounds_toArray, List.set_cons_zero, List.set_cons_succ])
    refine AllS.take (i := 7) (v := .slice (some ⟨G1, 0, none⟩) (k + 1) n) (by rw [List.getElem?_toArray]; rfl) (by kernel_rfl) (by kernel_rfl) (by kernel_rfl) (KeepsIf.read (by rfl) (fun W hSw => ?_)) ?_
    · (try dsimp only at hSw)
      have hsl := sl8_hi ⟨G1, 0, none⟩ n n k W (by omega); go_simp
    (try simp only [Act.put, List.setIfInBounds_toArray, List.set_cons_zero, List.set_cons_succ])
    refine AllS.take (i := 8) (v := .bool true) (by rw [List.getElem?_toArray]; rfl) (by kernel_rfl) (by kernel_rfl) (by kernel_rfl) (KeepsIf.call 12 #[.slice (some ⟨G2, 0, none⟩) (k + 1) (n + 1), .slice (some ⟨G1, 0, none⟩) (k + 1) n] (by kernel_rfl) (fun W => ?_) (fun W hSw => ?_)) ?_
    · go_simp
    · exact (HSA.out W hSw).mono (fun e w' h => ⟨h.1, below_seq hSw h.2⟩)
    (try simp only [Act.put, List.setIfInBounds_toArray, List.set_cons_zero, List.set_cons_succ])
    refine AllS.take (i := 9) (v := ?_) (by rw [List.getElem?_toArray]; rfl) (by kernel_rfl) (by kernel_rfl) (by kernel_rfl) (KeepsIf.read (by rfl) ?_) ?_
    rotate_left
    · intro W hSw
      (try dsimp only at hSw)
      go_simp
      (try with_reducible rfl)
    rotate_left
    (try simp only [Act.put, List.setIfInBounds_toArray, List.set_cons_zero, List.set_cons_succ])
    refine AllS.take (i := 10) (v := ?_) (by rw [List.getElem?_toArray]; rfl) (by kernel_rfl) (by kernel_rfl) (by kernel_rfl) (KeepsIf.read (by rfl) ?_) ?_
    rotate_left
    · intro W hSw
      (try dsimp only at hSw)
      go_simp
      (try with_reducible rfl)
    rotate_left
    (try simp only [Act.put, List.setIfInBounds_toArray, List.set_cons_zero, List.set_cons_succ])
    refine AllS.take (i := 11) (v := ?_) (by rw [List.getElem?_toArray]; rfl) (by kernel_rfl) (by kernel_rfl) (by kernel_rfl) (KeepsIf.read (by rfl) ?_) ?_
    rotate_left
    · intro W hSw
      (try dsimp only at hSw)
      go_simp
      (try with_reducible rfl)
    rotate_left
    (try simp only [Act.put, List.setIfInBounds_toArray, List.set_cons_zero, List.set_cons_succ])
    refine AllS.take (i := 12) (v := ?_) (by rw [List.getElem?_toArray]; rfl) (by kernel_rfl) (by kernel_rfl) (by kernel_rfl) (KeepsIf.read (by rfl) ?_) ?_
    rotate_left
    · intro W hSw
      (try dsimp only at hSw)
      go_simp
      (try with_reducible rfl)
    rotate_left
    (try simp only [Act.put, List.setIfInBounds_toArray, List.set_cons_zero, List.set_cons_succ])
    refine AllS.take (i := 13) (v := fromV ⟨G2, 0, none⟩ (n + 1) (n + 1) (k + 2)) (by rw [List.getElem?_toArray]; rfl) (by kernel_rfl) (by kernel_rfl) (by kernel_rfl) (KeepsIf.read (by rfl) (fun W hSw => ?_)) ?_
    · (try dsimp only at hSw)
      have hsl := sl8_lo2 ⟨G2, 0, none⟩ (n + 1) (n + 1) k W (by omega); go_simp
    (try simp only [Act.put, List.setIfInBounds_toArray, List.set_cons_zero, List.set_cons_succ])
    refine AllS.take (i := 14) (v := ?_) (by rw [List.getElem?_toArray]; rfl) (by kernel_rfl) (by kernel_rfl) (by kernel_rfl) (KeepsIf.read (by rfl) ?_) ?_
    rotate_left
    · intro W hSw
      (try dsimp only at hSw)
      go_simp
      (try with_reducible rfl)
    rotate_left
    (try simp only [Act.put, List.setIfInBounds_toArray, List.set_cons_zero, List.set_cons_succ])
    refine AllS.take (i := 15) (v := ?_) (by rw [List.getElem?_toArray]; rfl) (by kernel_rfl) (by kernel_rfl) (by kernel_rfl) (KeepsIf.read (by rfl) ?_) ?_
    rotate_left
    · intro W hSw
      (try dsimp only at hSw)
      go_simp
      (try with_reducible rfl)
    rotate_left
    (try simp only [Act.put, List.setIfInBounds_toArray, List.set_cons_zero, List.set_cons_succ])
    refine AllS.take (i := 16) (v := ?_) (by rw [List.getElem?_toArray]; rfl) (by kernel_rfl) (by kernel_rfl) (by kernel_rfl) (KeepsIf.read (by rfl) ?_) ?_
    rotate_left
    · intro W hSw
      (try dsimp only at hSw)
      go_simp
      (try with_reducible rfl)
    rotate_left
    (try simp only [Act.put, List.setIfInBounds_toArray, List.set_cons_zero, List.set_cons_succ])
    refine AllS.take (i := 17) (v := fromV ⟨G1, 0, none⟩ n n (k + 1)) (by rw [List.getElem?_toArray]; rfl) (by kernel_rfl) (by kernel_rfl) (by kernel_rfl) (KeepsIf.read (by rfl) (fun W hSw => ?_)) ?_
    · (try dsimp only at hSw)
      have hsl := sl8_lo ⟨G1, 0, none⟩ n n k W (by omega); go_simp
    (try simp only [Act.put, List.setIfInBounds_toArray, List.set_cons_zero, List.set_cons_succ])
    refine AllS.take (i := 18) (v := .bool true) (by rw [List.getElem?_toArray]; rfl) (by kernel_rfl) (by kernel_rfl) (by kernel_rfl) (KeepsIf.call 12 #[fromV ⟨G2, 0, none⟩ (n + 1) (n + 1) (k + 2), fromV ⟨G1, 0, none⟩ n n (k + 1)] (by kernel_rfl) (fun W => ?_) (fun W hSw => ?_)) ?_
    · go_simp
    · exact (HSB.out W hSw).mono (fun e w' h => ⟨h.1, below_seq hSw h.2⟩)
    (try simp only [Act.put, List.setIfInBounds_toArray, List.set_cons_zero, List.set_cons_succ])
    refine AllS.take (i := 19) (v := ?_) (by rw [List.getElem?_toArray]; rfl) (by kernel_rfl) (by kernel_rfl) (by kernel_rfl) (KeepsIf.read (by rfl) ?_) ?_
    rotate_left
    · intro W hSw
      (try dsimp only at hSw)
      go_simp
      (try with_reducible rfl)
    rotate_left
    (try simp only [Act.put, List.setIfInBounds_toArray, List.set_cons_zero, List.set_cons_succ])
    refine AllS.take (i := 20) (v := ?_) (by rw [List.getElem?_toArray]; rfl) (by kernel_rfl) (by kernel_rfl) (by kernel_rfl) (KeepsIf.read (by rfl) ?_) ?_
    rotate_left
    · intro W hSw
      (try dsimp only at hSw)
      go_simp
      (try with_reducible rfl)
    rotate_left
    (try simp only [Act.put, List.setIfInBounds_toArray, List.set_cons_zero, List.set_cons_succ])
    refine AllS.take (i := 21) (v := .bool true) (by rw [List.getElem?_toArray]; rfl) (by kernel_rfl) (by kernel_rfl) (by kernel_rfl) (KeepsIf.call 10 #[] (by kernel_rfl) (fun W => ?_) (fun W hSw => ?_)) ?_
    · go_simp
    · exact (phead_any W).mono (fun e w' h => ⟨h.1, below_seq hSw h.2⟩)
    (try simp only [Act.put, List.setIfInBounds_toArray, List.set_cons_zero, List.set_cons_succ])
    refine AllS.take (i := 22) (v := ?_) (by rw [List.getElem?_toArray]; rfl) (by kernel_rfl) (by kernel_rfl) (by kernel_rfl) (KeepsIf.read (by rfl) ?_) ?_
    rotate_left
    · intro W hSw
      (try dsimp only at hSw)
      go_simp
      (try with_reducible rfl)
    rotate_left
    (try simp only [Act.put, List.setIfInBounds_toArray, List.set_cons_zero, List.set_cons_succ])
    refine AllS.take (i := 23) (v := ?_) (by rw [List.getElem?_toArray]; rfl) (by kernel_rfl) (by kernel_rfl) (by kernel_rfl) (KeepsIf.read (by rfl) ?_) ?_
    rotate_left
    · intro W hSw
      (try dsimp only at hSw)
      go_simp
      (try with_reducible rfl)
    rotate_left
    (try simp only [Act.put, List.setIfInBounds_toArray, List.set_cons_zero, List.set_cons_succ])
    refine AllS.done (by kernel_rfl) (hR.out _ ?_) _
    clear hR R
    intro w9 hb9
    have bel := below_seq bel hb9
    go_wp2_with fail
    go_ret
    exact ⟨rfl, bel⟩
end Go.Proofs.Ytijdippkkaigjaa
