/- The walk of TabsParts: for every row, number and place the law returns true. Conditions: the slice reads as the row, and is no longer than its memory; numbers are int64. -/
import Derived.Test.YtpaaicbgehpdiaaTaHead
import Derived.Test.YtpaaicbgehpdiaaTaLawM
import Derived.Test.YtpaaicbgehpdiaaRegC
import Derived.Test.YtpaaicbgehpdiaaApGen
namespace Go.Proofs.Ytpaaicbgehpdiaa.Ta
open Go.ChangeShapes Go.WideShapes Go.ChangeAt Go.RowKit
open Ce
open Fo (fitV fitE)

theorem int1 (ys : List Int) : ∀ u ∈ ys.map (Value.int .i64), u.oneCell' = true := fun u hu => by
  obtain ⟨z, _, rfl⟩ := List.mem_map.1 hu
  rfl
theorem cut_mod (M n : Nat) : ((M : Int)).tmod ((n : Int) + 1) = ((M % (n + 1) : Nat) : Int) := by
  rw [Int.tmod_eq_emod_of_nonneg (by omega), Int.natCast_emod]
  rfl

theorem sl1 (A : Option Addr) (n c : Nat) (h : 1 ≤ n) (W : World) : (Instr.slice 24 (.slice A n c) (some (.int .i64 1)) none none).run Try.prog W = .ok (loV 1 A n c 1) W := by
  have h1 : (1 : Int) ≤ n := by omega
  unfold loV
  go_simp

set_option maxRecDepth 100000 in
set_option maxHeartbeats 4000000 in
theorem lawParts_any (l : List Cl) (v : Value) (x : Int) (M : Nat) (w : World) (hR : RwCl w v l) (hC : CapV v) (hx : W64 x) (hM : M < 256) (ha : ∀ c ∈ l, W64 c.adv) :
    Calls Try.prog 3 #[v, .int .i64 x, .int .u8 (M : Int)] w fun e w' => e = .returned (.bool true) ∧ Below w.heap.size w w' := by
  have HA := Lib.hid ha
  have HX := Lib.hid hx
  obtain ⟨A, cap, rfl⟩ := hR.form
  obtain ⟨hnc, hcm⟩ := hC _ _ _ rfl
  obtain ⟨n, hn⟩ : ∃ n, l.length = n := ⟨_, rfl⟩
  have HN := Lib.hid hn
  rw [hn] at hR hnc ⊢
  have HNC := Lib.hid hnc
  have HCM := Lib.hid hcm
  have HR := Lib.hid hR
  clear ha hx hC hn hnc hcm hR
  go_enter Try.func3, Try.ntmps3
  by_cases hbig : 200 < n
  · have hz : (200 : Int) < n := by omega
    go_wp2_with fail
    refine (head_any _).mono ?_
    rintro e w1 ⟨rfl, b⟩
    go_wp2_with fail
    go_ret
    exact ⟨rfl, b⟩
  have hz : (n : Int) ≤ 200 := by omega
  have hz2 : ¬ (200 : Int) < n := by omega
  have H200 : Hid (n ≤ 200) := Lib.hid (by omega)
  obtain ⟨k, hk⟩ : ∃ k, M % (n + 1) = k := ⟨_, rfl⟩
  have hmod : ((M : Int)).tmod ((n : Int) + 1) = (k : Int) := by rw [cut_mod, hk]
  have hkn : k ≤ n := by have := Nat.mod_lt M (show 0 < n + 1 by omega); omega
  have hkz : (k : Int) ≤ n := by omega
  have hMz : (M : Int) < 256 := by omega
  have HKN := Lib.hid hkn
  clear hbig hk hM hkn
  obtain ⟨ys, E, hy⟩ : ∃ ys E, pens l [] x = (ys, E) := ⟨_, _, rfl⟩
  have hlen : l.length ≤ 1048576 := by have := HN.out; omega
  by_cases hE : E = 0
  rotate_left
  · have HE := Lib.hid hE
    have C := Lib.hid (pens_no hy hE _ _ w HR.out RowI.nil_ hlen HX.out HA.out)
    clear hy hlen hE
    have hEz : (E == 0) = false := by simpa using HE.out
    go_wp2_with fail
    refine C.out.mono ?_
    rintro e w1 ⟨rfl, b1⟩
    go_wp2_with fail
    refine (head_any _).mono ?_
    rintro e w2 ⟨rfl, b2⟩
    go_wp2_with fail
    go_ret
    exact ⟨rfl, below_seq b1 b2⟩
  subst hE
  have hyl := (pens_len l [] x).2 (by rw [hy])
  rw [hy, HN.out] at hyl
  simp only at hyl
  obtain ⟨hcA, hy0, q, hyk, hq, hcB⟩ := pens_cut hy (k := k) (by rw [HN.out]; exact HKN.out)
  have C1 := Lib.hid (pens_ok hy _ _ w HR.out RowI.nil_ hlen HX.out HA.out)
  have C2 : Hid (∀ W, Below w.heap.size w W → Calls Try.prog 8 #[.slice A k cap, .slice none 0 0, .int .i64 x] W fun e w' => ∃ u, e = .returned (.tuple #[u, .int .i64 0]) ∧ RowI .i64 w' u (ys.take (k + 1)) ∧ CapV u ∧ Below W.heap.size W w') := Lib.hid fun W b =>
    pens_ok hcA _ _ W ((HR.out.below b).hi (by rw [HN.out]; exact HKN.out)) RowI.nil_ (by rw [List.length_take]; omega) HX.out (fun c hc => HA.out c (List.mem_of_mem_take hc))
  have C3 : Hid (∀ W, Below w.heap.size w W → Calls Try.prog 8 #[loV 6 A n cap k, .slice none 0 0, .int .i64 q] W fun e w' => ∃ u, e = .returned (.tuple #[u, .int .i64 0]) ∧ RowI .i64 w' u (ys.drop k) ∧ CapV u ∧ Below W.heap.size W w') := Lib.hid fun W b =>
    pens_ok hcB _ _ W ((HR.out.below b).lo HKN.out HNC.out) RowI.nil_ (by rw [List.length_drop]; omega) ⟨by have := hq.1; omega, by have := hq.2; omega⟩ (fun c hc => HA.out c (List.mem_of_mem_drop hc))
  have hsl2 : ∀ W, (Instr.slice 22 (.slice A n cap) none (some (.int .i64 (k : Int))) none).run Try.prog W = .ok (.slice A k cap) W := fun W => by
    have h1 : (k : Int) ≤ cap := by have := HNC.out; omega
    have h2 : (0 : Int) ≤ (k : Int) := by omega
    go_simp
  have hsl3 : ∀ W, (Instr.slice 22 (.slice A n cap) (some (.int .i64 (k : Int))) none none).run Try.prog W = .ok (loV 6 A n cap k) W := fun W => by
    have h1 : (k : Int) ≤ n := by omega
    have h2 : (0 : Int) ≤ (k : Int) := by omega
    unfold loV
    go_simp
  have HYL := Lib.hid hyl
  have HY0 := Lib.hid hy0
  have HYK := Lib.hid hyk
  clear hy hlen hyl hcA hy0 hyk hq hcB
  go_wp2_with fail
  refine C1.out.mono ?_
  rintro e w1 ⟨u1, rfl, S1, K1, b1⟩
  have hl1 := S1.form
  rw [HYL.out] at hl1
  obtain ⟨A1, c1, rfl⟩ := hl1
  have HS1 := Lib.hid S1
  have HB1 := Lib.hid b1
  clear S1 K1 b1 C1
  go_wp2_with fail
  refine (C2.out w1 HB1.out).mono ?_
  rintro e w2 ⟨u2, rfl, S2, K2, b2⟩
  have hl2 := S2.form
  have ht : (ys.take (k + 1)).length = k + 1 := by rw [List.length_take, HYL.out]; have := HKN.out; omega
  rw [ht] at hl2
  obtain ⟨A2, c2, rfl⟩ := hl2
  have g0 : (ys.take (k + 1))[0]? = some x := by rw [List.getElem?_take, if_pos (by omega)]; exact HY0.out
  have gk : (ys.take (k + 1))[k]? = some q := by rw [List.getElem?_take, if_pos (by omega)]; exact HYK.out
  obtain ⟨a2, c2', hv, gc0⟩ := S2.get g0
  obtain ⟨a2', c2'', hv', gck⟩ := S2.get gk
  rw [ht] at hv hv'
  injection hv with e1 e2 e3
  injection hv' with e1' e2' e3'
  subst e1 e3
  injection e1' with e1'
  subst e1' e3'
  have gz : w2.cell? a2 = some (.int .i64 x) := by have := gc0; rwa [Addr.add_zero'] at this
  have HS2 := Lib.hid S2
  have HB2 := Lib.hid (below_seq HB1.out b2)
  have HS1b := Lib.hid (HS1.out.below b2)
  have HGK := Lib.hid gck
  have HL2 : Hid (a2.block < w2.heap.size) := Lib.hid (World.block_lt_of_cell? _ _ gz)
  clear S2 K2 b2 C2 HS1 HB1 e2 e2' gc0 gck ht g0 gk
  have hkk : (k : Int) < (k : Int) + 1 := by omega
  go_wp2_with fail
  refine region_C (by kernel_rfl) (fun W => Below w2.heap.size w2 W) (fun _ => True) (fun i => i == 7) (below_drewN (Below.refl _ _) 1) trivial (fun R hR => ?_)
  refine AllC.start (by kernel_rfl) (fun HCH => ?_)
  refine AllC.rq (v := ?_) HCH ?_ ?_
  rotate_left
  · intro W hSw
    (try dsimp only at hSw)
    go_simp
    (try with_reducible rfl)
  rotate_left
  (try simp only [Act.put, List.setIfInBounds_toArray, List.set_cons_zero, List.set_cons_succ])
  refine AllC.rq (v := ?_) HCH ?_ ?_
  rotate_left
  · intro W hSw
    (try dsimp only at hSw)
    go_simp
    (try with_reducible rfl)
  rotate_left
  (try simp only [Act.put, List.setIfInBounds_toArray, List.set_cons_zero, List.set_cons_succ])
  refine AllC.rq (v := loV 6 A n cap k) HCH (fun W hSw => ?_) ?_
  · (try dsimp only at hSw)
    have h := hsl3 W
    go_simp
  (try simp only [Act.put, List.setIfInBounds_toArray, List.set_cons_zero, List.set_cons_succ])
  refine AllC.rq (v := ?_) HCH ?_ ?_
  rotate_left
  · intro W hSw
    (try dsimp only at hSw)
    go_simp
    (try with_reducible rfl)
  rotate_left
  (try simp only [Act.put, List.setIfInBounds_toArray, List.set_cons_zero, List.set_cons_succ])
  refine AllC.rq (v := ?_) HCH ?_ ?_
  rotate_left
  · intro W hSw
    (try dsimp only at hSw)
    go_simp
    (try with_reducible rfl)
  rotate_left
  (try simp only [Act.put, List.setIfInBounds_toArray, List.set_cons_zero, List.set_cons_succ])
  refine AllC.rq (v := ?_) HCH ?_ ?_
  rotate_left
  · intro W hSw
    (try dsimp only at hSw)
    go_simp
    (try with_reducible rfl)
  rotate_left
  (try simp only [Act.put, List.setIfInBounds_toArray, List.set_cons_zero, List.set_cons_succ])
  refine AllC.rq (v := .int .i64 q) HCH (fun W hSw => ?_) ?_
  · (try dsimp only at hSw)
    have h := hSw.cell (p := a2.add k) (by rw [block_of_add]; exact HL2.out)
    rw [HGK.out] at h
    go_simp
  (try simp only [Act.put, List.setIfInBounds_toArray, List.set_cons_zero, List.set_cons_succ])
  refine AllC.cq 8 #[loV 6 A n cap k, .slice none 0 0, .int .i64 q] (fun u => ∃ A3 c3, u = .tuple #[.slice A3 (n - k + 1) c3, .int .i64 0] ∧ n - k + 1 ≤ c3 ∧ c3 ≤ maxLen) (fun u W => ∃ u3, u = .tuple #[u3, .int .i64 0] ∧ RowI .i64 W u3 (ys.drop k)) HCH (fun W => ?_) (fun W hSw hF => ?_) ?_
  · go_simp
  · refine (C3.out W (below_seq HB2.out hSw)).mono ?_
    rintro e w3 ⟨u3, rfl, S3, K3, b3⟩
    have hl3 := S3.form
    have ht : (ys.drop k).length = n - k + 1 := by rw [List.length_drop, HYL.out]; have := HKN.out; omega
    rw [ht] at hl3
    obtain ⟨A3, c3, rfl⟩ := hl3
    exact ⟨_, rfl, ⟨A3, c3, rfl, K3 _ _ _ rfl⟩, below_seq hSw b3, _, rfl, S3⟩
  rintro _ ⟨A3, c3, rfl, hc3, hc3m⟩
  (try simp only [Act.put, List.setIfInBounds_toArray, List.set_cons_zero, List.set_cons_succ])
  refine AllC.rq (v := ?_) HCH ?_ ?_
  rotate_left
  · intro W hSw
    (try dsimp only at hSw)
    go_simp
    (try with_reducible rfl)
  rotate_left
  (try simp only [Act.put, List.setIfInBounds_toArray, List.set_cons_zero, List.set_cons_succ])
  refine AllC.rq (v := ?_) HCH ?_ ?_
  rotate_left
  · intro W hSw
    (try dsimp only at hSw)
    go_simp
    (try with_reducible rfl)
  rotate_left
  (try simp only [Act.put, List.setIfInBounds_toArray, List.set_cons_zero, List.set_cons_succ])
  refine AllC.rq (v := ?_) HCH ?_ ?_
  rotate_left
  · intro W hSw
    (try dsimp only at hSw)
    go_simp
    (try with_reducible rfl)
  rotate_left
  (try simp only [Act.put, List.setIfInBounds_toArray, List.set_cons_zero, List.set_cons_succ])
  refine AllC.rq (v := ?_) HCH ?_ ?_
  rotate_left
  · intro W hSw
    (try dsimp only at hSw)
    go_simp
    (try with_reducible rfl)
  rotate_left
  (try simp only [Act.put, List.setIfInBounds_toArray, List.set_cons_zero, List.set_cons_succ])
  refine AllC.rq (v := ?_) HCH ?_ ?_
  rotate_left
  · intro W hSw
    (try dsimp only at hSw)
    go_simp
    (try with_reducible rfl)
  rotate_left
  (try simp only [Act.put, List.setIfInBounds_toArray, List.set_cons_zero, List.set_cons_succ])
  refine AllC.done (by kernel_rfl) (hR.out _ _ ?_) _
  clear hR R HCH
  intro w_r hSr hFr
  obtain ⟨u3, hu3, S3⟩ := hFr
  obtain ⟨rfl, -⟩ := tup2_inj hu3
  clear hu3
  have HS1c := Lib.hid (HS1b.out.below hSr)
  have HS2c := Lib.hid (HS2.out.below hSr)
  have HS3c := Lib.hid S3
  have HB3 := Lib.hid (below_seq HB2.out hSr)
  clear hSr S3 C3 HS1b HS2 HB2 HGK HL2 gz
  have hnk : ((n : Int) - (k : Int) + 1) = ((n - k + 1 : Nat) : Int) := by omega
  have hsl1 := Lib.hid (sl1 A3 (n - k + 1) c3 (by omega))
  have HD3 := Lib.hid (HS3c.out.lo (m := 1) (by omega) hc3)
  have hj : Hid (ys.take (k + 1) ++ (ys.drop k).drop 1 = ys) := Lib.hid (cut_join ys k)
  have ht1 : Hid ((ys.take (k + 1)).length = k + 1) := Lib.hid (by rw [List.length_take, HYL.out]; have := HKN.out; omega)
  have ht2 : Hid (((ys.drop k).drop 1).length = n - k) := Lib.hid (by rw [List.length_drop, List.length_drop, HYL.out]; omega)
  obtain ⟨xa, hxa⟩ : ∃ xa, ys.take (k + 1) = xa := ⟨_, rfl⟩
  obtain ⟨xb, hxb⟩ : ∃ xb, (ys.drop k).drop 1 = xb := ⟨_, rfl⟩
  rw [hxa] at hj ht1 HS2c
  rw [hxb] at hj ht2 HD3
  clear hxa hxb HS3c hsl2 hsl3 hmod hkk hnk
  go_wp2_with fail
  refine region_C (by kernel_rfl) (fun W => Below w_r.heap.size w_r W) (fun _ => True) (fun i => i == 0 || i == 2 || i == 5 || i == 7 || i == 9) (below_drewN (Below.refl _ _) 1) trivial (fun R hR => ?_)
  refine AllC.start (by kernel_rfl) (fun HCH => ?_)
  refine AllC.eq_ (fun _ => True) (fun u W => W.ownsRow w_r.heap.size 2 1 u 0 []) HCH (fun W hSw hF => ?_) ?_
  · exact .inl ⟨.slice (some ⟨W.heap.size, 0, none⟩) 0 0, W.alloc (.cells #[] 2), (by kernel_rfl), trivial, hSw.alloc hSw.size _, own_lit0 (Blk.new W 2 #[]) hSw.size⟩
  rintro u0 -
  (try simp only [Act.put, List.setIfInBounds_toArray, List.set_cons_zero, List.set_cons_succ])
  refine AllC.rq (v := ?_) HCH ?_ ?_
  rotate_left
  · intro W hSw
    (try dsimp only at hSw)
    go_simp
    (try with_reducible rfl)
  rotate_left
  (try simp only [Act.put, List.setIfInBounds_toArray, List.set_cons_zero, List.set_cons_succ])
  refine AllC.eq_ (fun _ => True) (fun u W => W.ownsRow w_r.heap.size 2 1 u (0 + (xa.map (Value.int .i64)).length) ([] ++ xa.map (Value.int .i64))) HCH (fun W hSw hF => ?_) ?_
  · obtain ⟨v', w', hr, h1, h2⟩ := app_gen elh64 hF (HS2c.out.below hSw).flat (by rw [List.length_map, Nat.mul_one]) (int1 _) hSw.size (by simp only [List.length_map]; have := H200.out; have := HKN.out; have := ht1.out; have := ht2.out; omega) _
    exact .inl ⟨v', w', run_op_app _ _ rfl rfl rfl hr, trivial, hSw.trans h2, h1⟩
  rintro u2 -
  (try simp only [Act.put, List.setIfInBounds_toArray, List.set_cons_zero, List.set_cons_succ])
  refine AllC.rq (v := ?_) HCH ?_ ?_
  rotate_left
  · intro W hSw
    (try dsimp only at hSw)
    go_simp
    (try with_reducible rfl)
  rotate_left
  (try simp only [Act.put, List.setIfInBounds_toArray, List.set_cons_zero, List.set_cons_succ])
  refine AllC.rq (v := loV 1 A3 (n - k + 1) c3 1) HCH (fun W hSw => ?_) ?_
  · (try dsimp only at hSw)
    have h := hsl1.out W
    go_simp
  (try simp only [Act.put, List.setIfInBounds_toArray, List.set_cons_zero, List.set_cons_succ])
  refine AllC.eq_ (fun _ => True) (fun u W => W.ownsRow w_r.heap.size 2 1 u (0 + (xa.map (Value.int .i64)).length + (xb.map (Value.int .i64)).length) ([] ++ xa.map (Value.int .i64) ++ xb.map (Value.int .i64))) HCH (fun W hSw hF => ?_) ?_
  · obtain ⟨v', w', hr, h1, h2⟩ := app_gen elh64 hF (HD3.out.below hSw).flat (by rw [List.length_map, Nat.mul_one]) (int1 _) hSw.size (by simp only [List.length_map]; have := H200.out; have := HKN.out; have := ht1.out; have := ht2.out; omega) _
    exact .inl ⟨v', w', run_op_app _ _ rfl rfl rfl hr, trivial, hSw.trans h2, h1⟩
  rintro u5 -
  (try simp only [Act.put, List.setIfInBounds_toArray, List.set_cons_zero, List.set_cons_succ])
  refine AllC.rq (v := ?_) HCH ?_ ?_
  rotate_left
  · intro W hSw
    (try dsimp only at hSw)
    go_simp
    (try with_reducible rfl)
  rotate_left
  (try simp only [Act.put, List.setIfInBounds_toArray, List.set_cons_zero, List.set_cons_succ])
  refine AllC.cq 9 #[u5, .slice A1 (n + 1) c1] (fun u => u = .bool true) (fun _ _ => True) HCH (fun W => ?_) (fun W hSw hF => ?_) ?_
  · go_simp
  · refine (same_is hj.out _ _ _ (RowI.of_own (l := xa ++ xb) (by rw [List.map_append]; exact hF)) (HS1c.out.below hSw) (by rw [hj.out, HYL.out]; have := H200.out; omega)).mono ?_
    rintro e w4 ⟨rfl, b4⟩
    exact ⟨_, rfl, rfl, below_seq hSw b4, trivial⟩
  rintro _ rfl
  (try simp only [Act.put, List.setIfInBounds_toArray, List.set_cons_zero, List.set_cons_succ])
  refine AllC.rq (v := ?_) HCH ?_ ?_
  rotate_left
  · intro W hSw
    (try dsimp only at hSw)
    go_simp
    (try with_reducible rfl)
  rotate_left
  (try simp only [Act.put, List.setIfInBounds_toArray, List.set_cons_zero, List.set_cons_succ])
  refine AllC.cq 7 #[] (fun u => u = .bool true) (fun _ _ => True) HCH (fun W => ?_) (fun W hSw hF => ?_) ?_
  · go_simp
  · refine (head_any _).mono ?_
    rintro e w4 ⟨rfl, b4⟩
    exact ⟨_, rfl, rfl, below_seq hSw b4, trivial⟩
  rintro _ rfl
  (try simp only [Act.put, List.setIfInBounds_toArray, List.set_cons_zero, List.set_cons_succ])
  iterate 2
    refine AllC.rq (v := ?_) HCH ?_ ?_
    rotate_left
    · intro W hSw
      (try dsimp only at hSw)
      go_simp
      (try with_reducible rfl)
    rotate_left
    (try simp only [Act.put, List.setIfInBounds_toArray, List.set_cons_zero, List.set_cons_succ])
  refine AllC.done (by kernel_rfl) (hR.out _ _ ?_) _
  clear hR R HCH
  intro w_q hSq _
  go_wp2_with fail
  go_ret
  exact ⟨rfl, below_seq HB3.out hSq⟩
end Go.Proofs.Ytpaaicbgehpdiaa.Ta
