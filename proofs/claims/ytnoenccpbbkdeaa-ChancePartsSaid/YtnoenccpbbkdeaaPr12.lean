/- Contracts of the reference's Same (numbers, bools) and Counts. Conditions: the slices read as the lists, at most 1048576 long, of numbers that are not negative. -/
import Derived.Test.YtnoenccpbbkdeaaGN
import Derived.Test.YtnoenccpbbkdeaaGE
namespace Go.Proofs.Ytnoenccpbbkdeaa
open Go.ChangeShapes Go.WideShapes Go.ChangeAt Go.RowKit
open Pr

/-! ### appends -/
theorem elh8 : Elh Try.prog 29 5 1 1 := ⟨Try.underlying29, ⟨.int .u8 0, by kernel_rfl, rfl⟩, by decide, by decide⟩
theorem elhB : Elh Try.prog 49 4 1 1 := ⟨Try.underlying49, ⟨.bool false, by kernel_rfl, rfl⟩, by decide, by decide⟩
theorem bs8 (z : Int) (w : World) : (Instr.buildSlice 29 1 #[(0, .int .u8 z)]).run Try.prog w = .ok (.slice (some ⟨w.heap.size, 0, none⟩) 1 1) (w.alloc (.cells #[.int .u8 z] 5)) := by kernel_rfl
theorem bsB (z : Bool) (w : World) : (Instr.buildSlice 49 1 #[(0, .bool z)]).run Try.prog w = .ok (.slice (some ⟨w.heap.size, 0, none⟩) 1 1) (w.alloc (.cells #[.bool z] 4)) := by kernel_rfl
section
variable {ops : Array Oper} {Q : Exit → Act → World → Prop} {a : Act} {w : World} {rest : List Oper} {o1 o2 : Oper}
theorem apN8 (hg1 : o1.guard = none) (x : Operand) (ho1 : o1.op = .buildSlice 29 1 #[(0, x)]) (D : Tmp) (hd1 : o1.dst = some D)
    (hg2 : o2.guard = none) (sl : Operand) (ho2 : o2.op = .call { callee := .builtin .append, args := #[sl, .tmp D], argTypes := #[29, 29] }) (z : Int) (hx : a.eval x = .int .u8 z)
    (v : Value) (hs : ∀ u, (a.put (some D) u).eval sl = v) (hD : ∀ u, (a.put (some D) u).eval (.tmp D) = u) (base n : Nat) (xs : List Value) (hown : w.ownsRow base 5 1 v n xs) (hn : n < 4194304) (hbase : base ≤ w.heap.size)
    (h : ∀ u v' w', w'.ownsRow base 5 1 v' (n + 1) (xs ++ [.int .u8 z]) → Below base w w' → Mod (fun k => v.ownBlock = some k) w w' → (∀ k, v'.ownBlock = some k → v.ownBlock = some k ∨ w.heap.size ≤ k) → wpList Try.prog ops Q rest ((a.put (some D) u).put o2.dst v') w') : wpList Try.prog ops Q (o1 :: o2 :: rest) a w :=
  apH elh8 hg1 x ho1 D hd1 hg2 sl ho2 (.int .u8 z) #[.int .u8 z] hx rfl (by simp [Value.oneCell']) (bs8 z) v hs hD base n xs hown hn hbase h
theorem apNB (hg1 : o1.guard = none) (x : Operand) (ho1 : o1.op = .buildSlice 49 1 #[(0, x)]) (D : Tmp) (hd1 : o1.dst = some D)
    (hg2 : o2.guard = none) (sl : Operand) (ho2 : o2.op = .call { callee := .builtin .append, args := #[sl, .tmp D], argTypes := #[49, 49] }) (z : Bool) (hx : a.eval x = .bool z)
    (v : Value) (hs : ∀ u, (a.put (some D) u).eval sl = v) (hD : ∀ u, (a.put (some D) u).eval (.tmp D) = u) (base n : Nat) (xs : List Value) (hown : w.ownsRow base 4 1 v n xs) (hn : n < 4194304) (hbase : base ≤ w.heap.size)
    (h : ∀ u v' w', w'.ownsRow base 4 1 v' (n + 1) (xs ++ [.bool z]) → Below base w w' → Mod (fun k => v.ownBlock = some k) w w' → (∀ k, v'.ownBlock = some k → v.ownBlock = some k ∨ w.heap.size ≤ k) → wpList Try.prog ops Q rest ((a.put (some D) u).put o2.dst v') w') : wpList Try.prog ops Q (o1 :: o2 :: rest) a w :=
  apH elhB hg1 x ho1 D hd1 hg2 sl ho2 (.bool z) #[.bool z] hx rfl (by simp [Value.oneCell']) (bsB z) v hs hD base n xs hown hn hbase h
end

/-! ### what the characters count as -/
def cs (s : St) : List Int → List (Int × Bool)
  | [] => []
  | c :: t => cnt s.1 c :: cs (nx s c) t
theorem cs_len : ∀ (l : List Int) (s : St), (cs s l).length = l.length
  | [], _ => rfl
  | c :: t, s => by rw [cs, List.length_cons, List.length_cons, cs_len t]
theorem cs_app : ∀ (l m : List Int) (s : St), cs s (l ++ m) = cs s l ++ cs (st s l) m
  | [], _, _ => rfl
  | c :: t, m, s => by
    show cnt s.1 c :: cs (nx s c) (t ++ m) = _
    rw [cs_app t m]
    rfl
theorem cs_take_succ (l : List Int) (s : St) (k : Nat) {x : Int} (h : l[k]? = some x) : cs s (l.take (k + 1)) = cs s (l.take k) ++ [cnt (st s (l.take k)).1 x] := by
  rw [List.take_add_one, h]
  show cs s (l.take k ++ [x]) = _
  rw [cs_app]
  rfl
theorem cs_get (l : List Int) (s : St) (k : Nat) {x : Int} (h : l[k]? = some x) : (cs s l)[k]? = some (cnt (st s (l.take k)).1 x) := by
  have hk := (List.getElem?_eq_some_iff.1 h).1
  conv => lhs; rw [← List.take_append_drop k l, cs_app]
  rw [List.getElem?_append_right (by rw [cs_len, List.length_take]; omega), cs_len, List.length_take, Nat.min_eq_left (by omega), Nat.sub_self, List.drop_eq_getElem_cons hk]
  rw [(List.getElem?_eq_some_iff.1 h).2]
  rfl
theorem st_last (l : List Int) (k : Nat) {d : Int} (h : ((cs s0 (l.take (k + 1))).map (·.1))[k]? = some d) : (st s0 (l.take (k + 1))).1 = some d := by
  by_cases hk : k < l.length
  · obtain ⟨x, hx⟩ : ∃ x, l[k]? = some x := ⟨_, List.getElem?_eq_getElem hk⟩
    rw [cs_take_succ l s0 k hx, List.map_append, List.getElem?_append_right (by rw [List.length_map, cs_len, List.length_take]; omega), List.length_map, cs_len, List.length_take, Nat.min_eq_left (by omega), Nat.sub_self] at h
    injection h with h
    rw [st_succ l s0 k hx]
    exact congrArg some h
  · have := (List.getElem?_eq_some_iff.1 h).1
    rw [List.length_map, cs_len, List.length_take] at this
    omega
def cntL (l : List Int) : List Int := (cs s0 l).map (·.1)
def cliL (l : List Int) : List Bool := (cs s0 l).map (·.2)
theorem cntL_len (l : List Int) : (cntL l).length = l.length := by simp [cntL, cs_len]
theorem cliL_len (l : List Int) : (cliL l).length = l.length := by simp [cliL, cs_len]
theorem cntL_succ (l : List Int) (k : Nat) {x : Int} (h : l[k]? = some x) : r8 (cntL (l.take (k + 1))) = r8 (cntL (l.take k)) ++ [.int .u8 (cnt (st s0 (l.take k)).1 x).1] := by
  unfold cntL r8
  rw [cs_take_succ l s0 k h]
  simp
theorem cliL_succ (l : List Int) (k : Nat) {x : Int} (h : l[k]? = some x) : rb (cliL (l.take (k + 1))) = rb (cliL (l.take k)) ++ [.bool (cnt (st s0 (l.take k)).1 x).2] := by
  unfold cliL rb
  rw [cs_take_succ l s0 k h]
  simp
theorem has_bare {d : Int} : has [1, 2, 3, 4, 5, 6] d = bare d := by
  unfold has bare
  rw [Bool.eq_iff_iff]
  simp
  omega
theorem own_types {w : World} {b1 b2 n1 n2 : Nat} {v u : Value} {xs ys : List Value} (h1 : w.ownsRow b1 5 1 v n1 xs) (h2 : w.ownsRow b2 4 1 u n2 ys) : Apart v u := fun k e1 e2 => by
  rcases h1.2 with ⟨rfl, _⟩ | ⟨g, cap, cur, rfl, _, hg, _⟩
  · simp [Value.ownBlock] at e1
  · obtain rfl : g = k := by simpa [Value.ownBlock] using e1
    rcases h2.2 with ⟨rfl, _⟩ | ⟨g', cap', cur', rfl, _, hg', _⟩
    · simp [Value.ownBlock] at e2
    · obtain rfl : g' = g := by simpa [Value.ownBlock] using e2
      rw [hg] at hg'
      injection hg' with hg'
      injection hg' with _ hg' _
      exact absurd hg' (by decide)

set_option maxRecDepth 100000 in
set_option maxHeartbeats 8000000 in
theorem rcounts_any (l : List Int) (v : Value) (w : World) (hR : R8 w v l) (hlen : l.length ≤ 1048576) :
    Calls Try.prog 92 #[v] w fun e w' => ∃ u1 u2, e = .returned (.tuple #[u1, u2]) ∧ R8 w' u1 (cntL l) ∧ RB w' u2 (cliL l) ∧ Below w.heap.size w w' := by
  have HRw := Lib.hid hR
  obtain ⟨A, cap, rfl⟩ := hR.form
  obtain ⟨n, hl⟩ : ∃ n, l.length = n := ⟨_, rfl⟩
  have HN := Lib.hid hl
  rw [r8_len, hl] at HRw ⊢
  rw [hl] at hlen
  clear hl hR
  go_enter Try.func92, Try.ntmps92
  go_wp2_with fail
  go_loopg [4, 5, 6] n (fun kx s4 s5 s6 wr => ∃ (k : Nat) (v1 v2 : Value), s4 = v1 ∧ s5 = v2 ∧ s6 = .int .i64 (k : Int) ∧ k ≤ n ∧ kx = n - k ∧ Below w.heap.size w wr ∧ Hid (wr.ownsRow w.heap.size 5 1 v1 k (r8 (cntL (l.take k)))) ∧ Hid (wr.ownsRow w.heap.size 4 1 v2 k (rb (cliL (l.take k)))))
  case atStart => exact ⟨0, _, _, rfl, rfl, rfl, by omega, by omega, Below.refl _ _, Lib.hid (own_nil _ _ _ _), Lib.hid (own_nil _ _ _ _)⟩
  case round =>
    obtain ⟨k, v1, v2, rfl, rfl, rfl, hk, rfl, bel, HO1, HO2⟩ := hrel
    by_cases hlt : k < n
    · obtain ⟨x, hx⟩ : ∃ x, l[k]? = some x := ⟨_, List.getElem?_eq_getElem (by rw [HN.out]; exact hlt)⟩
      obtain ⟨a, cap2, hv, _, _, hcell⟩ := (HRw.out.below bel).at_ (by rw [r8_len, HN.out]; omega)
      obtain rfl : A = some a := by injection hv
      have hcz := hcell k _ (r8_at hx)
      have hkz : (k : Int) < n := by omega
      have E1 := Lib.hid (cntL_succ l k hx)
      have E2 := Lib.hid (cliL_succ l k hx)
      obtain ⟨pc, hpc⟩ : ∃ pc, (cnt (st s0 (l.take k)).1 x) = pc := ⟨_, rfl⟩
      obtain ⟨c, q⟩ := pc
      rw [hpc] at E1 E2
      have HPC := Lib.hid hpc
      have hbs := bel.size
      clear hv hcell hx hpc
      by_cases h9 : x = 9
      · by_cases h0 : 0 < k
        · obtain ⟨j, hj⟩ : ∃ j, k = j + 1 := ⟨k - 1, by omega⟩
          have hjz : (k : Int) - 1 = (j : Int) := by omega
          have h0z : (0 : Int) < k := by omega
          have hjk : (j : Int) < k := by omega
          have RO := Row.of_own HO1.out
          obtain ⟨a1, c1, hv1, hab, _, hcell1⟩ := RO.at_ (by rw [r8_len, cntL_len, List.length_take, HN.out]; omega)
          rw [r8_len, cntL_len, List.length_take, HN.out, Nat.min_eq_left (by omega)] at hv1
          subst hv1
          obtain ⟨d, hd⟩ : ∃ d, (cntL (l.take k))[j]? = some d := ⟨_, List.getElem?_eq_getElem (by rw [cntL_len, List.length_take, HN.out]; omega)⟩
          have hcd := hcell1 j _ (r8_at hd)
          have hdd : (st s0 (l.take k)).1 = some d := by
            subst hj
            exact st_last l j hd
          have C := Lib.hid (inref_any (.slice (some ⟨wr.heap.size, 0, none⟩) 6 6) [1, 2, 3, 4, 5, 6] d _ (r8_lit wr [1, 2, 3, 4, 5, 6] 5 6 _ rfl rfl) (by decide))
          rw [has_bare] at C
          obtain ⟨qb, hqb⟩ : ∃ b, bare d = b := ⟨_, rfl⟩
          have HQ : Hid (bare d = qb) := Lib.hid hqb
          have HD := Lib.hid hdd
          rw [hqb] at C
          have hcd2 : (wr.alloc (.cells (r8 [1, 2, 3, 4, 5, 6]).toArray 5)).cell? (a1.add j) = some (.int .u8 d) := by
            rw [← hcd]
            exact (below_alloc wr _).cell (p := a1.add j) (by rw [block_of_add]; exact hab)
          have bel2 : Below w.heap.size w (wr.alloc (.cells (r8 [1, 2, 3, 4, 5, 6]).toArray 5)) := below_seq bel (below_alloc _ _) 
          have HO1' := Lib.hid (own_below HO1.out (below_alloc wr (.cells (r8 [1, 2, 3, 4, 5, 6]).toArray 5)))
          have HO2' := Lib.hid (own_below HO2.out (below_alloc wr (.cells (r8 [1, 2, 3, 4, 5, 6]).toArray 5)))
          clear RO hcell1 hd hdd hqb hj hab HO1 HO2
          subst h9
          go_wp2_with fail
          refine (C.out).mono ?_
          rintro e w2 ⟨rfl, rfl⟩
          obtain ⟨w2, hw2⟩ : ∃ w2, wr.alloc (.cells (r8 [1, 2, 3, 4, 5, 6]).toArray 5) = w2 := ⟨_, rfl⟩
          rw [hw2] at bel2 HO1' HO2' hcd2 ⊢
          have hbs2 := bel2.size
          clear C hcd hw2 bel hcz
          cases qb
          · obtain ⟨rfl, rfl⟩ : d = c ∧ true = q := by
              have := HPC.out
              rw [HD.out] at this
              unfold cnt at this
              rw [if_pos (show base 9 = 9 from rfl)] at this
              dsimp only at this
              rw [HQ.out] at this
              injection this with e1 e2
              exact ⟨e1, e2⟩
            go_wp2_with (first
              | (refine apN8 (o1 := ⟨some 44, _, _, _, _, _⟩) rfl (.tmp 43) rfl 44 rfl rfl (.tmp 42) rfl (d) rfl _ (fun _ => rfl) (fun _ => rfl) w.heap.size k _ HO1'.out (by omega) hbs2 ?_; intro u5 v5 w5 O5 b5 m5 n5; refine Mk.out ?_))
            constructor
            have P2 := own_keep HO2'.out m5 (own_types HO1'.out HO2'.out).symm
            have hbs5 := b5.size
            have hbw : w.heap.size ≤ w5.heap.size := by omega
            go_wp2_with (first
              | (refine apNB (o1 := ⟨some 48, _, _, _, _, _⟩) rfl (.tmp 47) rfl 48 rfl rfl (.tmp 46) rfl true rfl _ (fun _ => rfl) (fun _ => rfl) w.heap.size k _ P2 (by omega) hbw ?_; intro u6 v6 w6 O6 b6 m6 n6; refine Mk.out ?_))
            constructor
            have P1 := own_keep O5 m6 (own_types O5 P2)
            rw [← E1.out] at P1
            rw [← E2.out] at O6
            have bel6 := (bel2.trans b5).trans b6
            have HP1 := Lib.hid P1
            have HP2 := Lib.hid O6
            clear O5 P1 P2 O6 m5 m6 n5 n6 b5 b6 hbw
            go_wp2_with fail
            go_roundg (n - (k + 1))
            case measure => omega
            case rel => exact ⟨k + 1, v5, v6, rfl, rfl, by go_num, by omega, by first | rfl | trivial, bel6, HP1, HP2⟩
          · obtain ⟨rfl, rfl⟩ : 0 = c ∧ false = q := by
              have := HPC.out
              rw [HD.out] at this
              unfold cnt at this
              rw [if_pos (show base 9 = 9 from rfl)] at this
              dsimp only at this
              rw [HQ.out] at this
              injection this with e1 e2
              exact ⟨e1, e2⟩
            go_wp2_with (first
              | (refine apN8 (o1 := ⟨some 44, _, _, _, _, _⟩) rfl (.tmp 43) rfl 44 rfl rfl (.tmp 42) rfl (0) rfl _ (fun _ => rfl) (fun _ => rfl) w.heap.size k _ HO1'.out (by omega) hbs2 ?_; intro u5 v5 w5 O5 b5 m5 n5; refine Mk.out ?_))
            constructor
            have P2 := own_keep HO2'.out m5 (own_types HO1'.out HO2'.out).symm
            have hbs5 := b5.size
            have hbw : w.heap.size ≤ w5.heap.size := by omega
            go_wp2_with (first
              | (refine apNB (o1 := ⟨some 48, _, _, _, _, _⟩) rfl (.tmp 47) rfl 48 rfl rfl (.tmp 46) rfl false rfl _ (fun _ => rfl) (fun _ => rfl) w.heap.size k _ P2 (by omega) hbw ?_; intro u6 v6 w6 O6 b6 m6 n6; refine Mk.out ?_))
            constructor
            have P1 := own_keep O5 m6 (own_types O5 P2)
            rw [← E1.out] at P1
            rw [← E2.out] at O6
            have bel6 := (bel2.trans b5).trans b6
            have HP1 := Lib.hid P1
            have HP2 := Lib.hid O6
            clear O5 P1 P2 O6 m5 m6 n5 n6 b5 b6 hbw
            go_wp2_with fail
            go_roundg (n - (k + 1))
            case measure => omega
            case rel => exact ⟨k + 1, v5, v6, rfl, rfl, by go_num, by omega, by first | rfl | trivial, bel6, HP1, HP2⟩
        · have HK0 : Hid (k = 0) := Lib.hid (by omega)
          have h0z : ¬ (0 : Int) < k := by omega
          subst h9
          obtain ⟨rfl, rfl⟩ : 0 = c ∧ false = q := by
            have := HPC.out
            have e : cnt (st s0 (l.take k)).1 9 = (0, false) := by rw [HK0.out]; rfl
            rw [e] at this
            injection this with e1 e2
            exact ⟨e1, e2⟩
          have hbs2 := bel.size
          go_wp2_with (first
            | (refine apN8 (o1 := ⟨some 44, _, _, _, _, _⟩) rfl (.tmp 43) rfl 44 rfl rfl (.tmp 42) rfl (0) rfl _ (fun _ => rfl) (fun _ => rfl) w.heap.size k _ HO1.out (by omega) hbs2 ?_; intro u5 v5 w5 O5 b5 m5 n5; refine Mk.out ?_))
          constructor
          have P2 := own_keep HO2.out m5 (own_types HO1.out HO2.out).symm
          have hbs5 := b5.size
          have hbw : w.heap.size ≤ w5.heap.size := by omega
          go_wp2_with (first
            | (refine apNB (o1 := ⟨some 48, _, _, _, _, _⟩) rfl (.tmp 47) rfl 48 rfl rfl (.tmp 46) rfl false rfl _ (fun _ => rfl) (fun _ => rfl) w.heap.size k _ P2 (by omega) hbw ?_; intro u6 v6 w6 O6 b6 m6 n6; refine Mk.out ?_))
          constructor
          have P1 := own_keep O5 m6 (own_types O5 P2)
          rw [← E1.out] at P1
          rw [← E2.out] at O6
          have bel6 := (bel.trans b5).trans b6
          have HP1 := Lib.hid P1
          have HP2 := Lib.hid O6
          clear O5 P1 P2 O6 m5 m6 n5 n6 b5 b6 hbw
          go_wp2_with fail
          go_roundg (n - (k + 1))
          case measure => omega
          case rel => exact ⟨k + 1, v5, v6, rfl, rfl, by go_num, by omega, by first | rfl | trivial, bel6, HP1, HP2⟩
      · have hb9 : ¬ base x = 9 := fun h => h9 (base_nine.1 h)
        obtain ⟨h1, rfl⟩ : base x = c ∧ false = q := by
          have := HPC.out
          unfold cnt at this
          rw [if_neg hb9] at this
          injection this with e1 e2
          exact ⟨e1, e2⟩
        have hbs2 := bel.size
        by_cases h20 : x = 20
        · subst h20
          obtain rfl : 19 = c := h1
          go_wp2_with (first
            | (refine apN8 (o1 := ⟨some 44, _, _, _, _, _⟩) rfl (.tmp 43) rfl 44 rfl rfl (.tmp 42) rfl (19) rfl _ (fun _ => rfl) (fun _ => rfl) w.heap.size k _ HO1.out (by omega) hbs2 ?_; intro u5 v5 w5 O5 b5 m5 n5; refine Mk.out ?_))
          constructor
          have P2 := own_keep HO2.out m5 (own_types HO1.out HO2.out).symm
          have hbs5 := b5.size
          have hbw : w.heap.size ≤ w5.heap.size := by omega
          go_wp2_with (first
            | (refine apNB (o1 := ⟨some 48, _, _, _, _, _⟩) rfl (.tmp 47) rfl 48 rfl rfl (.tmp 46) rfl false rfl _ (fun _ => rfl) (fun _ => rfl) w.heap.size k _ P2 (by omega) hbw ?_; intro u6 v6 w6 O6 b6 m6 n6; refine Mk.out ?_))
          constructor
          have P1 := own_keep O5 m6 (own_types O5 P2)
          rw [← E1.out] at P1
          rw [← E2.out] at O6
          have bel6 := (bel.trans b5).trans b6
          have HP1 := Lib.hid P1
          have HP2 := Lib.hid O6
          clear O5 P1 P2 O6 m5 m6 n5 n6 b5 b6 hbw
          go_wp2_with fail
          go_roundg (n - (k + 1))
          case measure => omega
          case rel => exact ⟨k + 1, v5, v6, rfl, rfl, by go_num, by omega, by first | rfl | trivial, bel6, HP1, HP2⟩
        · by_cases h26 : 26 < x
          · obtain rfl : 0 = c := by rw [← h1]; unfold base; rw [if_neg h20, if_pos h26]
            go_wp2_with (first
              | (refine apN8 (o1 := ⟨some 44, _, _, _, _, _⟩) rfl (.tmp 43) rfl 44 rfl rfl (.tmp 42) rfl (0) rfl _ (fun _ => rfl) (fun _ => rfl) w.heap.size k _ HO1.out (by omega) hbs2 ?_; intro u5 v5 w5 O5 b5 m5 n5; refine Mk.out ?_))
            constructor
            have P2 := own_keep HO2.out m5 (own_types HO1.out HO2.out).symm
            have hbs5 := b5.size
            have hbw : w.heap.size ≤ w5.heap.size := by omega
            go_wp2_with (first
              | (refine apNB (o1 := ⟨some 48, _, _, _, _, _⟩) rfl (.tmp 47) rfl 48 rfl rfl (.tmp 46) rfl false rfl _ (fun _ => rfl) (fun _ => rfl) w.heap.size k _ P2 (by omega) hbw ?_; intro u6 v6 w6 O6 b6 m6 n6; refine Mk.out ?_))
            constructor
            have P1 := own_keep O5 m6 (own_types O5 P2)
            rw [← E1.out] at P1
            rw [← E2.out] at O6
            have bel6 := (bel.trans b5).trans b6
            have HP1 := Lib.hid P1
            have HP2 := Lib.hid O6
            clear O5 P1 P2 O6 m5 m6 n5 n6 b5 b6 hbw
            go_wp2_with fail
            go_roundg (n - (k + 1))
            case measure => omega
            case rel => exact ⟨k + 1, v5, v6, rfl, rfl, by go_num, by omega, by first | rfl | trivial, bel6, HP1, HP2⟩
          · obtain rfl : x = c := by rw [← h1]; unfold base; rw [if_neg h20, if_neg h26]
            go_wp2_with (first
              | (refine apN8 (o1 := ⟨some 44, _, _, _, _, _⟩) rfl (.tmp 43) rfl 44 rfl rfl (.tmp 42) rfl (x) rfl _ (fun _ => rfl) (fun _ => rfl) w.heap.size k _ HO1.out (by omega) hbs2 ?_; intro u5 v5 w5 O5 b5 m5 n5; refine Mk.out ?_))
            constructor
            have P2 := own_keep HO2.out m5 (own_types HO1.out HO2.out).symm
            have hbs5 := b5.size
            have hbw : w.heap.size ≤ w5.heap.size := by omega
            go_wp2_with (first
              | (refine apNB (o1 := ⟨some 48, _, _, _, _, _⟩) rfl (.tmp 47) rfl 48 rfl rfl (.tmp 46) rfl false rfl _ (fun _ => rfl) (fun _ => rfl) w.heap.size k _ P2 (by omega) hbw ?_; intro u6 v6 w6 O6 b6 m6 n6; refine Mk.out ?_))
            constructor
            have P1 := own_keep O5 m6 (own_types O5 P2)
            rw [← E1.out] at P1
            rw [← E2.out] at O6
            have bel6 := (bel.trans b5).trans b6
            have HP1 := Lib.hid P1
            have HP2 := Lib.hid O6
            clear O5 P1 P2 O6 m5 m6 n5 n6 b5 b6 hbw
            go_wp2_with fail
            go_roundg (n - (k + 1))
            case measure => omega
            case rel => exact ⟨k + 1, v5, v6, rfl, rfl, by go_num, by omega, by first | rfl | trivial, bel6, HP1, HP2⟩
    · have hkn : k = n := by omega
      subst hkn
      have r1 := Row.of_own HO1.out
      have r2 := Row.of_own HO2.out
      rw [List.take_of_length_le (by rw [HN.out]; omega)] at r1 r2
      have q1 : R8 wr _ (cntL l) := r1.mono (fun _ _ (h : False) => h.elim)
      have q2 : RB wr _ (cliL l) := r2.mono (fun _ _ (h : False) => h.elim)
      clear r1 r2
      go_wp2_with fail
      go_ret2
      exact ⟨_, _, rfl, q1, q2, bel⟩
end Go.Proofs.Ytnoenccpbbkdeaa
