/- Contracts of the reference's among and Last. Conditions: the pairs lie as a literal lays them. -/
import Derived.Test.YtnoenccpbbkdeaaGN
import Derived.Test.YtnoenccpbbkdeaaPr12
import Derived.Laws.OwnMore
import Derived.DataElems
namespace Go.Proofs.Ytnoenccpbbkdeaa
open Go.ChangeShapes Go.WideShapes Go.ChangeAt Go.RowKit
open Pr

/-- pairs, as cells -/
def pc (l : List (Int × Int)) : Array Value := (l.flatMap fun p => [Value.int .u8 p.1, .int .u8 p.2]).toArray
theorem pc_get : ∀ (l : List (Int × Int)) (k : Nat) (p : Int × Int), l[k]? = some p → (pc l)[k * 2]? = some (.int .u8 p.1) ∧ (pc l)[k * 2 + 1]? = some (.int .u8 p.2)
  | [], k, p, h => by simp at h
  | x :: t, 0, p, h => by
    simp at h
    subst h
    exact ⟨rfl, rfl⟩
  | x :: t, k + 1, p, h => by
    have := pc_get t k p (by simpa using h)
    have e : (k + 1) * 2 = k * 2 + 2 := by omega
    rw [e]
    unfold pc at this ⊢
    simpa using this
def pa (l : List (Int × Int)) (a b : Int) : Bool := l.any fun p => a == p.1 && b == p.2
theorem pa_succ {l : List (Int × Int)} {k : Nat} {p : Int × Int} {a b : Int} (h : l[k]? = some p) (h0 : pa (l.take k) a b = false) (hp : ¬ (p.1 = a ∧ p.2 = b)) : pa (l.take (k + 1)) a b = false := by
  unfold pa at h0 ⊢
  rw [List.take_add_one, h, List.any_append, h0]
  simp
  exact fun h1 h2 => hp ⟨h1.symm, h2.symm⟩
theorem pa_here {l : List (Int × Int)} {k : Nat} {p : Int × Int} {a b : Int} (h : l[k]? = some p) (hp : p.1 = a ∧ p.2 = b) : pa l a b = true := by
  unfold pa
  rw [List.any_eq_true]
  exact ⟨p, List.mem_of_getElem? h, by simp [hp.1, hp.2]⟩
theorem pc_lit (w : World) (l : List (Int × Int)) (t : TypeId) (cs : Array Value) (hc : cs = pc l) : Blk (w.alloc (.cells cs t)) w.heap.size t (pc l) := by
  subst hc
  exact Blk.new w t _

set_option maxRecDepth 100000 in
set_option maxHeartbeats 4000000 in
theorem ramong_any (l : List (Int × Int)) (g n : Nat) (t : TypeId) (a b : Int) (w : World) (hB : Blk w g t (pc l)) (hl : l.length = n) (hn : n ≤ 1000) :
    Calls Try.prog 97 #[.int .u8 a, .int .u8 b, .slice (some ⟨g, 0, none⟩) n n] w fun e w' => e = .returned (.bool (pa l a b)) ∧ Below w.heap.size w w' := by
  have HB := Lib.hid hB
  have HL := Lib.hid hl
  clear hB hl
  go_enter Try.func97, Try.ntmps97
  go_wp2_with fail
  go_loopg [7] n (fun kx i wr => ∃ (k : Nat), i = .int .i64 k ∧ k ≤ n ∧ kx = n - k ∧ wr = w ∧ Hid (pa (l.take k) a b = false))
  case atStart => exact ⟨0, rfl, by omega, by omega, rfl, Lib.hid rfl⟩
  case round =>
    obtain ⟨k, rfl, hk, rfl, rfl, HC⟩ := hrel
    by_cases hlt : k < n
    · obtain ⟨p, hp⟩ : ∃ p, l[k]? = some p := ⟨_, List.getElem?_eq_getElem (by rw [HL.out]; exact hlt)⟩
      obtain ⟨c1, c2⟩ := pc_get l k p hp
      have q1 := (HB.out.cell (k * 2)).trans c1
      have q2 := (HB.out.cell (k * 2 + 1)).trans c2
      have hkz : (k : Int) < n := by omega
      have HP := Lib.hid hp
      obtain ⟨x, y⟩ := p
      clear c1 c2 hp
      by_cases h1 : x = a
      · by_cases h2 : y = b
        · subst h1 h2
          go_wp2_with fail
          go_ret
          exact ⟨retb (pa_here HP.out ⟨rfl, rfl⟩).symm, Below.refl _ _⟩
        · have HN : Hid (pa (l.take (k + 1)) a b = false) := Lib.hid (pa_succ HP.out HC.out fun h => h2 h.2)
          subst h1
          go_wp2_with fail
          go_roundg (n - (k + 1))
          case measure => omega
          case rel => exact ⟨k + 1, by go_num, by omega, rfl, rfl, HN⟩
      · have HN : Hid (pa (l.take (k + 1)) a b = false) := Lib.hid (pa_succ HP.out HC.out fun h => h1 h.1)
        go_wp2_with fail
        go_roundg (n - (k + 1))
        case measure => omega
        case rel => exact ⟨k + 1, by go_num, by omega, rfl, rfl, HN⟩
    · have hkn : k = n := by omega
      subst hkn
      go_wp2_with fail
      go_ret
      refine ⟨retb ?_, Below.refl _ _⟩
      have := HC.out
      rw [List.take_of_length_le (by rw [HL.out]; omega)] at this
      exact this.symm

theorem pa23 (a b : Int) : pa [(0, 22), (22, 0), (23, 25), (25, 24)] a b = two23 a b := by simp only [pa, two23, List.any_cons, List.any_nil, Bool.or_false, Bool.or_assoc]
theorem pa24 (a b : Int) : pa [(23, 0), (24, 0), (0, 23), (0, 24)] a b = two24 a b := by simp only [pa, two24, List.any_cons, List.any_nil, Bool.or_false, Bool.or_assoc]
theorem pa25 (a b : Int) : pa [(15, 24), (15, 23), (22, 24), (22, 23), (24, 14), (24, 22), (23, 14), (23, 22), (13, 22), (18, 22), (22, 22)] a b = two25 a b := by simp only [pa, two25, List.any_cons, List.any_nil, Bool.or_false, Bool.or_assoc]

set_option maxRecDepth 100000 in
set_option maxHeartbeats 8000000 in
theorem rlast_any (a b : Int) (w : World) :
    Calls Try.prog 94 #[.int .u8 a, .int .u8 b] w fun e w' => e = .returned (.tuple #[.int .u8 (last a b).1, .bool (last a b).2]) ∧ Below w.heap.size w w' := by
  obtain ⟨q1, hq1⟩ : ∃ q, two23 a b = q := ⟨_, rfl⟩
  obtain ⟨q2, hq2⟩ : ∃ q, two24 a b = q := ⟨_, rfl⟩
  obtain ⟨q3, hq3⟩ : ∃ q, two25 a b = q := ⟨_, rfl⟩
  have C1 : Hid (∀ W g, Blk W g 121 (pc [(0, 22), (22, 0), (23, 25), (25, 24)]) → Calls Try.prog 97 #[.int .u8 a, .int .u8 b, .slice (some ⟨g, 0, none⟩) 4 4] W fun e w' => e = .returned (.bool q1) ∧ Below W.heap.size W w') := Lib.hid fun W g h => by
    rw [← hq1, ← pa23]; exact ramong_any _ g 4 _ a b W h rfl (by decide)
  have C2 : Hid (∀ W g, Blk W g 121 (pc [(23, 0), (24, 0), (0, 23), (0, 24)]) → Calls Try.prog 97 #[.int .u8 a, .int .u8 b, .slice (some ⟨g, 0, none⟩) 4 4] W fun e w' => e = .returned (.bool q2) ∧ Below W.heap.size W w') := Lib.hid fun W g h => by
    rw [← hq2, ← pa24]; exact ramong_any _ g 4 _ a b W h rfl (by decide)
  have C3 : Hid (∀ W g, Blk W g 121 (pc [(15, 24), (15, 23), (22, 24), (22, 23), (24, 14), (24, 22), (23, 14), (23, 22), (13, 22), (18, 22), (22, 22)]) → Calls Try.prog 97 #[.int .u8 a, .int .u8 b, .slice (some ⟨g, 0, none⟩) 11 11] W fun e w' => e = .returned (.bool q3) ∧ Below W.heap.size W w') := Lib.hid fun W g h => by
    rw [← hq3, ← pa25]; exact ramong_any _ g 11 _ a b W h rfl (by decide)
  obtain ⟨r, hr⟩ : ∃ r, last a b = r := ⟨_, rfl⟩
  have HR : Hid ((if q1 then (23, false) else if q2 then (24, false) else if q3 then (25, false) else if a == 0 && b == 0 then (28, false) else if a == 18 && b == 0 then (29, false) else (31, true)) = r) := Lib.hid (by rw [← hr, ← hq1, ← hq2, ← hq3]; rfl)
  rw [hr]
  clear hr hq1 hq2 hq3
  go_enter Try.func94, Try.ntmps94
  go_wp2_with fail
  refine (C1.out _ _ (pc_lit w [(0, 22), (22, 0), (23, 25), (25, 24)] _ _ rfl)).mono ?_
  rintro e w1 ⟨rfl, d1⟩
  have b1 := below_seq (below_alloc w _) d1
  clear C1 d1
  rcases Bool.eq_false_or_eq_true q1 with rfl | rfl
  · obtain rfl := HR.out
    go_wp2_with fail
    go_ret2
    exact ⟨rfl, b1⟩
  go_wp2_with fail
  refine (C2.out _ _ (pc_lit w1 [(23, 0), (24, 0), (0, 23), (0, 24)] _ _ rfl)).mono ?_
  rintro e w2 ⟨rfl, d2⟩
  have b2 := below_seq b1 (below_seq (below_alloc w1 _) d2)
  clear C2 d2 b1
  rcases Bool.eq_false_or_eq_true q2 with rfl | rfl
  · obtain rfl := HR.out
    go_wp2_with fail
    go_ret2
    exact ⟨rfl, b2⟩
  go_wp2_with fail
  refine (C3.out _ _ (pc_lit w2 [(15, 24), (15, 23), (22, 24), (22, 23), (24, 14), (24, 22), (23, 14), (23, 22), (13, 22), (18, 22), (22, 22)] _ _ rfl)).mono ?_
  rintro e w3 ⟨rfl, d3⟩
  have b3 := below_seq b2 (below_seq (below_alloc w2 _) d3)
  clear C3 d3 b2
  rcases Bool.eq_false_or_eq_true q3 with rfl | rfl
  · obtain rfl := HR.out
    go_wp2_with fail
    go_ret2
    exact ⟨rfl, b3⟩
  by_cases h0 : a = 0
  · subst h0
    by_cases h1 : b = 0
    · subst h1
      obtain rfl := HR.out
      go_wp2_with fail
      go_ret2
      exact ⟨rfl, b3⟩
    · obtain rfl : (31, true) = r := by rw [← HR.out]; simp [h1]
      go_wp2_with fail
      go_ret2
      exact ⟨rfl, b3⟩
  by_cases h2 : a = 18
  · subst h2
    by_cases h1 : b = 0
    · subst h1
      obtain rfl := HR.out
      go_wp2_with fail
      go_ret2
      exact ⟨rfl, b3⟩
    · obtain rfl : (31, true) = r := by rw [← HR.out]; simp [h1]
      go_wp2_with fail
      go_ret2
      exact ⟨rfl, b3⟩
  · obtain rfl : (31, true) = r := by rw [← HR.out]; simp [h0, h2]
    go_wp2_with fail
    go_ret2
    exact ⟨rfl, b3⟩
end Go.Proofs.Ytnoenccpbbkdeaa

/- What the reference's Rule needs: parts of rows, what stands ahead. No walk. -/
namespace Go.Proofs.Ytnoenccpbbkdeaa
open Go.ChangeShapes Go.WideShapes Go.ChangeAt Go.RowKit
open Pr

/-- a slice is no longer than its memory -/
def Cap (v : Value) : Prop := ∀ A n c, v = .slice A n c → n ≤ c
theorem Cap.is {A : Option Addr} {n c : Nat} (h : n ≤ c) : Cap (.slice A n c) := fun _ _ _ e => by
  injection e with _ e1 e2
  omega
theorem Cap.le {A : Option Addr} {n c : Nat} (h : Cap (.slice A n c)) : n ≤ c := h _ _ _ rfl
theorem row_take {S : Nat → Prop} {w : World} {ad : Addr} {n cap : Nat} {xs : List Value} (h : Row S w (.slice (some ad) n cap) xs) (k : Nat) (hk : k ≤ n) : Row S w (.slice (some ad) k cap) (xs.take k) := by
  rcases h with ⟨h, _⟩ | ⟨a, c, hv, hb, hc⟩
  · cases h
  · injection hv with h1 h2 h3
    injection h1 with h1
    subst h1 h2 h3
    refine .inr ⟨ad, cap, by rw [List.length_take, Nat.min_eq_left hk], ?_, fun j u hj => ?_⟩
    · rcases hb with rfl | hb
      · exact .inl (by simp)
      · exact .inr hb
    · rw [List.getElem?_take] at hj
      split at hj
      · exact hc j u hj
      · cases hj
theorem r8_take (l : List Int) (k : Nat) : r8 (l.take k) = (r8 l).take k := by simp [r8, List.map_take]
theorem rb_take (l : List Bool) (k : Nat) : rb (l.take k) = (rb l).take k := by simp [rb, List.map_take]
theorem cnt_at {l : List Int} {j k : Nat} (hj : j < k) (hk : k ≤ l.length) : ∃ d, (cntL (l.take k))[j]? = some d ∧ (st s0 (l.take (j + 1))).1 = some d ∧ (st s0 (l.take (j + 1))).2 = if d = 5 then (st s0 (l.take j)).2 else some d := by
  obtain ⟨x, hx⟩ : ∃ x, l[j]? = some x := ⟨_, List.getElem?_eq_getElem (by omega)⟩
  have hx2 : (l.take k)[j]? = some x := by rw [List.getElem?_take, if_pos hj, hx]
  refine ⟨(cnt (st s0 (l.take j)).1 x).1, ?_, ?_, ?_⟩
  · unfold cntL
    rw [List.getElem?_map, cs_get _ s0 j hx2, List.take_take, Nat.min_eq_left (by omega)]
    rfl
  · rw [st_succ l s0 j hx]; rfl
  · rw [st_succ l s0 j hx]; rfl
theorem cli_at {l : List Int} {j k : Nat} {x : Int} (hj : j < k) (hx : l[j]? = some x) : (cliL (l.take k))[j]? = some (cnt (st s0 (l.take j)).1 x).2 := by
  have hx2 : (l.take k)[j]? = some x := by rw [List.getElem?_take, if_pos hj, hx]
  unfold cliL
  rw [List.getElem?_map, cs_get _ s0 j hx2, List.take_take, Nat.min_eq_left (by omega)]
  rfl
end Go.Proofs.Ytnoenccpbbkdeaa

/- Rows of numbers appended to rows of the call's own; parts of a slice of numbers; what the operations of such a region hand back. No walk. -/
namespace Go.Proofs.Ytnoenccpbbkdeaa
open Go.ChangeShapes Go.WideShapes Go.ChangeAt Go.RowKit Go.Shelf

def own8 (base : Nat) (W : World) (u : Value) (l : List Int) : Prop := W.ownsRow base 5 1 u l.length (r8 l)
theorem own8.below {base : Nat} {W W' : World} {u : Value} {l : List Int} (h : own8 base W u l) (b : Below W.heap.size W W') : own8 base W' u l := own_below h b
theorem own8.row {base : Nat} {W : World} {u : Value} {l : List Int} (h : own8 base W u l) : R8 W u l := (Row.of_own h).mono (fun _ _ (h : False) => h.elim)
theorem own8.cap {base : Nat} {W : World} {u : Value} {l : List Int} (h : own8 base W u l) : Cap u := by
  rcases h.2 with ⟨rfl, _⟩ | ⟨g, cap, cur, rfl, _, _, hc, _⟩
  · exact Cap.is (Nat.le_refl _)
  · exact Cap.is hc
theorem one8 {l : List Int} : ∀ u ∈ r8 l, u.oneCell' = true := fun u hu => by
  obtain ⟨x, _, rfl⟩ := List.mem_map.1 hu
  rfl

section
variable {ops : Array Oper} {a : Act} {w : World} {o : Oper}
/-- append to an empty literal -/
theorem app8_0 {base : Nat} {v v2 : Value} {m : List Int} (hv : ∃ g, v = .slice (some ⟨g, 0, none⟩) 0 0) (hO : own8 base w v []) (hR : R8 w v2 m) (hb : base ≤ w.heap.size) (hlen : m.length ≤ 4194304) (ty : TypeId) :
    ∃ v' w', (Builtin.append_ #[29, 29] ty #[v, v2]).run Try.prog w = .ok v' w' ∧ own8 base w' v' m ∧ Below w.heap.size w w' := by
  obtain ⟨z, hi0, hzc⟩ := elh8.info
  obtain ⟨i0, hi, hz0, hz1, hz2⟩ := info_of hi0
  obtain ⟨g, rfl⟩ := hv
  rcases hR with ⟨rfl, hm⟩ | ⟨ad, cap, rfl, hab, hc⟩
  · obtain rfl : m = [] := by simpa [r8] using hm
    exact ⟨_, w, run_append_owned_none w base 29 ty 5 i0 1 Try.underlying29 hi _ 0 [] hO, hO, Below.refl _ _⟩
  · rw [r8_len]
    by_cases h0 : m.length = 0
    · obtain rfl := List.eq_nil_of_length_eq_zero h0
      refine ⟨.slice (some ⟨g, 0, none⟩) 0 0, w, ?_, hO, Below.refl _ _⟩
      simp [Builtin.append_, run_underlying Try.underlying29, sizeOf, typeInfo, hi, Builtin.lenOf, Builtin.firstCells, storeCells, loadCells, loadCellsFrom]
    · have hcap : Builtin.nextslicecap (0 + m.length) 0 = m.length := by rw [Nat.zero_add]; exact nextslicecap_zero (by omega)
      have hr := run_append_grow (P := Try.prog) w 29 ty 5 i0 z Try.underlying29 hi hz0 ⟨g, 0, none⟩ 0 0 [] (by simp) (fun j v hv => by simp at hv) ad m.length cap (r8 m) (by rw [hz1, r8_len, Nat.mul_one]) hc (by omega) (by omega) (by rw [hcap, hz2]; omega)
      rw [Nat.zero_add] at hr
      have BA : ∀ x, Below w.heap.size w.drew (w.drew.alloc x) := fun x => below_alloc w.drew x
      obtain ⟨cur, hcur⟩ : ∃ cur, ([] : List Value).toArray ++ (r8 m).toArray ++ Builtin.zeroCells z.cells (grownCap w m.length 0 5 - m.length) = cur := ⟨_, rfl⟩
      rw [hcur] at hr
      refine ⟨_, _, hr, ?_, (below_drewN (Below.refl _ _) 1).trans (BA _)⟩
      have hge := grownCap_ge w m.length 0 5
      have hmx := grownCap_le_maxLen w m.length 0 5 (by unfold maxLen; omega)
      refine ⟨by rw [r8_len, Nat.mul_one], .inr ⟨w.heap.size, grownCap w m.length 0 5, cur, rfl, hb, ?_, hge, hmx, ?_, ?_⟩⟩
      · exact heap_alloc_new w.drew _
      · rw [← hcur]
        simp only [Array.size_append, List.size_toArray, r8_len, size_zeroCells, hzc]
        rw [show ([] : List Value).length = 0 from rfl, Nat.zero_add, Nat.mul_one, Nat.mul_one]
        omega
      · rw [← hcur]
        simp [r8_len]
/-- append to a row of the call's own -/
theorem app8 {base : Nat} {v v2 : Value} {l m : List Int} (hO : own8 base w v l) (hR : R8 w v2 m) (hb : base ≤ w.heap.size) (hlen : l.length + m.length ≤ 4194304) (ty : TypeId) :
    ∃ v' w', (Builtin.append_ #[29, 29] ty #[v, v2]).run Try.prog w = .ok v' w' ∧ own8 base w' v' (l ++ m) ∧ Below base w w' := by
  obtain ⟨z, hi0, hzc⟩ := elh8.info
  obtain ⟨i0, hi, hz0, hz1, hz2⟩ := info_of hi0
  rcases hR with ⟨rfl, hm⟩ | ⟨ad, cap, rfl, hab, hc⟩
  · obtain rfl : m = [] := by simpa [r8] using hm
    rw [List.append_nil]
    exact ⟨_, w, run_append_owned_none w base 29 ty 5 i0 1 Try.underlying29 hi _ _ _ hO, hO, Below.refl _ _⟩
  · rw [r8_len]
    obtain ⟨v', w', hr, h2, h3, _, _⟩ := run_append_own_at (P := Try.prog) w base 29 ty 5 i0 z 1 1 Try.underlying29 hi hz0 hz1 hz2 hzc (by decide) v l.length (r8 l) hO ad m.length cap (r8 m) (by rw [r8_len, Nat.mul_one]) hc one8 (by unfold maxLen; omega) (by omega) hb
    refine ⟨v', w', hr, ?_, below_grew h3 hb fun g hg => ?_⟩
    · unfold own8
      rw [List.length_append, show r8 (l ++ m) = r8 l ++ r8 m by simp [r8]]
      exact h2
    · rcases hO.2 with ⟨rfl, _⟩ | ⟨g', cap', cur, rfl, hb', _⟩
      · simp [Value.ownBlock] at hg
      · have e : g' = g := by simpa [Value.ownBlock] using hg
        omega
theorem run_op_of8 {v v2 v' : Value} {w' : World} (s x : Operand) (ho : o.op = .call { callee := .builtin .append, args := #[s, x], argTypes := #[29, 29] }) (hs : a.eval s = v) (hx : a.eval x = v2) (h1 : (Builtin.append_ #[29, 29] o.type #[v, v2]).run Try.prog w = .ok v' w') :
    (execOp a.eval o).run Try.prog w = .ok (.value v') w' := by
  unfold execOp
  simp only [ho, resolve, invoke, builtin, Sem.run_bind, Sem.run_pure, Result.andThen_ok, List.map_toArray, List.map_cons, List.map_nil, hs, hx, h1]
/-- l[:k+1] and l[k+1:] -/
theorem sl_hi (ad : Addr) (n cap k : Nat) (W : World) (h : k + 1 ≤ cap) : (Instr.slice 29 (.slice (some ad) n cap) none (some (.int .i64 ((k : Int) + 1))) none).run Try.prog W = .ok (.slice (some ad) (k + 1) cap) W := by
  have h1 : (k : Int) + 1 ≤ cap := by omega
  have h2 : (0 : Int) ≤ (k : Int) + 1 := by omega
  go_simp
def fromV (ad : Addr) (n cap k : Nat) : Value := .slice (if cap = k then some ad else some (ad.add k)) (n - k) (cap - k)
theorem sl_lo (ad : Addr) (n cap k : Nat) (W : World) (h : k + 1 ≤ n) : (Instr.slice 29 (.slice (some ad) n cap) (some (.int .i64 ((k : Int) + 1))) none none).run Try.prog W = .ok (fromV ad n cap (k + 1)) W := by
  have h1 : (k : Int) + 1 ≤ n := by omega
  have h2 : (0 : Int) ≤ (k : Int) + 1 := by omega
  unfold fromV
  go_simp
theorem row_from {S : Nat → Prop} {w : World} {ad : Addr} {n cap : Nat} {xs : List Value} (h : Row S w (.slice (some ad) n cap) xs) (hn : xs.length = n) (k : Nat) (hk : k ≤ n) (hc : n ≤ cap) : Row S w (fromV ad n cap k) (xs.drop k) := by
  unfold fromV
  rcases h with ⟨h, _⟩ | ⟨a, c, hv, hb, hcell⟩
  · cases h
  · injection hv with h1 h2 h3
    injection h1 with h1
    subst h1 h3
    by_cases e : cap = k
    · rw [if_pos e]
      have e2 : xs.drop k = [] := List.drop_of_length_le (by omega)
      rw [e2]
      exact .inr ⟨ad, _, by rw [show n - k = 0 by omega]; rfl, .inl rfl, fun j u hj => by simp at hj⟩
    · rw [if_neg e]
      refine .inr ⟨ad.add k, _, by rw [List.length_drop, hn], ?_, fun j u hj => ?_⟩
      · rcases hb with rfl | hb
        · exact .inl (by simp)
        · exact .inr (by rw [block_of_add]; exact hb)
      · rw [List.getElem?_drop] at hj
        have := hcell (k + j) u hj
        rwa [show (ad.add k).add j = ad.add (k + j) from Addr.add_add ad k j]
theorem r8_drop (l : List Int) (k : Nat) : r8 (l.drop k) = (r8 l).drop k := by simp [r8, List.map_drop]
theorem rb_drop (l : List Bool) (k : Nat) : rb (l.drop k) = (rb l).drop k := by simp [rb, List.map_drop]
end

/-- what an operation of a region hands back: a value, a row of the call's own, a row that reads, an empty literal -/
inductive Kq8
  | val (v : Value)
  | own (l : List Int)
  | row (l : List Int)
  | emp
def Kq8.holds (B : Nat) : Kq8 → Value → World → Prop
  | .val v, u, _ => u = v
  | .own l, u, W => own8 B W u l
  | .row l, u, W => R8 W u l
  | .emp, u, W => (∃ g, u = .slice (some ⟨g, 0, none⟩) 0 0) ∧ own8 B W u []
def Kq8.stable : Kq8 → Bool
  | .val _ => true
  | _ => false
theorem Kq8.below {B : Nat} {k : Kq8} {u : Value} {w w' : World} (h : k.holds B u w) (b : Below w.heap.size w w') : k.holds B u w' := by
  cases k with
  | val v => exact h
  | own l => exact own8.below h b
  | row l =>
    have h1 : R8 w u l := h
    exact Row.below h1 b
  | emp => exact ⟨h.1, own8.below h.2 b⟩
theorem Kq8.keep {B : Nat} {k : Kq8} {u : Value} {w w' : World} (h : k.holds B u w) (hs : k.stable = true) : k.holds B u w' := by
  cases k with
  | val v => exact h
  | own l => cases hs
  | row l => cases hs
  | emp => cases hs
def killQ (T : Nat → Kq8) (p q i j : Nat) : Bool := (i == p || i == q) && !(j == i) && !(T j).stable
theorem killQ.keep {T : Nat → Kq8} {p q i j : Nat} (h : killQ T p q i j = false) (hi : (i == p || i == q) = true) (hj : j ≠ i) : (T j).stable = true := by
  unfold killQ at h
  rw [hi, show (j == i) = false by simpa using hj] at h
  simpa using h
theorem own8_none (base : Nat) (W : World) (hb : base ≤ W.heap.size) : own8 base (W.alloc (.cells #[] 5)) (.slice (some ⟨W.heap.size, 0, none⟩) 0 0) [] :=
  ⟨rfl, .inr ⟨W.heap.size, 0, #[], rfl, hb, Blk.new W _ _, Nat.le_refl _, by unfold maxLen; omega, rfl, rfl⟩⟩
end Go.Proofs.Ytnoenccpbbkdeaa

/- Contracts of the laws' head and great; of Rules, Breaks, Must with the form of the slice; bool literals. No conditions but those of the parts. -/
namespace Go.Proofs.Ytnoenccpbbkdeaa
open Go.ChangeShapes Go.WideShapes Go.ChangeAt Go.RowKit Go.Shelf
open Pr

theorem rb_lit (w : World) (l : List Bool) (t : TypeId) (n : Nat) (cs : Array Value) (hn : l.length = n) (hc : cs = (rb l).toArray) : RB (w.alloc (.cells cs t)) (.slice (some ⟨w.heap.size, 0, none⟩) n n) l := by
  subst hc hn
  have B := Blk.new w t (rb l).toArray
  refine .inr ⟨⟨w.heap.size, 0, none⟩, l.length, by rw [rb_len], .inr ⟨B.lt, id⟩, fun j u hj => ?_⟩
  have e : (⟨w.heap.size, 0, none⟩ : Addr).add j = ⟨w.heap.size, j, none⟩ := by simp [Addr.add]; exact fun h => h.symm
  rw [e, B.cell j]
  simpa using hj
set_option maxHeartbeats 2000000 in
theorem pBreaksG_any (l : List Int) (v : Value) (w : World) (hR : R8 w v l) (hlen : l.length ≤ 1048576) (h0 : ∀ c ∈ l, 0 ≤ c) :
    Calls Try.prog 33 #[v] w fun e w' => ∃ G, e = .returned (.slice (some ⟨G, 0, none⟩) l.length l.length) ∧ RB w' (.slice (some ⟨G, 0, none⟩) l.length l.length) (breaksL l) ∧ Below w.heap.size w w' := by
  have C := Lib.hid (ptellb_any 53 (fun x => x.2) (enters_of Try.func53 (by kernel_rfl) rfl) ptoldB_any l v w hR hlen)
  have HT : Hid (∀ G w', Blk w' G 4 (rowV l.length (got (.bool false) (fun j => .bool (vdAt l j).2) (List.range' 1 (l.length - 1)))) → RB w' (.slice (some ⟨G, 0, none⟩) l.length l.length) (breaksL l)) := Lib.hid fun G w' B =>
    row_of_blk B (by rw [rb_len, breaksL_len]) (told_is h0 (false) (fun x => x.2) Value.bool rfl)
  clear hR
  go_enter Try.func33, Try.ntmps33
  go_wp2_with fail
  refine (C.out).mono ?_
  rintro e w1 ⟨G, rfl, _, B, b⟩
  have hr := HT.out G w1 B
  clear C HT B
  go_wp2_with fail
  go_ret
  exact ⟨_, rfl, hr, b⟩
def hdA : List Int := [0, 9, 5, 14, 5, 0, 15]
def hdB : List Int := [2, 3, 9]
theorem hd_rules : rulesL hdA = [0, 9, 7, 18, 7, 14, 13] := by decide +kernel
theorem hd_breaks : breaksL hdA = [false, false, false, true, false, false, false] := by decide +kernel
theorem hd_rules2 : rulesL hdB = [0, 5, 5] := by decide +kernel
theorem hd_must : mustL hdB = [false, false, true] := by decide +kernel
theorem hdA0 : ∀ c ∈ hdA, 0 ≤ c := by decide
theorem hdB0 : ∀ c ∈ hdB, 0 ≤ c := by decide

end Go.Proofs.Ytnoenccpbbkdeaa
