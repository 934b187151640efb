/- Contracts of the reference's among and Last. Conditions: the pairs lie as a literal lays them. -/
import Derived.Test.YtijdippkkaigjaaPr11
namespace Go.Proofs.Ytijdippkkaigjaa
open Go.ChangeShapes Go.WideShapes Go.ChangeAt Go.RowKit
open Pr

/-- pairs, as cells -/
def pc (l : List (Int × Int)) : Array Value := (l.flatMap fun p => [Value.int .u8 p.1, .int .u8 p.2]).toArray
theorem pc_get : ∀ (l : List (Int × Int)) (k : Nat) (p : Int × Int), l[k]? = some p → (pc l)[k * 2]? = some (.int .u8 p.1) ∧ (pc l)[k * 2 + 1]? = some (.int .u8 p.2)
  | [], k, p, h => by simp at h
  | x :: t, 0, p, h => by
    simp at h
    subst h
    exact ⟨rfl, rfl⟩
  | x :: t, k + 1, p, h => by
    have := pc_get t k p (by simpa using h)
    have e : (k + 1) * 2 = k * 2 + 2 := by omega
    rw [e]
    unfold pc at this ⊢
    simpa using this
def pa (l : List (Int × Int)) (a b : Int) : Bool := l.any fun p => a == p.1 && b == p.2
theorem pa_succ {l : List (Int × Int)} {k : Nat} {p : Int × Int} {a b : Int} (h : l[k]? = some p) (h0 : pa (l.take k) a b = false) (hp : ¬ (p.1 = a ∧ p.2 = b)) : pa (l.take (k + 1)) a b = false := by
  unfold pa at h0 ⊢
  rw [List.take_add_one, h, List.any_append, h0]
  simp
  exact fun h1 h2 => hp ⟨h1.symm, h2.symm⟩
theorem pa_here {l : List (Int × Int)} {k : Nat} {p : Int × Int} {a b : Int} (h : l[k]? = some p) (hp : p.1 = a ∧ p.2 = b) : pa l a b = true := by
  unfold pa
  rw [List.any_eq_true]
  exact ⟨p, List.mem_of_getElem? h, by simp [hp.1, hp.2]⟩
theorem pc_lit (w : World) (l : List (Int × Int)) (t : TypeId) (cs : Array Value) (hc : cs = pc l) : Blk (w.alloc (.cells cs t)) w.heap.size t (pc l) := by
  subst hc
  exact Blk.new w t _

set_option maxRecDepth 100000 in
set_option maxHeartbeats 4000000 in
theorem ramong_any (l : List (Int × Int)) (g n : Nat) (t : TypeId) (a b : Int) (w : World) (hB : Blk w g t (pc l)) (hl : l.length = n) (hn : n ≤ 1000) :
    Calls Try.prog 29 #[.int .u8 a, .int .u8 b, .slice (some ⟨g, 0, none⟩) n n] w fun e w' => e = .returned (.bool (pa l a b)) ∧ Below w.heap.size w w' := by
  have HB := Lib.hid hB
  have HL := Lib.hid hl
  clear hB hl
  go_enter Try.func29, Try.ntmps29
  go_wp2_with fail
  go_loopg [7] n (fun kx i wr => ∃ (k : Nat), i = .int .i64 k ∧ k ≤ n ∧ kx = n - k ∧ wr = w ∧ Hid (pa (l.take k) a b = false))
  case atStart => exact ⟨0, rfl, by omega, by omega, rfl, Lib.hid rfl⟩
  case round =>
    obtain ⟨k, rfl, hk, rfl, rfl, HC⟩ := hrel
    by_cases hlt : k < n
    · obtain ⟨p, hp⟩ : ∃ p, l[k]? = some p := ⟨_, List.getElem?_eq_getElem (by rw [HL.out]; exact hlt)⟩
      obtain ⟨c1, c2⟩ := pc_get l k p hp
      have q1 := (HB.out.cell (k * 2)).trans c1
      have q2 := (HB.out.cell (k * 2 + 1)).trans c2
      have hkz : (k : Int) < n := by omega
      have HP := Lib.hid hp
      obtain ⟨x, y⟩ := p
      clear c1 c2 hp
      by_cases h1 : x = a
      · by_cases h2 : y = b
        · subst h1 h2
          go_wp2_with fail
          go_ret
          exact ⟨retb (pa_here HP.out ⟨rfl, rfl⟩).symm, Below.refl _ _⟩
        · have HN : Hid (pa (l.take (k + 1)) a b = false) := Lib.hid (pa_succ HP.out HC.out fun h => h2 h.2)
          subst h1
          go_wp2_with fail
          go_roundg (n - (k + 1))
          case measure => omega
          case rel => exact ⟨k + 1, by go_num, by omega, rfl, rfl, HN⟩
      · have HN : Hid (pa (l.take (k + 1)) a b = false) := Lib.hid (pa_succ HP.out HC.out fun h => h1 h.1)
        go_wp2_with fail
        go_roundg (n - (k + 1))
        case measure => omega
        case rel => exact ⟨k + 1, by go_num, by omega, rfl, rfl, HN⟩
    · have hkn : k = n := by omega
      subst hkn
      go_wp2_with fail
      go_ret
      refine ⟨retb ?_, Below.refl _ _⟩
      have := HC.out
      rw [List.take_of_length_le (by rw [HL.out]; omega)] at this
      exact this.symm

theorem pa23 (a b : Int) : pa [(0, 22), (22, 0), (23, 25), (25, 24)] a b = two23 a b := by simp only [pa, two23, List.any_cons, List.any_nil, Bool.or_false, Bool.or_assoc]
theorem pa24 (a b : Int) : pa [(23, 0), (24, 0), (0, 23), (0, 24)] a b = two24 a b := by simp only [pa, two24, List.any_cons, List.any_nil, Bool.or_false, Bool.or_assoc]
theorem pa25 (a b : Int) : pa [(15, 24), (15, 23), (22, 24), (22, 23), (24, 14), (24, 22), (23, 14), (23, 22), (13, 22), (18, 22), (22, 22)] a b = two25 a b := by simp only [pa, two25, List.any_cons, List.any_nil, Bool.or_false, Bool.or_assoc]

set_option maxRecDepth 100000 in
set_option maxHeartbeats 8000000 in
theorem rlast_any (a b : Int) (w : World) :
    Calls Try.prog 25 #[.int .u8 a, .int .u8 b] w fun e w' => e = .returned (.tuple #[.int .u8 (last a b).1, .bool (last a b).2]) ∧ Below w.heap.size w w' := by
  obtain ⟨q1, hq1⟩ : ∃ q, two23 a b = q := ⟨_, rfl⟩
  obtain ⟨q2, hq2⟩ : ∃ q, two24 a b = q := ⟨_, rfl⟩
  obtain ⟨q3, hq3⟩ : ∃ q, two25 a b = q := ⟨_, rfl⟩
  have C1 : Hid (∀ W g, Blk W g 61 (pc [(0, 22), (22, 0), (23, 25), (25, 24)]) → Calls Try.prog 29 #[.int .u8 a, .int .u8 b, .slice (some ⟨g, 0, none⟩) 4 4] W fun e w' => e = .returned (.bool q1) ∧ Below W.heap.size W w') := Lib.hid fun W g h => by
    rw [← hq1, ← pa23]; exact ramong_any _ g 4 _ a b W h rfl (by decide)
  have C2 : Hid (∀ W g, Blk W g 61 (pc [(23, 0), (24, 0), (0, 23), (0, 24)]) → Calls Try.prog 29 #[.int .u8 a, .int .u8 b, .slice (some ⟨g, 0, none⟩) 4 4] W fun e w' => e = .returned (.bool q2) ∧ Below W.heap.size W w') := Lib.hid fun W g h => by
    rw [← hq2, ← pa24]; exact ramong_any _ g 4 _ a b W h rfl (by decide)
  have C3 : Hid (∀ W g, Blk W g 61 (pc [(15, 24), (15, 23), (22, 24), (22, 23), (24, 14), (24, 22), (23, 14), (23, 22), (13, 22), (18, 22), (22, 22)]) → Calls Try.prog 29 #[.int .u8 a, .int .u8 b, .slice (some ⟨g, 0, none⟩) 11 11] W fun e w' => e = .returned (.bool q3) ∧ Below W.heap.size W w') := Lib.hid fun W g h => by
    rw [← hq3, ← pa25]; exact ramong_any _ g 11 _ a b W h rfl (by decide)
  obtain ⟨r, hr⟩ : ∃ r, last a b = r := ⟨_, rfl⟩
  have HR : Hid ((if q1 then (23, false) else if q2 then (24, false) else if q3 then (25, false) else if a == 0 && b == 0 then (28, false) else if a == 18 && b == 0 then (29, false) else (31, true)) = r) := Lib.hid (by rw [← hr, ← hq1, ← hq2, ← hq3]; rfl)
  rw [hr]
  clear hr hq1 hq2 hq3
  go_enter Try.func25, Try.ntmps25
  go_wp2_with fail
  refine (C1.out _ _ (pc_lit w [(0, 22), (22, 0), (23, 25), (25, 24)] _ _ rfl)).mono ?_
  rintro e w1 ⟨rfl, d1⟩
  have b1 := below_seq (below_alloc w _) d1
  clear C1 d1
  rcases Bool.eq_false_or_eq_true q1 with rfl | rfl
  · obtain rfl := HR.out
    go_wp2_with fail
    go_ret2
    exact ⟨rfl, b1⟩
  go_wp2_with fail
  refine (C2.out _ _ (pc_lit w1 [(23, 0), (24, 0), (0, 23), (0, 24)] _ _ rfl)).mono ?_
  rintro e w2 ⟨rfl, d2⟩
  have b2 := below_seq b1 (below_seq (below_alloc w1 _) d2)
  clear C2 d2 b1
  rcases Bool.eq_false_or_eq_true q2 with rfl | rfl
  · obtain rfl := HR.out
    go_wp2_with fail
    go_ret2
    exact ⟨rfl, b2⟩
  go_wp2_with fail
  refine (C3.out _ _ (pc_lit w2 [(15, 24), (15, 23), (22, 24), (22, 23), (24, 14), (24, 22), (23, 14), (23, 22), (13, 22), (18, 22), (22, 22)] _ _ rfl)).mono ?_
  rintro e w3 ⟨rfl, d3⟩
  have b3 := below_seq b2 (below_seq (below_alloc w2 _) d3)
  clear C3 d3 b2
  rcases Bool.eq_false_or_eq_true q3 with rfl | rfl
  · obtain rfl := HR.out
    go_wp2_with fail
    go_ret2
    exact ⟨rfl, b3⟩
  by_cases h0 : a = 0
  · subst h0
    by_cases h1 : b = 0
    · subst h1
      obtain rfl := HR.out
      go_wp2_with fail
      go_ret2
      exact ⟨rfl, b3⟩
    · obtain rfl : (31, true) = r := by rw [← HR.out]; simp [h1]
      go_wp2_with fail
      go_ret2
      exact ⟨rfl, b3⟩
  by_cases h2 : a = 18
  · subst h2
    by_cases h1 : b = 0
    · subst h1
      obtain rfl := HR.out
      go_wp2_with fail
      go_ret2
      exact ⟨rfl, b3⟩
    · obtain rfl : (31, true) = r := by rw [← HR.out]; simp [h1]
      go_wp2_with fail
      go_ret2
      exact ⟨rfl, b3⟩
  · obtain rfl : (31, true) = r := by rw [← HR.out]; simp [h0, h2]
    go_wp2_with fail
    go_ret2
    exact ⟨rfl, b3⟩
end Go.Proofs.Ytijdippkkaigjaa
