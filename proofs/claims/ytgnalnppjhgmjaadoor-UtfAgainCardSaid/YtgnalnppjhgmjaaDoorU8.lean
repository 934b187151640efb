/- Contract of the document's helper Same for layer 2 (package stickfulref02): two lists of characters that lie in memory are the same just if their cells are. Conditions: the lists lie where the slices say. -/
import Derived.Test.YtgnalnppjhgmjaaDoorU7
import Derived.RegionTactic
import Derived.Laws.StructEq
namespace Go.Proofs.YtgnalnppjhgmjaaDoor
open Go.ChangeShapes Go.WideShapes Go.ChangeAt Go.RowKit

/-- a character: number, node, place, size, kind -/
structure Ch where
  r : Int
  node : Int
  at_ : Int
  n : Int
  kind : Int
deriving DecidableEq

def Ch.cells (c : Ch) : List Value := [.int .i32 c.r, .int .i64 c.node, .int .i64 c.at_, .int .i64 c.n, .int .u8 c.kind]

theorem ch_eq (c d : Ch) : c = d ↔ c.r = d.r ∧ c.node = d.node ∧ c.at_ = d.at_ ∧ c.n = d.n ∧ c.kind = d.kind := by
  cases c; cases d; simp

theorem neqC (c d : Ch) (b : Bool) (hb : decide (c = d) = b) (w : World) :
    (binOp .neq 32 (.agg #[.int .i32 c.r, .int .i64 c.node, .int .i64 c.at_, .int .i64 c.n, .int .u8 c.kind]) (.agg #[.int .i32 d.r, .int .i64 d.node, .int .i64 d.at_, .int .i64 d.n, .int .u8 d.kind])).run Tryd.prog w = .ok (.bool (!b)) w := by
  subst hb
  have u1 := Tryd.underlying21
  have u2 := Tryd.underlying3
  have u3 := Tryd.underlying5
  have hS : Tryd.prog.underlying 32 = some (.struct (Tryd.prog.fieldsOf 32)) := by kernel_rfl
  rw [run_neq_struct, show (10000 : Nat) = 9999 + 1 from rfl, run_equalIn_agg w 9999 32 _ _ hS (by kernel_rfl)]
  simp only [Program.fieldsOf, Tryd.underlying32]
  go_simp
  by_cases h : c = d
  · have h2 := (ch_eq c d).1 h
    simp [h]
  · have h2 := fun e => h ((ch_eq c d).2 e)
    rw [decide_eq_false h]
    by_cases h1 : c.r = d.r
    · by_cases h3 : c.node = d.node
      · by_cases h4 : c.at_ = d.at_
        · by_cases h5 : c.n = d.n
          · by_cases h6 : c.kind = d.kind
            · exact absurd ⟨h1, h3, h4, h5, h6⟩ h2
            · simp [h1, h3, h4, h5, h6]
          · simp [h1, h3, h4, h5]
        · simp [h1, h3, h4]
      · simp [h1, h3]
    · simp [h1]

/-- a slice that reads as these characters -/
def Chs (w : World) (A : Option Addr) (l : List Ch) : Prop := l = [] ∨ ∃ g o, A = some ⟨g, o, none⟩ ∧ ∀ i (h : i < l.length), w.cell? ⟨g, o + i * 5, none⟩ = some (.int .i32 l[i].r) ∧ w.cell? ⟨g, o + i * 5 + 1, none⟩ = some (.int .i64 l[i].node) ∧ w.cell? ⟨g, o + i * 5 + 2, none⟩ = some (.int .i64 l[i].at_) ∧ w.cell? ⟨g, o + i * 5 + 3, none⟩ = some (.int .i64 l[i].n) ∧ w.cell? ⟨g, o + i * 5 + 4, none⟩ = some (.int .u8 l[i].kind)

set_option maxRecDepth 100000 in
set_option maxHeartbeats 2000000 in
theorem same_len (A B : Option Addr) (n m c d : Nat) (w : World) (h : n ≠ m) :
    Calls Tryd.prog 11 #[.slice A n c, .slice B m d] w fun e w' => e = .returned (.bool false) ∧ Drawn w w' := by
  have h1 : ((n : Int) == (m : Int)) = false := by simp; omega
  have h2 : ((n : Int) != (m : Int)) = true := by simp; omega
  go_enter Tryd.func11, Tryd.ntmps11
  go_wp2_with fail
  go_ret
  exact ⟨rfl, Drawn.refl _⟩

set_option maxRecDepth 100000 in
set_option maxHeartbeats 2000000 in
theorem same_any (g1 o1 g2 o2 : Nat) (l m : List Ch) (n c d : Nat) (w : World) (hl : l.length = n) (hm : m.length = n) (hn : n ≤ 100000)
    (R1 : ∀ i (h : i < l.length), w.cell? ⟨g1, o1 + i * 5, none⟩ = some (.int .i32 l[i].r) ∧ w.cell? ⟨g1, o1 + i * 5 + 1, none⟩ = some (.int .i64 l[i].node) ∧ w.cell? ⟨g1, o1 + i * 5 + 2, none⟩ = some (.int .i64 l[i].at_) ∧ w.cell? ⟨g1, o1 + i * 5 + 3, none⟩ = some (.int .i64 l[i].n) ∧ w.cell? ⟨g1, o1 + i * 5 + 4, none⟩ = some (.int .u8 l[i].kind))
    (R2 : ∀ i (h : i < m.length), w.cell? ⟨g2, o2 + i * 5, none⟩ = some (.int .i32 m[i].r) ∧ w.cell? ⟨g2, o2 + i * 5 + 1, none⟩ = some (.int .i64 m[i].node) ∧ w.cell? ⟨g2, o2 + i * 5 + 2, none⟩ = some (.int .i64 m[i].at_) ∧ w.cell? ⟨g2, o2 + i * 5 + 3, none⟩ = some (.int .i64 m[i].n) ∧ w.cell? ⟨g2, o2 + i * 5 + 4, none⟩ = some (.int .u8 m[i].kind)) :
    Calls Tryd.prog 11 #[.slice (some ⟨g1, o1, none⟩) n c, .slice (some ⟨g2, o2, none⟩) n d] w fun e w' => e = .returned (.bool (decide (l = m))) ∧ Drawn w w' := by
  have HL := Lib.hid hl
  have HM := Lib.hid hm
  have HR1 := Lib.hid R1
  have HR2 := Lib.hid R2
  clear hl hm R1 R2
  go_enter Tryd.func11, Tryd.ntmps11
  go_wp2_with fail
  go_loopg [5] 200000 (fun g s5 wx => Drawn w wx ∧ ∃ k : Nat, s5 = .int .i64 k ∧ k ≤ n ∧ g = 200000 - k ∧ Hid (l.take k = m.take k))
  case atStart => exact ⟨Drawn.refl _, 0, rfl, by omega, rfl, rfl⟩
  case round =>
    obtain ⟨⟨q, rfl⟩, k, rfl, hk, rfl, HT⟩ := hrel
    by_cases hlt : k < n
    · have hk1 : k < l.length := by rw [HL.out]; exact hlt
      have hk2 : k < m.length := by rw [HM.out]; exact hlt
      obtain ⟨a1, a2, a3, a4, a5⟩ := HR1.out k hk1
      obtain ⟨b1, b2, b3, b4, b5⟩ := HR2.out k hk2
      have T1 : Hid (l.take (k + 1) = l.take k ++ [l[k]]) := List.take_succ_eq_append_getElem hk1
      have T2 : Hid (m.take (k + 1) = m.take k ++ [m[k]]) := List.take_succ_eq_append_getElem hk2
      have TE : Hid (l = m → l[k] = m[k]) := by intro h; subst h; rfl
      generalize l[k] = x at *
      generalize m[k] = y at *
      have hltz : (k : Int) < (n : Int) := by omega
      clear hk1 hk2
      by_cases hxy : x = y
      · have hne := fun w => neqC x y true (decide_eq_true hxy) w
        have HXY := Lib.hid hxy
        clear hxy
        simp only [Bool.not_true] at hne
        go_wp2_with fail
        go_quiet (fail)
        go_wp2_with fail
        go_roundg (200000 - (k + 1))
        case measure => omega
        case rel => exact ⟨⟨_, rfl⟩, k + 1, by go_num, by omega, rfl, by show _ = _; rw [T1.out, T2.out, HT.out, HXY.out]⟩
      · have hne := fun w => neqC x y false (decide_eq_false hxy) w
        have HXY := Lib.hid hxy
        clear hxy
        simp only [Bool.not_false] at hne
        go_wp2_with fail
        go_quiet (fail)
        go_wp2_with fail
        go_ret
        exact ⟨retb (Eq.symm (decide_eq_false (fun h => HXY.out (TE.out h)))), ⟨_, World.drewN_drewN _ _ _⟩⟩
    · obtain rfl : k = n := by omega
      have fin : l = m := by
        have h := HT.out
        rw [List.take_of_length_le (by rw [HL.out]; omega), List.take_of_length_le (by rw [HM.out]; omega)] at h
        exact h
      have FIN := Lib.hid fin
      clear fin
      go_wp2_with fail
      go_ret
      exact ⟨retb (Eq.symm (decide_eq_true FIN.out)), ⟨_, rfl⟩⟩
end Go.Proofs.YtgnalnppjhgmjaaDoor
