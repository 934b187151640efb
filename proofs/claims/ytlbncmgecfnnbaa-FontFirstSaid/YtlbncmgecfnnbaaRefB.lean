/- Contracts of the document's answers by bits (package stickfulref01): product, quotient. Conditions: the arguments are uint64, the divisor is at least 1 and below 2^63. Nothing that was in memory turns ('Kept'). -/
import Derived.Test.YtlbncmgecfnnbaaRefA
import Derived.Test.YtlbncmgecfnnbaaVal
import Derived.Laws.Rows
namespace Go.Proofs.Ytlbncmgecfnnbaa
open Go.ChangeShapes Go.WideShapes Go.ChangeAt Go.RowKit

/-- block g is a row of ints that says these digits -/
def DRow (w : World) (g : Nat) (bs : List Nat) : Prop := w.heap[g]? = some (.cells ((bs.map fun b : Nat => Value.int .i64 (b : Int)).toArray) 3 (0, 0))

theorem DRow.cell {w : World} {g : Nat} {bs : List Nat} (h : DRow w g bs) (j : Nat) (hj : j < bs.length) : w.cell? ⟨g, j, none⟩ = some (.int .i64 (bs.getD j 0 : Nat)) := by
  rw [cell_of_row w g j _ _ (0, 0) h]
  simp [hj]
theorem DRow.free {w : World} {g : Nat} {bs : List Nat} (h : DRow w g bs) (j : Nat) : w.frozen? ⟨g, j, none⟩ = false := by
  unfold DRow at h
  simp [World.frozen?, h]
theorem DRow.put {w : World} {g : Nat} {bs : List Nat} (h : DRow w g bs) (j x : Nat) : DRow (w.setCell ⟨g, j, none⟩ (.int .i64 (x : Int))) g (bs.set j x) := by
  unfold DRow at h ⊢
  simp [World.setCell, Array.getElem?_modify, h]
theorem DRow.new (w : World) (n : Nat) : DRow (w.alloc (.cells (Array.replicate n (.int .i64 0)) 3)) w.heap.size (List.replicate n 0) := by
  unfold DRow
  rw [(MapKept.heap_alloc w _).1]
  simp

set_option maxRecDepth 100000 in
set_option maxHeartbeats 2000000 in
theorem product_any (a b : Nat) (w : World) (ha : a < 18446744073709551616) (hb : b < 18446744073709551616) :
    Calls Try.prog 33 #[.int .u64 a, .int .u64 b] w fun e w' => e = .returned (.slice (some ⟨w.heap.size, 0, none⟩) 132 132) ∧ Kept w w' ∧ ∃ bs, DRow w' w.heap.size bs ∧ bs.length = 132 ∧ (∀ x ∈ bs, x < 2) ∧ Digits.val bs = a * b := by
  have hmk : ∀ w : World, (Instr.makeSlice 58 (.int .i64 132) (.int .i64 132)).run Try.prog w = .ok (.slice (some ⟨w.heap.size, 0, none⟩) 132 132) (w.alloc (.cells (Array.replicate 132 (.int .i64 0)) 3)) := fun _ => by kernel_rfl
  go_enter Try.func33, Try.ntmps33
  go_wp2_with fail
  clear hmk
  go_loopg [6] 64 (fun g s6 wx => Kept w wx ∧ ∃ (i : Nat) (bs : List Nat), s6 = .int .i64 i ∧ i ≤ 64 ∧ g = 64 - i ∧ DRow wx w.heap.size bs ∧ Hid (bs.length = 132) ∧ Hid (∀ x ∈ bs, x < 2) ∧ Hid (Digits.val bs = a % 2 ^ i * b))
  case atStart => exact ⟨(Kept.refl _).alloc _ _, 0, List.replicate 132 0, rfl, by omega, rfl, DRow.new w 132, List.length_replicate, (by intro x hx; rw [List.eq_of_mem_replicate hx]; omega), (by show _ = _; rw [Digits.val_zero, Nat.pow_zero, Nat.mod_one, Nat.zero_mul])⟩
  case round =>
    obtain ⟨gw, i, bs, rfl, hi, rfl, R, L, B, V⟩ := hrel
    obtain ⟨wo, rfl⟩ : ∃ wo : World, wo = wr := ⟨_, rfl⟩
    by_cases hlt : i < 64
    · obtain ⟨A, t, hA, ht, T⟩ : ∃ A t : Nat, (a : Int) / 2 ^ i = (A : Int) ∧ (A : Int) % 2 = (t : Int) ∧ Hid (a / 2 ^ i % 2 = t) := ⟨a / 2 ^ i, a / 2 ^ i % 2, u64shr a i, (Int.natCast_emod _ 2).symm, rfl⟩
      have htt : t = 0 ∨ t = 1 := by have := T.out; omega
      rcases htt with rfl | rfl
      · go_wp2_with fail
        go_roundg (64 - (i + 1))
        case measure => omega
        case rel => exact ⟨gw, i + 1, bs, by go_num, by omega, rfl, R, L, B, Digits.outer_skip a b i _ V.out T.out⟩
      · go_wp2_with fail
        go_loopg [7, 8] 200 (fun g s7 s8 wx => Kept w wx ∧ ∃ (k c : Nat) (bs : List Nat), s8 = .int .i64 k ∧ s7 = .int .i64 c ∧ c ≤ 1 ∧ k + i ≤ 132 ∧ g = 200 - k ∧ DRow wx w.heap.size bs ∧ Hid (bs.length = 132) ∧ Hid (∀ x ∈ bs, x < 2) ∧ Hid (Digits.val bs + c * 2 ^ (k + i) = a % 2 ^ i * b + b % 2 ^ k * 2 ^ i))
        case atStart => exact ⟨gw, 0, 0, bs, rfl, rfl, by omega, by omega, rfl, R, L, B, by show _ = _; rw [V.out, Nat.zero_mul, Nat.pow_zero, Nat.mod_one, Nat.zero_mul]⟩
        case round =>
          clear R L B V
          obtain ⟨gx, k, c, bs, rfl, rfl, hc, hk, rfl, R, L, B, V⟩ := hrel
          obtain ⟨wi, rfl⟩ : ∃ wi : World, wi = wr := ⟨_, rfl⟩
          by_cases hk2 : k + i < 132
          · have hcell := R.cell (k + i) (by rw [L.out]; exact hk2)
            have hfree := R.free (k + i)
            have hd : bs.getD (k + i) 0 < 2 := by
              have hj : k + i < bs.length := by rw [L.out]; exact hk2
              have : bs.getD (k + i) 0 = bs[k + i] := by simp [List.getD, hj]
              rw [this]
              exact B.out _ (List.getElem_mem hj)
            obtain ⟨A2, u, hA2, hu, U⟩ : ∃ A u : Nat, (b : Int) / 2 ^ k = (A : Int) ∧ (A : Int) % 2 = (u : Int) ∧ Hid (b / 2 ^ k % 2 = u) := ⟨b / 2 ^ k, b / 2 ^ k % 2, u64shr b k, (Int.natCast_emod _ 2).symm, rfl⟩
            have hu2 : u < 2 := by have := U.out; omega
            have step := Digits.add_round bs (a % 2 ^ i * b) b i k c (by rw [L.out]; exact hk2) V.out
            rw [U.out] at step
            obtain ⟨x, c', hx, hc', hx2, hc2⟩ : ∃ x c' : Nat, (bs.getD (k + i) 0 + c + u) % 2 = x ∧ (bs.getD (k + i) 0 + c + u) / 2 = c' ∧ x < 2 ∧ c' ≤ 1 := ⟨_, _, rfl, rfl, by omega, by omega⟩
            rw [hx, hc'] at step
            have ST := Lib.hid step
            have R2 := R.put (k + i) x
            have L2 : Hid ((bs.set (k + i) x).length = 132) := by show _ = _; rw [List.length_set]; exact L.out
            have B2 : Hid (∀ y ∈ bs.set (k + i) x, y < 2) := by
              intro y hy
              rcases List.mem_or_eq_of_mem_set hy with h | h
              · exact B.out y h
              · rw [h]; exact hx2
            generalize bs.getD (k + i) 0 = d at *
            clear step B L V R
            have hks : (k : Int) + i < 132 := by omega
            by_cases hk64 : k < 64
            · have hxi : ((d : Int) + c + u) % 2 = (x : Int) := by omega
              have hci : ((d : Int) + c + u) / 2 = (c' : Int) := by omega
              clear hx hc'
              go_wp2_with fail
              go_roundg (200 - (k + 1))
              case measure => omega
              case rel => exact ⟨gx.setCell (Nat.le_refl _) _, k + 1, c', bs.set (k + i) x, by go_num, congrArg (Value.int .i64) hci, hc2, by omega, rfl, R2, L2, B2, ST.out⟩
            · have hu0 : u = 0 := by
                have := U.out
                rw [Nat.div_eq_of_lt (Nat.lt_of_lt_of_le hb (Nat.pow_le_pow_right (show 0 < 2 by omega) (show 64 ≤ k by omega)))] at this
                omega
              subst hu0
              have hxi : ((d : Int) + c) % 2 = (x : Int) := by omega
              have hci : ((d : Int) + c) / 2 = (c' : Int) := by omega
              clear hx hc' hu hA2
              go_wp2_with fail
              go_roundg (200 - (k + 1))
              case measure => omega
              case rel => exact ⟨gx.setCell (Nat.le_refl _) _, k + 1, c', bs.set (k + i) x, by go_num, congrArg (Value.int .i64) hci, hc2, by omega, rfl, R2, L2, B2, ST.out⟩
          · have hks : ¬ (k : Int) + i < 132 := by omega
            have fin : Digits.val bs = a % 2 ^ (i + 1) * b := by
              have hkk : k = 132 - i := by omega
              have v := V.out
              rw [hkk] at v
              rw [Digits.add_end bs (a % 2 ^ i * b) b i c hi hb (Digits.part_lt a b i hi hb) v]
              exact Digits.outer_step a b i _ rfl T.out
            have FIN := Lib.hid fin
            clear fin V
            go_wp2_with fail
            go_roundg (64 - (i + 1))
            case measure => omega
            case rel => exact ⟨gx, i + 1, bs, by go_num, by omega, rfl, R, L, B, FIN.out⟩
    · have hi64 : i = 64 := by omega
      have fin : Digits.val bs = a * b := by
        rw [V.out, hi64, Nat.mod_eq_of_lt ha]
      have FIN := Lib.hid fin
      clear fin V hi64
      go_wp2_with fail
      go_ret
      exact ⟨rfl, gw, bs, R, L.out, B.out, FIN.out⟩

/-- what the long division comes to: quotient and rest, or 'it takes more than 63 bits' -/
def QR (X y q r : Nat) (ok : Bool) : Prop := (ok = true ∧ q = X / y ∧ r = X % y ∧ q < 9223372036854775808) ∨ (ok = false ∧ 9223372036854775808 ≤ X / y)

set_option maxRecDepth 100000 in
set_option maxHeartbeats 2000000 in
theorem quotient_any (G y : Nat) (bs : List Nat) (w : World) (h1 : 1 ≤ y) (h2 : y < 9223372036854775808) (R : DRow w G bs) (L : bs.length = 132) (B : ∀ x ∈ bs, x < 2) :
    Calls Try.prog 32 #[.slice (some ⟨G, 0, none⟩) 132 132, .int .u64 y] w fun e w' => w = w' ∧ ∃ (q r : Nat) (ok : Bool), e = .returned (.tuple #[.int .u64 q, .int .u64 r, .bool ok]) ∧ QR (Digits.val bs) y q r ok := by
  have HL := Lib.hid L
  have HB := Lib.hid B
  clear L B
  go_enter Try.func32, Try.ntmps32
  go_wp2_with fail
  go_loopg [7, 8, 9] 132 (fun g s7 s8 s9 wx => w = wx ∧ ∃ q r : Nat, s7 = .int .u64 q ∧ s8 = .int .u64 r ∧ s9 = .int .i64 ((g : Int) - 1) ∧ g ≤ 132 ∧ q < 9223372036854775808 ∧ r < y ∧ Hid (q = Digits.val (bs.drop g) / y) ∧ Hid (r = Digits.val (bs.drop g) % y))
  case atStart =>
    have hd : bs.drop 132 = [] := List.drop_eq_nil_of_le (by rw [HL.out]; omega)
    exact ⟨rfl, 0, 0, rfl, rfl, rfl, by omega, by omega, by omega, by show _ = _; rw [hd, Digits.val, Nat.zero_div], by show _ = _; rw [hd, Digits.val, Nat.zero_mod]⟩
  case round =>
    obtain ⟨rfl, q, r, rfl, rfl, rfl, hg, hq, hr, HQ, HR⟩ := hrel
    cases gk with
    | zero =>
      rw [show (((0 : Nat) : Int) - 1) = -1 by omega]
      go_wp2_with fail
      go_ret3
      rw [List.drop_zero] at HQ HR
      exact ⟨rfl, q, r, true, rfl, Or.inl ⟨rfl, HQ.out, HR.out, hq⟩⟩
    | succ m =>
      rw [show (((m + 1 : Nat) : Int) - 1) = (m : Int) by omega]
      by_cases hbig : 4611686018427387904 ≤ q
      · have fin : 9223372036854775808 ≤ Digits.val bs / y := by
          have k1 := Digits.drop_le bs (m + 1)
          have k2 : q * y ≤ Digits.val (bs.drop (m + 1)) := by rw [HQ.out]; exact Nat.div_mul_le_self _ _
          have k3 : 2 * Digits.val (bs.drop (m + 1)) ≤ 2 ^ (m + 1) * Digits.val (bs.drop (m + 1)) := Nat.mul_le_mul_right _ (by rw [Nat.pow_succ]; have := Nat.two_pow_pos m; omega)
          have k4 : 4611686018427387904 * y ≤ q * y := Nat.mul_le_mul_right _ hbig
          rw [Nat.le_div_iff_mul_le (by omega)]
          omega
        have FIN := Lib.hid fin
        have hbig2 : (4611686018427387904 : Int) ≤ (q : Int) := by omega
        clear fin hbig HQ HR hq hr
        go_wp2_with fail
        go_ret3
        exact ⟨rfl, 0, 0, false, rfl, Or.inr ⟨rfl, FIN.out⟩⟩
      · have hj : m < bs.length := by rw [HL.out]; omega
        have hcell := R.cell m hj
        have hd : bs.getD m 0 < 2 := by
          have : bs.getD m 0 = bs[m] := by simp [List.getD, hj]
          rw [this]
          exact HB.out _ (List.getElem_mem hj)
        have hv := Digits.val_drop bs m hj
        obtain ⟨s1, s2⟩ := Digits.div_round (Digits.val (bs.drop (m + 1))) (bs.getD m 0) y (by omega) hd
        rw [← hv, ← HQ.out, ← HR.out] at s1
        rw [← hv, ← HR.out] at s2
        have S1 := Lib.hid s1
        have S2 := Lib.hid s2
        generalize bs.getD m 0 = d at *
        have hneg : ¬ (4611686018427387904 : Int) ≤ (q : Int) := by omega
        clear s1 s2 hv
        by_cases hge : y ≤ 2 * r + d
        · have hge2 : (y : Int) ≤ 2 * (r : Int) + d := by omega
          go_wp2_with fail
          go_roundg m
          case measure => omega
          case rel => exact ⟨rfl, 2 * q + 1, 2 * r + d - y, by go_num, by go_num, rfl, by omega, by omega, by omega, by show _ = _; rw [S1.out, if_pos hge], by show _ = _; rw [S2.out, if_pos hge]⟩
        · have hge2 : ¬ (y : Int) ≤ 2 * (r : Int) + d := by omega
          go_wp2_with fail
          go_roundg m
          case measure => omega
          case rel => exact ⟨rfl, 2 * q, 2 * r + d, by go_num, by go_num, rfl, by omega, by omega, by omega, by show _ = _; rw [S1.out, if_neg hge, Nat.add_zero], by show _ = _; rw [S2.out, if_neg hge]⟩
end Go.Proofs.Ytlbncmgecfnnbaa
