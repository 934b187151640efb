/- Contracts of package pack: (*Writer).Int, Truth, Text, Bytes. -/
import Derived.Test.YtfhceblmjahgjaaPkW2
namespace Go.Proofs.Ytfhceblmjahgjaa
open Go.ChangeShapes Go.WideShapes Go.ChangeAt Go.RowKit

theorem not64 (z : Int) (h1 : -9223372036854775808 ≤ z) (h2 : z ≤ 9223372036854775807) : bits .xor .i64 (-1) z = -z - 1 := by
  show IntKind.i64.wrap ((BitVec.ofInt 64 (-1) ^^^ BitVec.ofInt 64 z).toNat : Int) = _
  have e : BitVec.ofInt 64 (-1) = BitVec.allOnes 64 := by decide
  rw [e, BitVec.allOnes_xor, BitVec.toNat_not, BitVec.toNat_ofInt, IntKind.wrap_i64]
  omega

set_option maxRecDepth 100000 in
set_option maxHeartbeats 2000000 in
theorem wint_any (p : Nat) (v : Value) (xs : List Nat) (z : Int) (w : World) (h : Wr w p v xs) (hz : Pk.OkI z) (hl : xs.length + 9 ≤ 140737488355328) :
    Calls Try.prog 35 #[.pointer (some ⟨p, 0, none⟩), .int .i64 z] w (WPost w p v (xs ++ Pk.int z)) := by
  obtain ⟨hz1, hz2⟩ := hz
  have C := Lib.hid (wnum_any p v xs (Pk.zig z) w h (Pk.zig_lt z hz1 hz2) hl)
  obtain ⟨q, hq⟩ : ∃ q, Pk.zig z = q := ⟨_, rfl⟩
  unfold Pk.int
  rw [hq] at C ⊢
  clear h
  by_cases h0 : z < 0
  · have e : (q : Int) = 2 * (-z - 1) + 1 := by rw [← hq]; unfold Pk.zig; rw [if_neg (by omega)]; omega
    clear hq
    obtain ⟨y, hy⟩ : ∃ y : Int, -z - 1 = y := ⟨_, rfl⟩
    have hb := not64 z hz1 hz2
    rw [hy] at hb e
    have hy0 : 0 ≤ y := by omega
    have hy1 : y ≤ 9223372036854775807 := by omega
    have w1 : IntKind.u64.wrap y = y := by show y % 18446744073709551616 = y; omega
    obtain ⟨t, ht⟩ : ∃ t : Int, 2 * y = t := ⟨_, rfl⟩
    have w2 : IntKind.u64.wrap (2 * y) = t := by show (2 * y) % 18446744073709551616 = t; omega
    have w3 : IntKind.u64.wrap (t + 1) = (q : Int) := by show (t + 1) % 18446744073709551616 = _; omega
    clear e hy ht
    go_enter Try.func35, Try.ntmps35
    go_wp2_with fail
    with_reducible refine C.out.mono ?_
    rintro e w' ⟨rfl, hw⟩
    go_wp2_with fail
    (try simp only [Exit.inBlock, Exit.then])
    refine bodyPost_ret (results_none rfl _ _ _) rfl ?_
    exact ⟨rfl, hw⟩
  · have e : (q : Int) = 2 * z := by rw [← hq]; unfold Pk.zig; rw [if_pos (by omega)]; omega
    clear hq
    rw [e] at C
    clear e
    go_enter Try.func35, Try.ntmps35
    go_wp2_with fail
    with_reducible refine C.out.mono ?_
    rintro e w' ⟨rfl, hw⟩
    go_wp2_with fail
    go_end0
    exact ⟨rfl, hw⟩

set_option maxRecDepth 100000 in
theorem wtruth_any (p : Nat) (v : Value) (xs : List Nat) (b : Bool) (w : World) (h : Wr w p v xs) (hl : xs.length + 9 ≤ 140737488355328) :
    Calls Try.prog 37 #[.pointer (some ⟨p, 0, none⟩), .bool b] w (WPost w p v (xs ++ Pk.truth b)) := by
  cases b
  · have C := Lib.hid (wnum_any p v xs 0 w h (by omega) hl)
    clear h
    go_enter Try.func37, Try.ntmps37
    go_wp2_with fail
    refine C.out.mono ?_
    rintro e w' ⟨rfl, hw⟩
    go_wp2_with fail
    go_end0
    exact ⟨rfl, hw⟩
  · have C := Lib.hid (wnum_any p v xs 1 w h (by omega) hl)
    clear h
    go_enter Try.func37, Try.ntmps37
    go_wp2_with fail
    refine C.out.mono ?_
    rintro e w' ⟨rfl, hw⟩
    go_wp2_with fail
    (try simp only [Exit.inBlock, Exit.then])
    refine bodyPost_ret (results_none rfl _ _ _) rfl ?_
    exact ⟨rfl, hw⟩

set_option maxRecDepth 100000 in
set_option maxHeartbeats 1000000 in
theorem wtext_any (p : Nat) (v : Value) (xs : List Nat) (s : ByteArray) (w : World) (h : Wr w p v xs) (hl : xs.length + s.size + 9 ≤ 140737488355328) :
    Calls Try.prog 36 #[.pointer (some ⟨p, 0, none⟩), .string s] w (WPost w p v (xs ++ Pk.text (bs s))) := by
  have C1 := Lib.hid (wis_yes p v xs w h)
  have C2 := Lib.hid (wnum_any p v xs s.size w h (by omega) (by omega))
  have hlen := Pk.num_len s.size (by omega)
  have HL := Lib.hid hlen.2
  clear h hlen
  go_enter Try.func36, Try.ntmps36
  go_wp2_with fail
  refine C1.out.mono ?_
  rintro e w' ⟨rfl, rfl⟩
  go_wp2_with fail
  refine C2.out.mono ?_
  rintro e w1 ⟨rfl, v1, hw⟩
  have hc : w1.cell? ⟨p, 1, none⟩ = some v1 := hw.wr.blk.cell 1
  have HW := Lib.hid hw
  clear hw
  go_wp2_with (at_builtin; refine wpList_apps _ rfl _ _ rfl p v1 (xs ++ Pk.num s.size) HW.out.wr rfl s rfl ?c2 ?_)
  case c2 =>
    have := HL.out
    rw [List.length_append]
    omega
  intro v' w2 hA
  have h1 := hA.cell
  have h2 := hA.frozen
  obtain ⟨A, m, c, rfl⟩ := hA.form
  have HA := Lib.hid hA
  clear hA
  go_wp2_with fail
  go_end0
  refine ⟨rfl, .slice A m c, ?_⟩
  have := HW.out.trans HA.out.done
  unfold Pk.text
  rw [bs_len]
  first | exact this | rwa [List.append_assoc] at this

/-- bytes as a string -/
theorem bs_of_nums (L : List Nat) (h : ∀ b ∈ L, b < 256) : bs (strOfNums (L.map fun (b : Nat) => (b : Int))) = L := by
  unfold bs
  rw [strOfNums_data, List.map_map, List.map_map]
  conv => rhs; rw [← List.map_id L]
  apply List.map_congr_left
  intro b hb
  have := h b hb
  simp
  omega

theorem conv_own {w : World} {base : Nat} {v : Value} {L : List Nat} (h : w.ownsRow base 5 1 v L.length (cb L)) (hL : ∀ b ∈ L, b < 256) :
    ∃ s, bs s = L ∧ (convert 35 9 v).run Try.prog w = .ok (.string s) w := by
  rcases Nat.eq_zero_or_pos L.length with h0 | h0
  · have e : L = [] := List.length_eq_zero_iff.1 h0
    subst e
    rcases h.2 with ⟨rfl, _⟩ | ⟨g, cap, cur, rfl, _⟩
    · exact ⟨ByteArray.empty, rfl, run_convert_bytes_nil w _ _ Try.underlying35 Try.underlying5 0 0 _ Try.underlying9⟩
    · refine ⟨strOfNums [], rfl, run_convert_bytes_arg w _ _ Try.underlying35 Try.underlying5 g 0 0 cap [] rfl (fun i hi => by omega) _ Try.underlying9⟩
  · obtain ⟨g, c, rfl, _, _⟩ := World.ownsRow.form h h0
    refine ⟨_, bs_of_nums L hL, run_convert_bytes_arg w _ _ Try.underlying35 Try.underlying5 g 0 L.length c _ (by simp) (fun i hi => ?_) _ Try.underlying9⟩
    have := World.ownsRow.cells h (g := g) rfl i (.int .u8 (L[i] : Nat)) (by simp [cb, hi])
    rw [add_plain] at this
    simpa [List.getD, hi] using this

set_option maxRecDepth 100000 in
set_option maxHeartbeats 1000000 in
theorem wbytes_any (p : Nat) (v : Value) (xs : List Nat) (w : World) (h : Wr w p v xs) (hx : ∀ b ∈ xs, b < 256) :
    Calls Try.prog 14 #[.pointer (some ⟨p, 0, none⟩)] w fun e w' => (∃ s, e = .returned (.string s) ∧ bs s = xs) ∧ w = w' := by
  have C1 := Lib.hid (wis_yes p v xs w h)
  obtain ⟨s, hs, hcv⟩ := conv_own h.own hx
  have hc : w.cell? ⟨p, 1, none⟩ = some v := h.blk.cell 1
  have HS := Lib.hid hs
  clear hs h
  go_enter Try.func14, Try.ntmps14
  go_wp2_with fail
  refine C1.out.mono ?_
  rintro e w' ⟨rfl, rfl⟩
  go_wp2_with fail
  go_ret
  exact ⟨⟨s, rfl, HS.out⟩, rfl⟩
end Go.Proofs.Ytfhceblmjahgjaa
