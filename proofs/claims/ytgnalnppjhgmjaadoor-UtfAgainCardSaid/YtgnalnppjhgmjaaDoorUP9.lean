/- Contract of package utf's Encode: the bytes of all numbers. Conditions: at most 5000 numbers, which lie where the slice says, each an int32. -/
import Derived.Test.YtgnalnppjhgmjaaDoorUP8
import Derived.Laws.BytesArg
namespace Go.Proofs.YtgnalnppjhgmjaaDoor
open Go.ChangeShapes Go.WideShapes Go.ChangeAt Go.RowKit

theorem one_lt (r : Int) : ∀ b ∈ Utf.one r, b < 256 := by
  have hp := Utf.fix_pt r
  unfold Utf.Pt at hp
  unfold Utf.one
  obtain ⟨p, hpe⟩ : ∃ p, (Utf.fix r).toNat = p := ⟨_, rfl⟩
  have hp2 : p ≤ 1114111 := by omega
  rw [hpe]
  unfold Utf.bytes
  intro b hb
  split at hb
  · simp at hb; omega
  · split at hb
    · simp at hb; omega
    · split at hb
      · simp at hb; omega
      · simp at hb; omega

theorem enc_lt (zs : List Int) : ∀ b ∈ Utf.enc zs, b < 256 := by
  intro b hb
  unfold Utf.enc at hb
  rw [List.mem_flatMap] at hb
  obtain ⟨z, _, hz⟩ := hb
  exact one_lt z b hz

theorem bs_of_nums (L : List Nat) (h : ∀ b ∈ L, b < 256) : bs (strOfNums (L.map fun (b : Nat) => (b : Int))) = L := by
  unfold bs
  rw [strOfNums_data, List.map_map, List.map_map]
  conv => rhs; rw [← List.map_id L]
  apply List.map_congr_left
  intro b hb
  have := h b hb
  simp
  omega

theorem conv_own {w : World} {base : Nat} {v : Value} {L : List Nat} (h : w.ownsRow base 5 1 v L.length (cb L)) (hL : ∀ b ∈ L, b < 256) :
    ∃ s, bs s = L ∧ (convert 35 9 v).run Tryd.prog w = .ok (.string s) w := by
  rcases Nat.eq_zero_or_pos L.length with h0 | h0
  · have e : L = [] := List.length_eq_zero_iff.1 h0
    subst e
    rcases h.2 with ⟨rfl, _⟩ | ⟨g, cap, cur, rfl, _⟩
    · exact ⟨ByteArray.empty, rfl, run_convert_bytes_nil w _ _ Tryd.underlying35 Tryd.underlying5 0 0 _ Tryd.underlying9⟩
    · refine ⟨strOfNums [], rfl, run_convert_bytes_arg w _ _ Tryd.underlying35 Tryd.underlying5 g 0 0 cap [] rfl (fun i hi => by omega) _ Tryd.underlying9⟩
  · obtain ⟨g, c, rfl, _, _⟩ := World.ownsRow.form h h0
    refine ⟨_, bs_of_nums L hL, run_convert_bytes_arg w _ _ Tryd.underlying35 Tryd.underlying5 g 0 L.length c _ (by simp) (fun i hi => ?_) _ Tryd.underlying9⟩
    have := World.ownsRow.cells h (g := g) rfl i (.int .u8 (L[i] : Nat)) (by simp [cb, hi])
    rw [add_plain] at this
    simpa [List.getD, hi] using this

set_option maxRecDepth 100000 in
set_option maxHeartbeats 1000000 in
theorem uencode_nil (w : World) :
    Calls Tryd.prog 16 #[.slice none 0 0] w fun e w' => ∃ s, e = .returned (.string s) ∧ bs s = [] ∧ Below w.heap.size w w' := by
  have hcv : (convert 35 9 (.slice none 0 0)).run Tryd.prog w = .ok (.string ByteArray.empty) w := run_convert_bytes_nil w _ _ Tryd.underlying35 Tryd.underlying5 0 0 _ Tryd.underlying9
  go_enter Tryd.func16, Tryd.ntmps16
  go_wp2_with fail
  refine wp_loop_rounds 1 ?_
  rw [rounds_succ]
  go_wp2_with fail
  go_ret
  exact ⟨_, rfl, rfl, Below.refl _ _⟩

set_option maxRecDepth 100000 in
set_option maxHeartbeats 4000000 in
theorem uencode_some (a : Addr) (zs : List Int) (cap : Nat) (w : World) (hn : zs.length ≤ 5000) (ha : zs.length = 0 ∨ a.block < w.heap.size)
    (hc : ∀ j, j < zs.length → w.cell? (a.add j) = some (.int .i32 (zs.getD j 0))) (hr : ∀ z ∈ zs, -2147483648 ≤ z ∧ z ≤ 2147483647) :
    Calls Tryd.prog 16 #[.slice (some a) zs.length cap] w fun e w' => ∃ s, e = .returned (.string s) ∧ bs s = Utf.enc zs ∧ Below w.heap.size w w' := by
  have HA := Lib.hid ha
  have HC := Lib.hid hc
  have HR := Lib.hid hr
  clear ha hc hr
  go_enter Tryd.func16, Tryd.ntmps16
  go_wp2_with fail
  go_loopg [3, 8] 6000 (fun g s3 s8 wx => Below w.heap.size w wx ∧ ∃ k : Nat, s8 = .int .i64 k ∧ k ≤ zs.length ∧ g = 6000 - k ∧ wx.ownsRow w.heap.size 5 1 s3 (Utf.enc (zs.take k)).length (cb (Utf.enc (zs.take k))))
  case atStart => exact ⟨Below.refl _ _, 0, rfl, by omega, rfl, World.ownsRow_nil _ _ _ _⟩
  case round =>
    obtain ⟨bel, k, rfl, hk, rfl, hown⟩ := hrel
    have hel := enc_len (zs.take k)
    have htl : (zs.take k).length ≤ 5000 := by rw [List.length_take]; omega
    have htl2 : (Utf.enc (zs.take k)).length ≤ 20000 := by omega
    by_cases hlt : k < zs.length
    · have hcell : wr.cell? (a.add k) = some (.int .i32 (zs.getD k 0)) := by
        rw [bel.cell (by rw [block_add]; rcases HA.out with h | h <;> omega)]
        exact HC.out k hlt
      have HT := Lib.hid (enc_snoc zs k hlt)
      have hz := HR.out (zs.getD k 0) (by simp only [List.getD, List.getElem?_eq_getElem hlt, Option.getD_some]; exact List.getElem_mem hlt)
      generalize zs.getD k 0 = x at *
      have C := Lib.hid (ap_any w.heap.size _ (Utf.enc (zs.take k)).length _ x hz.1 hz.2 wr hown (by omega) bel.size)
      have HO := Lib.hid hown
      clear hown hel htl htl2
      go_wp2_with fail
      refine C.out.mono ?_
      rintro e w1 ⟨v', rfl, hown2, o, hg⟩
      have bel2 : Below w.heap.size w w1 := (bel.alloc bel.size _).grown hg (by simp; have := bel.size; omega) (fun g hg => (HO.out.lt g hg).1)
      have hown3 : w1.ownsRow w.heap.size 5 1 v' (Utf.enc (zs.take (k + 1))).length (cb (Utf.enc (zs.take (k + 1)))) := by
        rw [HT.out, List.length_append]
        unfold cb
        rw [List.map_append]
        exact hown2
      have HO3 := Lib.hid hown3
      clear hown2 hown3 hg HO C hcell
      go_wp2_with fail
      go_roundg (6000 - (k + 1))
      case measure => omega
      case rel => exact ⟨bel2, k + 1, by go_num, by omega, rfl, HO3.out⟩
    · obtain rfl : k = zs.length := by omega
      rw [List.take_length] at hown
      obtain ⟨S, hS, hcv⟩ := conv_own hown (enc_lt zs)
      have HS := Lib.hid hS
      clear hown hS hel htl htl2
      go_wp2_with fail
      go_ret
      exact ⟨_, rfl, HS.out, bel⟩
end Go.Proofs.YtgnalnppjhgmjaaDoor
