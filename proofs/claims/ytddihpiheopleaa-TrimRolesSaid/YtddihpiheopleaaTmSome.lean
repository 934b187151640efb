/- Contracts of the laws' some and edged. Conditions: the slice reads as the row, at most 1048576 cells. -/
import Derived.Test.YtddihpiheopleaaTmHead
namespace Go.Proofs.Ytddihpiheopleaa.Tm
open Go.ChangeShapes Go.WideShapes Go.ChangeAt Go.RowKit
open Ce
open Ta (W64)

theorem some_snoc (l : List Cl) (c : Cl) : some_ (l ++ [c]) = some_ l + (if isE c = true then 0 else 1) := by
  unfold some_
  rw [List.filter_append, List.length_append]
  cases h : isE c <;> simp [h]
theorem some_le (l : List Cl) : some_ l ≤ l.length := List.length_filter_le _ _
theorem take_succ_at {l : List Cl} {k : Nat} {c : Cl} (h : l[k]? = some c) : l.take (k + 1) = l.take k ++ [c] := by rw [List.take_add_one, h]; rfl
set_option maxRecDepth 100000 in
set_option maxHeartbeats 1000000 in
theorem some_any (l : List Cl) (v : Value) (w : World) (hR : RwCl w v l) (hlen : l.length ≤ 1048576) :
    Calls Try.prog 17 #[v] w fun e w' => e = .returned (.int .i64 (some_ l : Nat)) ∧ Below w.heap.size w w' := by
  obtain ⟨A, cap, rfl⟩ := hR.form
  obtain ⟨n, hn⟩ : ∃ n, l.length = n := ⟨_, rfl⟩
  have HN := Lib.hid hn
  rw [hn] at hlen hR ⊢
  have HR := Lib.hid hR
  clear hR hn
  go_enter Try.func17, Try.ntmps17
  go_wp2_with fail
  go_loopg [3, 4] n (fun kx s3 s4 wr => Below w.heap.size w wr ∧ ∃ (k m : Nat), s3 = .int .i64 m ∧ s4 = .int .i64 k ∧ k ≤ n ∧ m ≤ n ∧ kx = n - k ∧ Hid (some_ (l.take k) = m))
  case atStart => exact ⟨Below.refl _ _, 0, 0, by go_num, by go_num, by omega, by omega, rfl, Lib.hid rfl⟩
  case round =>
    obtain ⟨bel, k, m, rfl, rfl, hk, hm, rfl, HO⟩ := hrel
    by_cases hlt : k < n
    · have hlz : (k : Int) < n := by omega
      have HLT := Lib.hid hlt
      obtain ⟨c, hc⟩ : ∃ c, l[k]? = some c := ⟨_, List.getElem?_eq_getElem (by rw [HN.out]; exact hlt)⟩
      obtain ⟨ad, cap2, o, hv, hab, hadr, hL⟩ := (HR.out.below bel).get (Below.refl _ _) hc
      rw [HN.out] at hv
      injection hv with hv1 hv2 hv3
      subst hv1 hv3
      have c5 : wr.cell? ⟨ad.block, o, none⟩ = some (.int .u8 c.k) := by have := hL 0 _ rfl; rwa [Addr.add_lit] at this
      have hs : some_ (l.take (k + 1)) = m + (if isE c = true then 0 else 1) := by rw [take_succ_at hc, some_snoc, HO.out]
      have hm2 : some_ (l.take (k + 1)) ≤ n := by have := some_le (l.take (k + 1)); rw [List.length_take] at this; omega
      have HS := Lib.hid hs
      have HM2 := Lib.hid hm2
      have hE : Hid (isE c = (decide (c.k = 7) || (decide (c.k = 8) || decide (c.k = 5)))) := Lib.hid rfl
      obtain ⟨ck, hck⟩ : ∃ q, c.k = q := ⟨_, rfl⟩
      rw [hck] at c5 hE
      clear hck hL hv2 hc hs hm2 hlt
      by_cases h7 : ck = 7
      · have e0 : Hid (some_ (l.take (k + 1)) = m) := Lib.hid (by rw [HS.out, hE.out, h7]; rfl)
        go_wp2_with fail
        go_roundg (n - (k + 1))
        case measure => have := HLT.out; omega
        case rel => exact ⟨bel, k + 1, m, rfl, by go_num, by have := HLT.out; omega, hm, rfl, e0⟩
      · by_cases h8 : ck = 8
        · have e0 : Hid (some_ (l.take (k + 1)) = m) := Lib.hid (by rw [HS.out, hE.out, h8]; rfl)
          go_wp2_with fail
          go_roundg (n - (k + 1))
          case measure => have := HLT.out; omega
          case rel => exact ⟨bel, k + 1, m, rfl, by go_num, by have := HLT.out; omega, hm, rfl, e0⟩
        · by_cases h5 : ck = 5
          · have e0 : Hid (some_ (l.take (k + 1)) = m) := Lib.hid (by rw [HS.out, hE.out, h5]; rfl)
            go_wp2_with fail
            go_roundg (n - (k + 1))
            case measure => have := HLT.out; omega
            case rel => exact ⟨bel, k + 1, m, rfl, by go_num, by have := HLT.out; omega, hm, rfl, e0⟩
          · have e0 : Hid (some_ (l.take (k + 1)) = m + 1) := Lib.hid (by rw [HS.out, hE.out]; simp [h7, h8, h5])
            have e1 : m + 1 ≤ n := by have := HM2.out; rw [e0.out] at this; exact this
            have b7 : (ck != 7) = true := by simpa using h7
            have b8 : (ck != 8) = true := by simpa using h8
            have b5 : (ck != 5) = true := by simpa using h5
            clear h7 h8 h5
            go_wp2_with fail
            go_roundg (n - (k + 1))
            case measure => have := HLT.out; omega
            case rel => exact ⟨bel, k + 1, m + 1, by go_num, by go_num, by have := HLT.out; omega, e1, rfl, e0⟩
    · obtain rfl : k = n := by omega
      have hO := HO.out
      rw [← HN.out, List.take_length] at hO
      have HO2 := Lib.hid hO
      clear hO
      go_wp2_with fail
      go_ret
      exact ⟨by rw [HO2.out]; rfl, bel⟩

set_option maxRecDepth 100000 in
set_option maxHeartbeats 1000000 in
theorem edged_any (l : List Cl) (v : Value) (w : World) (hR : RwCl w v l) (hlen : l.length ≤ 1048576) :
    Calls Try.prog 19 #[v] w fun e w' => e = .returned (.bool (edgedV l)) ∧ Below w.heap.size w w' := by
  obtain ⟨A, cap, rfl⟩ := hR.form
  obtain ⟨n, hn⟩ : ∃ n, l.length = n := ⟨_, rfl⟩
  have HN := Lib.hid hn
  rw [hn] at hlen hR ⊢
  have HR := Lib.hid hR
  obtain ⟨z, hz⟩ : ∃ z, edgedV l = z := ⟨_, rfl⟩
  have HZ := Lib.hid hz
  rw [hz]
  clear hR hn hz
  go_enter Try.func19, Try.ntmps19
  go_wp2_with fail
  go_loopg [3] n (fun kx s3 wr => Below w.heap.size w wr ∧ ∃ (k : Nat), s3 = .int .i64 k ∧ k ≤ n ∧ kx = n - k ∧ Hid (∀ i c, i < k → l[i]? = some c → (decide (c.k ≠ 1) && decide (c.adv ≠ 0)) = false))
  case atStart => exact ⟨Below.refl _ _, 0, by go_num, by omega, rfl, Lib.hid fun i c hi => by omega⟩
  case round =>
    obtain ⟨bel, k, rfl, hk, rfl, HO⟩ := hrel
    by_cases hlt : k < n
    · have hlz : (k : Int) < n := by omega
      have HLT := Lib.hid hlt
      obtain ⟨c, hc⟩ : ∃ c, l[k]? = some c := ⟨_, List.getElem?_eq_getElem (by rw [HN.out]; exact hlt)⟩
      obtain ⟨ad, cap2, o, hv, hab, hadr, hL⟩ := (HR.out.below bel).get (Below.refl _ _) hc
      rw [HN.out] at hv
      injection hv with hv1 hv2 hv3
      subst hv1 hv3
      have c5 : wr.cell? ⟨ad.block, o, none⟩ = some (.int .u8 c.k) := by have := hL 0 _ rfl; rwa [Addr.add_lit] at this
      have c6 : wr.cell? ⟨ad.block, o + 3, none⟩ = some (.int .i64 c.adv) := by have := hL 3 _ rfl; rwa [Addr.add_lit] at this
      have HC := Lib.hid hc
      have next : Hid ((decide (c.k ≠ 1) && decide (c.adv ≠ 0)) = false → ∀ i c, i < k + 1 → l[i]? = some c → (decide (c.k ≠ 1) && decide (c.adv ≠ 0)) = false) := Lib.hid fun h i c' hi hc' => by
        rcases Nat.lt_or_ge i k with h2 | h2
        · exact HO.out i c' h2 hc'
        · obtain rfl : i = k := by omega
          have := hc'.symm.trans HC.out
          injection this with this
          rw [this]; exact h
      have HE : Hid ((decide (c.k ≠ 1) && decide (c.adv ≠ 0)) = true → z = true) := Lib.hid fun h => by rw [← HZ.out]; exact List.any_eq_true.2 ⟨c, List.mem_of_getElem? HC.out, h⟩
      clear hL hv2 hc hlt
      obtain ⟨ck, hck⟩ : ∃ q, c.k = q := ⟨_, rfl⟩
      obtain ⟨ca, hca⟩ : ∃ q, c.adv = q := ⟨_, rfl⟩
      rw [hck] at c5
      rw [hca] at c6
      rw [hck, hca] at next HE
      clear hck hca HC
      by_cases h1 : ck = 1
      · have HX := Lib.hid (next.out (by simp [h1]))
        go_wp2_with fail
        go_roundg (n - (k + 1))
        case measure => have := HLT.out; omega
        case rel => exact ⟨bel, k + 1, by go_num, by have := HLT.out; omega, rfl, HX⟩
      · have b1 : (ck != 1) = true := by simpa using h1
        by_cases h0 : ca = 0
        · have HX := Lib.hid (next.out (by simp [h0]))
          clear h1
          go_wp2_with fail
          go_roundg (n - (k + 1))
          case measure => have := HLT.out; omega
          case rel => exact ⟨bel, k + 1, by go_num, by have := HLT.out; omega, rfl, HX⟩
        · have HX := Lib.hid (HE.out (by simp [h1, h0]))
          have b0 : (ca != 0) = true := by simpa using h0
          clear h1 h0
          go_wp2_with fail
          go_ret
          exact ⟨by rw [HX.out]; rfl, bel⟩
    · obtain rfl : k = n := by omega
      go_wp2_with fail
      go_ret
      refine ⟨retb ?_, bel⟩
      rw [← HZ.out]
      unfold edgedV
      refine (List.any_eq_false.2 fun c hc => ?_).symm
      obtain ⟨i, hi⟩ := List.getElem?_of_mem hc
      have hil := (List.getElem?_eq_some_iff.1 hi).1
      have := HO.out i c (by rw [← HN.out]; exact hil) hi
      rw [this]
      decide
end Go.Proofs.Ytddihpiheopleaa.Tm
