/- Plain arithmetic on the rows of package utf's table, beside the document's words: what a row says of its first byte. -/
import Derived.Test.YtgnalnppjhgmjaaDoorUP1
import Derived.Test.YtgnalnppjhgmjaaDoorUP2
namespace Go.Proofs.YtgnalnppjhgmjaaDoor
open Go.ChangeShapes Go.WideShapes Go.ChangeAt Go.RowKit

/-- what a first byte has beside the bits of the code point -/
def markOf (m : Nat) : Nat := if m = 1 then 0 else if m = 2 then 192 else if m = 3 then 224 else 240

theorem row_says (c i : Nat) (hi : i < 9) (h : Fits i c) : 1 ≤ Utf.long c ∧ ∃ f l lo hi : Nat, rowOf i = #[.int .u8 f, .int .u8 l, .int .u8 lo, .int .u8 hi, .int .u8 (markOf (Utf.long c)), .int .i64 (Utf.long c)] ∧
    ∀ n d, 1 ≤ n → n < Utf.long c → alw lo hi n d = Utf.may c n d := by
  have hc : i = 0 ∨ i = 1 ∨ i = 2 ∨ i = 3 ∨ i = 4 ∨ i = 5 ∨ i = 6 ∨ i = 7 ∨ i = 8 := by omega
  rcases hc with rfl | rfl | rfl | rfl | rfl | rfl | rfl | rfl | rfl
  · have h2 : 0 ≤ c ∧ c ≤ 127 := h
    have hl : Utf.long c = 1 := by unfold Utf.long; rw [if_pos h2.2]
    rw [hl]
    exact ⟨by omega, 0, 127, 0, 0, rfl, fun n d h1 h2 => by omega⟩
  · have h2 : 194 ≤ c ∧ c ≤ 223 := h
    have hl : Utf.long c = 2 := by unfold Utf.long; rw [if_neg (by omega), if_pos (by omega)]
    rw [hl]
    refine ⟨by omega, 194, 223, 128, 191, rfl, fun n d h1 h3 => ?_⟩
    have : n = 1 := by omega
    subst this
    unfold alw Utf.may
    rw [if_pos rfl, if_neg (by omega), if_neg (by omega), if_neg (by omega), if_neg (by omega), if_neg (by omega)]
  · have h2 : 224 ≤ c ∧ c ≤ 224 := h
    have hl : Utf.long c = 3 := by unfold Utf.long; rw [if_neg (by omega), if_neg (by omega), if_pos (by omega)]
    rw [hl]
    refine ⟨by omega, 224, 224, 160, 191, rfl, fun n d h1 h3 => ?_⟩
    unfold alw Utf.may
    by_cases hn : n = 1
    · rw [if_pos hn, if_neg (by omega), if_pos (by omega)]
    · rw [if_neg hn, if_pos (by omega)]
  · have h2 : 225 ≤ c ∧ c ≤ 236 := h
    have hl : Utf.long c = 3 := by unfold Utf.long; rw [if_neg (by omega), if_neg (by omega), if_pos (by omega)]
    rw [hl]
    refine ⟨by omega, 225, 236, 128, 191, rfl, fun n d h1 h3 => ?_⟩
    unfold alw Utf.may
    by_cases hn : n = 1
    · rw [if_pos hn, if_neg (by omega), if_neg (by omega), if_neg (by omega), if_neg (by omega), if_neg (by omega)]
    · rw [if_neg hn, if_pos (by omega)]
  · have h2 : 237 ≤ c ∧ c ≤ 237 := h
    have hl : Utf.long c = 3 := by unfold Utf.long; rw [if_neg (by omega), if_neg (by omega), if_pos (by omega)]
    rw [hl]
    refine ⟨by omega, 237, 237, 128, 159, rfl, fun n d h1 h3 => ?_⟩
    unfold alw Utf.may
    by_cases hn : n = 1
    · rw [if_pos hn, if_neg (by omega), if_neg (by omega), if_pos (by omega)]
    · rw [if_neg hn, if_pos (by omega)]
  · have h2 : 238 ≤ c ∧ c ≤ 239 := h
    have hl : Utf.long c = 3 := by unfold Utf.long; rw [if_neg (by omega), if_neg (by omega), if_pos (by omega)]
    rw [hl]
    refine ⟨by omega, 238, 239, 128, 191, rfl, fun n d h1 h3 => ?_⟩
    unfold alw Utf.may
    by_cases hn : n = 1
    · rw [if_pos hn, if_neg (by omega), if_neg (by omega), if_neg (by omega), if_neg (by omega), if_neg (by omega)]
    · rw [if_neg hn, if_pos (by omega)]
  · have h2 : 240 ≤ c ∧ c ≤ 240 := h
    have hl : Utf.long c = 4 := by unfold Utf.long; rw [if_neg (by omega), if_neg (by omega), if_neg (by omega), if_pos (by omega)]
    rw [hl]
    refine ⟨by omega, 240, 240, 144, 191, rfl, fun n d h1 h3 => ?_⟩
    unfold alw Utf.may
    by_cases hn : n = 1
    · rw [if_pos hn, if_neg (by omega), if_neg (by omega), if_neg (by omega), if_pos (by omega)]
    · rw [if_neg hn, if_pos (by omega)]
  · have h2 : 241 ≤ c ∧ c ≤ 243 := h
    have hl : Utf.long c = 4 := by unfold Utf.long; rw [if_neg (by omega), if_neg (by omega), if_neg (by omega), if_pos (by omega)]
    rw [hl]
    refine ⟨by omega, 241, 243, 128, 191, rfl, fun n d h1 h3 => ?_⟩
    unfold alw Utf.may
    by_cases hn : n = 1
    · rw [if_pos hn, if_neg (by omega), if_neg (by omega), if_neg (by omega), if_neg (by omega), if_neg (by omega)]
    · rw [if_neg hn, if_pos (by omega)]
  · have h2 : 244 ≤ c ∧ c ≤ 244 := h
    have hl : Utf.long c = 4 := by unfold Utf.long; rw [if_neg (by omega), if_neg (by omega), if_neg (by omega), if_pos (by omega)]
    rw [hl]
    refine ⟨by omega, 244, 244, 128, 143, rfl, fun n d h1 h3 => ?_⟩
    unfold alw Utf.may
    by_cases hn : n = 1
    · rw [if_pos hn, if_neg (by omega), if_neg (by omega), if_neg (by omega), if_neg (by omega), if_pos (by omega)]
    · rw [if_neg hn, if_pos (by omega)]

theorem no_row (c : Nat) (h : ∀ i, i < 9 → ¬ Fits i c) : Utf.long c = 0 := by
  have h0 : ¬ (0 ≤ c ∧ c ≤ 127) := h 0 (by omega)
  have h1 : ¬ (194 ≤ c ∧ c ≤ 223) := h 1 (by omega)
  have h2 : ¬ (224 ≤ c ∧ c ≤ 224) := h 2 (by omega)
  have h3 : ¬ (225 ≤ c ∧ c ≤ 236) := h 3 (by omega)
  have h4 : ¬ (237 ≤ c ∧ c ≤ 237) := h 4 (by omega)
  have h5 : ¬ (238 ≤ c ∧ c ≤ 239) := h 5 (by omega)
  have h6 : ¬ (240 ≤ c ∧ c ≤ 240) := h 6 (by omega)
  have h7 : ¬ (241 ≤ c ∧ c ≤ 243) := h 7 (by omega)
  have h8 : ¬ (244 ≤ c ∧ c ≤ 244) := h 8 (by omega)
  unfold Utf.long
  rw [if_neg (by omega), if_neg (by omega), if_neg (by omega), if_neg (by omega)]

theorem mark_le (c : Nat) (h : 1 ≤ Utf.long c) : markOf (Utf.long c) ≤ c ∧ c - markOf (Utf.long c) ≤ 127 := by
  obtain ⟨i1, i2, i3, i4⟩ := Utf.long_is c
  have hl := Utf.long_le c
  have hc : Utf.long c = 1 ∨ Utf.long c = 2 ∨ Utf.long c = 3 ∨ Utf.long c = 4 := by omega
  rcases hc with e | e | e | e
  · have := i1 e; rw [e]; simp [markOf]; omega
  · have := i2 e; rw [e]; simp [markOf]; omega
  · have := i3 e; rw [e]; simp [markOf]; omega
  · have := i4 e; rw [e]; simp [markOf]; omega

/-- the number out of the first k bytes -/
def part (mk : Nat) : List Nat → Nat
  | [] => 0
  | a :: r => r.foldl (fun x b => 64 * x + (b - 128)) (a - mk)

theorem part_snoc (mk a : Nat) (r : List Nat) (d : Nat) : part mk (a :: r ++ [d]) = 64 * part mk (a :: r) + (d - 128) := by
  simp [part]

/-- the state of the walk through the bytes: k have been read, their number is R -/
def Rd (c m : Nat) (l : List Nat) (k R : Nat) : Prop :=
  Utf.begins l = k + Utf.cnt c (m - k) k (l.drop k) ∧ R = part (markOf m) (l.take k) ∧ (∀ x ∈ (l.take k).drop 1, 128 ≤ x ∧ x ≤ 191) ∧
    (k = 1 ∧ R < 128 ∨ k = 2 ∧ R < 8192 ∨ k = 3 ∧ R < 524288 ∨ k = 4 ∧ R < 33554432)

theorem rd_first (c : Nat) (r : List Nat) (h : 1 ≤ Utf.long c) : Rd c (Utf.long c) (c :: r) 1 (c - markOf (Utf.long c)) := by
  have := mark_le c h
  refine ⟨?_, by simp [part], by simp, by omega⟩
  simp only [Utf.begins, List.drop_succ_cons, List.drop_zero]
  rw [if_neg (by omega)]

theorem rd_bound (k m R d : Nat) (hk : k < m) (hm : m ≤ 4) (hd : d ≤ 191) (h : k = 1 ∧ R < 128 ∨ k = 2 ∧ R < 8192 ∨ k = 3 ∧ R < 524288 ∨ k = 4 ∧ R < 33554432) :
    k + 1 = 1 ∧ 64 * R + (d - 128) < 128 ∨ k + 1 = 2 ∧ 64 * R + (d - 128) < 8192 ∨ k + 1 = 3 ∧ 64 * R + (d - 128) < 524288 ∨ k + 1 = 4 ∧ 64 * R + (d - 128) < 33554432 := by
  rcases h with ⟨e, hr⟩ | ⟨e, hr⟩ | ⟨e, hr⟩ | ⟨e, _⟩
  · exact .inr (.inl ⟨by omega, by omega⟩)
  · exact .inr (.inr (.inl ⟨by omega, by omega⟩))
  · exact .inr (.inr (.inr ⟨by omega, by omega⟩))
  · omega

theorem rd_next (c m : Nat) (l : List Nat) (k R d : Nat) (t : List Nat) (h : Rd c m l k R) (hk : k < m) (hm : m ≤ 4) (hd : l.drop k = d :: t) (hy : Utf.may c k d = true) : Rd c m l (k + 1) (64 * R + (d - 128)) := by
  obtain ⟨h1, h2, h3, h4⟩ := h
  have hb := Utf.may_bd _ _ _ hy
  have htk : l.take (k + 1) = l.take k ++ [d] := by
    have e : l.take (k + 1) = l.take k ++ (l.drop k).take 1 := by rw [← List.take_add]
    rw [e, hd]; simp
  have hne : ∃ a r, l.take k = a :: r := by
    cases hl : l with
    | nil => rw [hl] at hd; simp at hd
    | cons a r => exact ⟨a, r.take (k - 1), by obtain ⟨j, rfl⟩ : ∃ j, k = j + 1 := ⟨k - 1, by omega⟩; simp⟩
  obtain ⟨a, r, har⟩ := hne
  refine ⟨?_, ?_, ?_, rd_bound k m R d hk hm hb.2.1 h4⟩
  · rw [h1, hd]
    obtain ⟨j, hj⟩ : ∃ j, m - k = j + 1 := ⟨m - k - 1, by omega⟩
    have hdr : l.drop (k + 1) = t := by
      have : l.drop (k + 1) = (l.drop k).drop 1 := by rw [List.drop_drop]
      rw [this, hd]; rfl
    rw [hdr, hj, Utf.cnt, if_pos hy, show m - (k + 1) = j by omega]
    omega
  · rw [htk, h2, har, part_snoc]
  · rw [htk, har]
    rw [har] at h3
    intro x hx
    simp at hx
    rcases hx with hx | hx
    · exact h3 x (by simpa using hx)
    · subst hx; exact ⟨hb.1, hb.2.1⟩

theorem rd_stop (c : Nat) (l : List Nat) (k R : Nat) (t : List Nat) (h : Rd c (Utf.long c) l k R) (hl : l = c :: t) (hk : k < Utf.long c) (h1 : 1 ≤ k) (hd : l.drop k = [] ∨ ∃ d u, l.drop k = d :: u ∧ Utf.may c k d = false) :
    Utf.rune l = 65533 ∧ Utf.size l = k ∧ Utf.ok l = false := by
  have hb : Utf.begins l = k := by
    rw [h.1]
    obtain ⟨j, hj⟩ : ∃ j, Utf.long c - k = j + 1 := ⟨Utf.long c - k - 1, by omega⟩
    rw [hj]
    rcases hd with hd | ⟨d, u, hd, hy⟩
    · rw [hd, Utf.cnt]; omega
    · rw [hd, Utf.cnt, if_neg (by simp [hy])]; omega
  have hok : Utf.ok l = false := by
    rw [hl] at hb ⊢
    simp only [Utf.ok, hb]
    simp
    omega
  unfold Utf.rune Utf.size
  rw [hok, hb]
  simp
  omega

theorem rd_end (c : Nat) (l : List Nat) (R : Nat) (t : List Nat) (h : Rd c (Utf.long c) l (Utf.long c) R) (hl : l = c :: t) (h0 : 1 ≤ Utf.long c) (hs : Utf.long c ≤ l.length) :
    Utf.rune l = R ∧ Utf.size l = Utf.long c ∧ Utf.ok l = true := by
  obtain ⟨h1, h2, h3, h4⟩ := h
  have hb : Utf.begins l = Utf.long c := by
    rw [h1, Nat.sub_self, Utf.cnt]; omega
  have hok : Utf.ok l = true := by
    rw [hl] at hb ⊢
    simp only [Utf.ok, hb]
    simp
    omega
  refine ⟨?_, ?_, hok⟩
  · unfold Utf.rune
    rw [if_pos hok, hb, h2]
    obtain ⟨i1, i2, i3, i4⟩ := Utf.long_is c
    have hm := Utf.long_le c
    have hc : Utf.long c = 1 ∨ Utf.long c = 2 ∨ Utf.long c = 3 ∨ Utf.long c = 4 := by omega
    subst hl
    rcases hc with e | e | e | e
    · have := i1 e
      rw [e]
      simp [Utf.point, part, markOf]
    · have := i2 e
      rw [e] at hs h3 ⊢
      match t, hs, h3 with
      | b :: t, _, h3 =>
        have hb := h3 b (by simp)
        simp [Utf.point, part, markOf]
        omega
      | [], hs, _ => simp at hs
    · have := i3 e
      rw [e] at hs h3 ⊢
      match t, hs, h3 with
      | b :: d :: t, _, h3 =>
        have hb := h3 b (by simp)
        have hd := h3 d (by simp)
        simp [Utf.point, part, markOf]
        omega
      | [_], hs, _ => simp at hs
      | [], hs, _ => simp at hs
    · have := i4 e
      rw [e] at hs h3 ⊢
      match t, hs, h3 with
      | b :: d :: x :: t, _, h3 =>
        have hb := h3 b (by simp)
        have hd := h3 d (by simp)
        have hx := h3 x (by simp)
        simp [Utf.point, part, markOf]
        omega
      | [_, _], hs, _ => simp at hs
      | [_], hs, _ => simp at hs
      | [], hs, _ => simp at hs
  · unfold Utf.size
    rw [if_pos hok, hb]
end Go.Proofs.YtgnalnppjhgmjaaDoor
