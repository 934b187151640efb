/- Plain arithmetic, no program: UTF-8 over lists of bytes (as natural numbers below 256): how many bytes begin well-formed ones, the code point of well-formed bytes, a text's characters, the bytes of a number; and what holds between them (P2.3, P2.4). -/
import Derived.KernelRfl
namespace Go.Proofs.YtejcfhfmdijimaaDoor.Utf

/-- how many bytes well-formed ones have that begin with c; 0: none begin so -/
def long (c : Nat) : Nat := if c ≤ 127 then 1 else if 194 ≤ c ∧ c ≤ 223 then 2 else if 224 ≤ c ∧ c ≤ 239 then 3 else if 240 ≤ c ∧ c ≤ 244 then 4 else 0

/-- may c stand as the i-th byte behind the first one f? -/
def may (f i c : Nat) : Bool :=
  if 1 < i then decide (128 ≤ c ∧ c ≤ 191) else if f = 224 then decide (160 ≤ c ∧ c ≤ 191) else if f = 237 then decide (128 ≤ c ∧ c ≤ 159) else if f = 240 then decide (144 ≤ c ∧ c ≤ 191) else if f = 244 then decide (128 ≤ c ∧ c ≤ 143) else decide (128 ≤ c ∧ c ≤ 191)

/-- how many of at most m bytes, from the i-th on, may stand behind f -/
def cnt (f : Nat) : Nat → Nat → List Nat → Nat
  | 0, _, _ => 0
  | _ + 1, _, [] => 0
  | m + 1, i, c :: r => if may f i c then 1 + cnt f m (i + 1) r else 0

/-- how many bytes of a text are the beginning of well-formed ones -/
def begins : List Nat → Nat
  | [] => 0
  | c :: r => if long c = 0 then 0 else 1 + cnt c (long c - 1) 1 r

/-- the code point of well-formed bytes -/
def point : List Nat → Int
  | [a] => a
  | [a, b] => 64 * ((a : Int) - 192) + b - 128
  | [a, b, c] => 64 * (64 * ((a : Int) - 224) + b - 128) + c - 128
  | [a, b, c, d] => 64 * (64 * (64 * ((a : Int) - 240) + b - 128) + c - 128) + d - 128
  | _ => 0

/-- do well-formed bytes of a code point stand at the beginning? -/
def ok : List Nat → Bool
  | [] => false
  | c :: r => decide (0 < begins (c :: r)) && decide (begins (c :: r) = long c)

/-- how many bytes the first character has -/
def size (l : List Nat) : Nat := if ok l then begins l else max (begins l) 1

/-- the first character's number -/
def rune (l : List Nat) : Int := if ok l then point (l.take (begins l)) else 65533

theorem cnt_le (f : Nat) : ∀ (m i : Nat) (l : List Nat), cnt f m i l ≤ m ∧ cnt f m i l ≤ l.length
  | 0, _, _ => by simp [cnt]
  | _ + 1, _, [] => by simp [cnt]
  | m + 1, i, c :: r => by
    have := cnt_le f m (i + 1) r
    unfold cnt
    split <;> simp <;> omega

theorem long_le (c : Nat) : long c ≤ 4 := by unfold long; split <;> (try split) <;> (try split) <;> (try split) <;> omega

theorem begins_le (l : List Nat) : begins l ≤ 4 ∧ begins l ≤ l.length := by
  cases l with
  | nil => simp [begins]
  | cons c r =>
    have h1 := cnt_le c (long c - 1) 1 r
    have h2 := long_le c
    unfold begins
    simp only [List.length_cons]
    split
    · omega
    · omega

theorem size_bd (c : Nat) (r : List Nat) : 1 ≤ size (c :: r) ∧ size (c :: r) ≤ 4 ∧ size (c :: r) ≤ (c :: r).length := by
  have h := begins_le (c :: r)
  unfold size
  split
  · rename_i h1
    unfold ok at h1
    simp at h1 h
    simp
    omega
  · simp at h ⊢
    omega

/-- the characters of a text: number and size of each -/
def decs : List Nat → List (Int × Nat)
  | [] => []
  | c :: r => (rune (c :: r), size (c :: r)) :: decs ((c :: r).drop (size (c :: r)))
termination_by l => l.length
decreasing_by
  have := size_bd c r
  simp only [List.length_drop, List.length_cons] at *
  omega

/-- does a text consist of well-formed bytes only? -/
def valid : List Nat → Bool
  | [] => true
  | c :: r => ok (c :: r) && valid ((c :: r).drop (size (c :: r)))
termination_by l => l.length
decreasing_by
  have := size_bd c r
  simp only [List.length_drop, List.length_cons] at *
  omega

/-- is a number a code point? -/
def Pt (r : Int) : Prop := 0 ≤ r ∧ r ≤ 1114111 ∧ (r < 55296 ∨ 57343 < r)
instance (r : Int) : Decidable (Pt r) := by unfold Pt; infer_instance

/-- the number itself if it is a code point; else fffd -/
def fix (r : Int) : Int := if Pt r then r else 65533

/-- the bytes of a code point -/
def bytes (r : Nat) : List Nat :=
  if r < 128 then [r] else if r < 2048 then [192 + r / 64, 128 + r % 64] else if r < 65536 then [224 + r / 4096, 128 + r / 64 % 64, 128 + r % 64] else [240 + r / 262144, 128 + r / 4096 % 64, 128 + r / 64 % 64, 128 + r % 64]

/-- the bytes of a number -/
def one (r : Int) : List Nat := bytes (fix r).toNat

/-- the bytes of all numbers -/
def enc (l : List Int) : List Nat := l.flatMap one

theorem fix_pt (r : Int) : Pt (fix r) := by
  unfold fix
  split
  · assumption
  · unfold Pt; omega

theorem fix_fix (r : Int) : fix (fix r) = fix r := by
  have := fix_pt r
  show (if Pt (fix r) then fix r else 65533) = fix r
  rw [if_pos this]

theorem bytes_ok (r : Nat) (h : Pt r) (t : List Nat) : ok (bytes r ++ t) = true ∧ begins (bytes r ++ t) = (bytes r).length ∧ point (bytes r) = r := by
  unfold Pt at h
  unfold bytes
  split
  · have h1 : long r = 1 := by unfold long; rw [if_pos (by omega)]
    simp [ok, begins, h1, cnt, point]
  · split
    · have h1 : long (192 + r / 64) = 2 := by unfold long; rw [if_neg (by omega), if_pos (by omega)]
      have h2 : may (192 + r / 64) 1 (128 + r % 64) = true := by
        unfold may; rw [if_neg (by omega), if_neg (by omega), if_neg (by omega), if_neg (by omega), if_neg (by omega)]; simp; omega
      simp [ok, begins, h1, cnt, h2, point]; omega
    · split
      · have h1 : long (224 + r / 4096) = 3 := by unfold long; rw [if_neg (by omega), if_neg (by omega), if_pos (by omega)]
        have h2 : may (224 + r / 4096) 1 (128 + r / 64 % 64) = true := by
          unfold may; rw [if_neg (by omega)]
          split
          · simp; omega
          · split
            · simp; omega
            · rw [if_neg (by omega), if_neg (by omega)]; simp; omega
        have h3 : may (224 + r / 4096) 2 (128 + r % 64) = true := by unfold may; rw [if_pos (by omega)]; simp; omega
        simp [ok, begins, h1, cnt, h2, h3, point]; omega
      · have h1 : long (240 + r / 262144) = 4 := by unfold long; rw [if_neg (by omega), if_neg (by omega), if_neg (by omega), if_pos (by omega)]
        have h2 : may (240 + r / 262144) 1 (128 + r / 4096 % 64) = true := by
          unfold may; rw [if_neg (by omega), if_neg (by omega), if_neg (by omega)]
          split
          · simp; omega
          · split
            · simp; omega
            · simp; omega
        have h3 : may (240 + r / 262144) 2 (128 + r / 64 % 64) = true := by unfold may; rw [if_pos (by omega)]; simp; omega
        have h4 : may (240 + r / 262144) 3 (128 + r % 64) = true := by unfold may; rw [if_pos (by omega)]; simp; omega
        simp [ok, begins, h1, cnt, h2, h3, h4, point]; omega

theorem bytes_pos (r : Nat) : 0 < (bytes r).length := by
  unfold bytes
  split
  · simp
  · split
    · simp
    · split <;> simp

theorem one_first (r : Int) (t : List Nat) : ok (one r ++ t) = true ∧ size (one r ++ t) = (one r).length ∧ rune (one r ++ t) = fix r ∧ (one r ++ t).drop (size (one r ++ t)) = t := by
  have hp := fix_pt r
  have e : ((fix r).toNat : Int) = fix r := by unfold Pt at hp; omega
  obtain ⟨h1, h2, h3⟩ := bytes_ok (fix r).toNat (by rw [e]; exact hp) t
  have hs : size (one r ++ t) = (one r).length := by unfold size one; rw [if_pos h1, h2]
  refine ⟨h1, hs, ?_, ?_⟩
  · unfold rune one
    rw [if_pos h1, h2, List.take_left', h3, e]
    rfl
  · rw [hs, List.drop_left']
    rfl

theorem one_ne (r : Int) (t : List Nat) : ∃ c u, one r ++ t = c :: u := by
  have h := bytes_pos (fix r).toNat
  unfold one
  cases hb : bytes (fix r).toNat with
  | nil => rw [hb] at h; simp at h
  | cons c u => exact ⟨c, u ++ t, by simp⟩

theorem decs_one (r : Int) (t : List Nat) : decs (one r ++ t) = (fix r, (one r).length) :: decs t := by
  obtain ⟨h1, h2, h3, h4⟩ := one_first r t
  obtain ⟨c, u, e⟩ := one_ne r t
  rw [e] at h2 h3 h4 ⊢
  rw [decs, h4, h3, h2]

theorem valid_one (r : Int) (t : List Nat) : valid (one r ++ t) = valid t := by
  obtain ⟨h1, h2, h3, h4⟩ := one_first r t
  obtain ⟨c, u, e⟩ := one_ne r t
  rw [e] at h1 h4 ⊢
  rw [valid, h4, h1, Bool.true_and]

/-- P2.4: a text behind a valid one -/
theorem decs_enc (l : List Int) (t : List Nat) : decs (enc l ++ t) = l.map (fun r => (fix r, (one r).length)) ++ decs t := by
  induction l with
  | nil => simp [enc]
  | cons r l ih =>
    have e : enc (r :: l) ++ t = one r ++ (enc l ++ t) := by simp [enc]
    rw [e, decs_one, ih]
    simp

theorem valid_enc (l : List Int) (t : List Nat) : valid (enc l ++ t) = valid t := by
  induction l with
  | nil => simp [enc]
  | cons r l ih =>
    have e : enc (r :: l) ++ t = one r ++ (enc l ++ t) := by simp [enc]
    rw [e, valid_one, ih]

theorem decs_enc0 (l : List Int) : decs (enc l) = l.map (fun r => (fix r, (one r).length)) := by
  have := decs_enc l []
  simpa [decs] using this

theorem valid_enc0 (l : List Int) : valid (enc l) = true := by
  have := valid_enc l []
  simpa [valid] using this

theorem may_bd (f i c : Nat) (h : may f i c = true) : 128 ≤ c ∧ c ≤ 191 ∧ (i = 1 → f = 224 → 160 ≤ c) ∧ (i = 1 → f = 237 → c ≤ 159) ∧ (i = 1 → f = 240 → 144 ≤ c) ∧ (i = 1 → f = 244 → c ≤ 143) := by
  unfold may at h
  split at h
  · simp at h; omega
  · split at h
    · simp at h; omega
    · split at h
      · simp at h; omega
      · split at h
        · simp at h; omega
        · split at h
          · simp at h; omega
          · simp at h; omega

theorem long_is (a : Nat) : (long a = 1 → a ≤ 127) ∧ (long a = 2 → 194 ≤ a ∧ a ≤ 223) ∧ (long a = 3 → 224 ≤ a ∧ a ≤ 239) ∧ (long a = 4 → 240 ≤ a ∧ a ≤ 244) := by
  unfold long
  split
  · omega
  · split
    · omega
    · split
      · omega
      · split <;> omega

theorem one_pt (x : Int) (p : Nat) (e : x = p) (h : Pt x) : one x = bytes p := by
  unfold one fix
  rw [if_pos h, e, Int.toNat_natCast]

theorem cnt_step (f m i : Nat) (l : List Nat) (k : Nat) (h : cnt f (m + 1) i l = k + 1) : ∃ c r, l = c :: r ∧ may f i c = true ∧ cnt f m (i + 1) r = k := by
  cases l with
  | nil => simp [cnt] at h
  | cons c r =>
    unfold cnt at h
    split at h
    · exact ⟨c, r, rfl, by assumption, by omega⟩
    · omega

set_option maxHeartbeats 1000000 in
theorem four (a b c d : Nat) (ha : 240 ≤ a ∧ a ≤ 244) (kb : 128 ≤ b ∧ b ≤ 191 ∧ (1 = 1 → a = 224 → 160 ≤ b) ∧ (1 = 1 → a = 237 → b ≤ 159) ∧ (1 = 1 → a = 240 → 144 ≤ b) ∧ (1 = 1 → a = 244 → b ≤ 143))
    (kc : 128 ≤ c ∧ c ≤ 191 ∧ (2 = 1 → a = 224 → 160 ≤ c) ∧ (2 = 1 → a = 237 → c ≤ 159) ∧ (2 = 1 → a = 240 → 144 ≤ c) ∧ (2 = 1 → a = 244 → c ≤ 143))
    (kd : 128 ≤ d ∧ d ≤ 191 ∧ (3 = 1 → a = 224 → 160 ≤ d) ∧ (3 = 1 → a = 237 → d ≤ 159) ∧ (3 = 1 → a = 240 → 144 ≤ d) ∧ (3 = 1 → a = 244 → d ≤ 143)) :
    Pt (64 * (64 * (64 * ((a : Int) - 240) + b - 128) + c - 128) + d - 128) ∧ one (64 * (64 * (64 * ((a : Int) - 240) + b - 128) + c - 128) + d - 128) = [a, b, c, d] := by
  have kb1 : 128 ≤ b ∧ b ≤ 191 := ⟨kb.1, kb.2.1⟩
  have kb2 : a = 240 → 144 ≤ b := kb.2.2.2.2.1 rfl
  have kb3 : a = 244 → b ≤ 143 := kb.2.2.2.2.2 rfl
  have kc1 : 128 ≤ c ∧ c ≤ 191 := ⟨kc.1, kc.2.1⟩
  have kd1 : 128 ≤ d ∧ d ≤ 191 := ⟨kd.1, kd.2.1⟩
  clear kb kc kd
  obtain ⟨A, rfl⟩ : ∃ A, a = A + 240 := ⟨a - 240, by omega⟩
  obtain ⟨B, rfl⟩ : ∃ B, b = B + 128 := ⟨b - 128, by omega⟩
  obtain ⟨C, rfl⟩ : ∃ C, c = C + 128 := ⟨c - 128, by omega⟩
  obtain ⟨D, rfl⟩ : ∃ D, d = D + 128 := ⟨d - 128, by omega⟩
  have e : 64 * (64 * (64 * (((A + 240 : Nat) : Int) - 240) + ((B + 128 : Nat) : Int) - 128) + ((C + 128 : Nat) : Int) - 128) + ((D + 128 : Nat) : Int) - 128 = ((262144 * A + 4096 * B + 64 * C + D : Nat) : Int) := by omega
  rw [e]
  have hlo : 65536 ≤ 262144 * A + 4096 * B + 64 * C + D ∧ 262144 * A + 4096 * B + 64 * C + D ≤ 1114111 := by
    by_cases h0 : A = 0
    · have := kb2 (by omega); omega
    · by_cases h4 : A = 4
      · have := kb3 (by omega); omega
      · omega
  have hpt : Pt ((262144 * A + 4096 * B + 64 * C + D : Nat) : Int) := by unfold Pt; omega
  refine ⟨hpt, ?_⟩
  rw [one_pt _ _ rfl hpt]
  unfold bytes
  rw [if_neg (by omega), if_neg (by omega), if_neg (by omega), show (262144 * A + 4096 * B + 64 * C + D) / 262144 = A by omega, show (262144 * A + 4096 * B + 64 * C + D) / 4096 % 64 = B by omega, show (262144 * A + 4096 * B + 64 * C + D) / 64 % 64 = C by omega, show (262144 * A + 4096 * B + 64 * C + D) % 64 = D by omega]
  simp [Nat.add_comm]

set_option maxHeartbeats 1000000 in
/-- well-formed bytes are the bytes of their code point -/
theorem ok_bytes (l : List Nat) (h : ok l = true) : Pt (rune l) ∧ one (rune l) = l.take (size l) := by
  have hsz : size l = begins l := by unfold size; rw [if_pos h]
  have hrn : rune l = point (l.take (begins l)) := by unfold rune; rw [if_pos h]
  rw [hsz, hrn]
  clear hsz hrn
  cases l with
  | nil => simp [ok] at h
  | cons a r =>
    simp only [ok, Bool.and_eq_true, decide_eq_true_eq] at h
    obtain ⟨h1, h2⟩ := h
    rw [h2]
    simp only [begins] at h2 h1
    have hl := long_le a
    obtain ⟨i1, i2, i3, i4⟩ := long_is a
    by_cases h0 : long a = 0
    · rw [if_pos h0] at h1; omega
    rw [if_neg h0] at h2
    have hc : long a = 1 ∨ long a = 2 ∨ long a = 3 ∨ long a = 4 := by omega
    rcases hc with hc | hc | hc | hc
    · have ha := i1 hc
      rw [hc]
      simp only [List.take_succ_cons, List.take_zero, point]
      have hp : Pt (a : Int) := by unfold Pt; omega
      refine ⟨hp, ?_⟩
      rw [one_pt _ a rfl hp]
      unfold bytes
      rw [if_pos (by omega)]
    · have ha := i2 hc
      rw [hc, show 2 - 1 = 1 from rfl] at h2
      obtain ⟨b, r1, rfl, m1, _⟩ := cnt_step a 0 1 r 0 (by show cnt a 1 1 r = 1; omega)
      have k1 := may_bd _ _ _ m1
      rw [hc]
      simp only [List.take_succ_cons, List.take_zero, point]
      obtain ⟨p, hp⟩ : ∃ p : Nat, p = 64 * (a - 192) + (b - 128) := ⟨_, rfl⟩
      have e : 64 * ((a : Int) - 192) + b - 128 = (p : Int) := by omega
      have hpt : Pt (64 * ((a : Int) - 192) + b - 128) := by unfold Pt; omega
      refine ⟨hpt, ?_⟩
      rw [one_pt _ p e hpt]
      unfold bytes
      rw [if_neg (by omega), if_pos (by omega), show 192 + p / 64 = a by omega, show 128 + p % 64 = b by omega]
    · have ha := i3 hc
      rw [hc, show 3 - 1 = 2 from rfl] at h2
      obtain ⟨b, r1, rfl, m1, h3⟩ := cnt_step a 1 1 r 1 (by show cnt a 2 1 r = 2; omega)
      obtain ⟨c, r2, rfl, m2, _⟩ := cnt_step a 0 2 r1 0 h3
      have k1 := may_bd _ _ _ m1
      have k2 := may_bd _ _ _ m2
      rw [hc]
      simp only [List.take_succ_cons, List.take_zero, point]
      obtain ⟨p, hp⟩ : ∃ p : Nat, p = 4096 * (a - 224) + 64 * (b - 128) + (c - 128) := ⟨_, rfl⟩
      have e : 64 * (64 * ((a : Int) - 224) + b - 128) + c - 128 = (p : Int) := by omega
      have hpt : Pt (64 * (64 * ((a : Int) - 224) + b - 128) + c - 128) := by unfold Pt; omega
      refine ⟨hpt, ?_⟩
      rw [one_pt _ p e hpt]
      unfold bytes
      rw [if_neg (by omega), if_neg (by omega), if_pos (by omega), show 224 + p / 4096 = a by omega, show 128 + p / 64 % 64 = b by omega, show 128 + p % 64 = c by omega]
    · have ha := i4 hc
      rw [hc, show 4 - 1 = 3 from rfl] at h2
      obtain ⟨b, r1, rfl, m1, h3⟩ := cnt_step a 2 1 r 2 (by show cnt a 3 1 r = 3; omega)
      obtain ⟨c, r2, rfl, m2, h4⟩ := cnt_step a 1 2 r1 1 h3
      obtain ⟨d, r3, rfl, m3, _⟩ := cnt_step a 0 3 r2 0 h4
      rw [hc]
      simp only [List.take_succ_cons, List.take_zero, point]
      exact four a b c d ha (may_bd _ _ _ m1) (may_bd _ _ _ m2) (may_bd _ _ _ m3)

theorem rune_pt (l : List Nat) : Pt (rune l) := by
  by_cases h : ok l = true
  · exact (ok_bytes l h).1
  · unfold rune
    rw [if_neg h]
    unfold Pt
    omega

theorem rune_bytes (l : List Nat) (h : rune l ≠ 65533) : one (rune l) = l.take (size l) := by
  by_cases h1 : ok l = true
  · exact (ok_bytes l h1).2
  · exfalso
    unfold rune at h
    rw [if_neg h1] at h
    exact h rfl

/-- P2.3: the bytes of a valid text's characters are the text -/
theorem enc_decs (l : List Nat) (h : valid l = true) : enc ((decs l).map Prod.fst) = l := by
  suffices H : ∀ n (l : List Nat), l.length ≤ n → valid l = true → enc ((decs l).map Prod.fst) = l from H l.length l (Nat.le_refl _) h
  intro n
  induction n with
  | zero =>
    intro l hl _
    have : l = [] := List.length_eq_zero_iff.1 (by omega)
    subst this
    simp [decs, enc]
  | succ n ih =>
    intro l hl hv
    cases l with
    | nil => simp [decs, enc]
    | cons c r =>
      rw [valid, Bool.and_eq_true] at hv
      have hb := size_bd c r
      have h2 := ih ((c :: r).drop (size (c :: r))) (by rw [List.length_drop]; omega) hv.2
      rw [decs, List.map_cons]
      have e : enc (rune (c :: r) :: (decs ((c :: r).drop (size (c :: r)))).map Prod.fst) = one (rune (c :: r)) ++ enc ((decs ((c :: r).drop (size (c :: r)))).map Prod.fst) := by simp [enc]
      rw [e, h2, (ok_bytes _ hv.1).2, List.take_append_drop]

/-- P2.3: just if it is valid -/
theorem enc_decs_iff (l : List Nat) : enc ((decs l).map Prod.fst) = l ↔ valid l = true := by
  constructor
  · intro h
    rw [← h]
    exact valid_enc0 _
  · exact enc_decs l

/-- the characters' sizes are together the text's -/
theorem decs_sum (l : List Nat) : ((decs l).map Prod.snd).sum = l.length := by
  suffices H : ∀ n (l : List Nat), l.length ≤ n → ((decs l).map Prod.snd).sum = l.length from H l.length l (Nat.le_refl _)
  intro n
  induction n with
  | zero =>
    intro l hl
    have : l = [] := List.length_eq_zero_iff.1 (by omega)
    subst this
    simp [decs]
  | succ n ih =>
    intro l hl
    cases l with
    | nil => simp [decs]
    | cons c r =>
      have hb := size_bd c r
      have h2 := ih ((c :: r).drop (size (c :: r))) (by rw [List.length_drop]; omega)
      rw [decs, List.map_cons, List.sum_cons, h2, List.length_drop]
      omega

/-- every number of a text's characters is a code point -/
theorem decs_pt (l : List Nat) : ∀ x ∈ decs l, Pt x.1 := by
  suffices H : ∀ n (l : List Nat), l.length ≤ n → ∀ x ∈ decs l, Pt x.1 from H l.length l (Nat.le_refl _)
  intro n
  induction n with
  | zero =>
    intro l hl
    have : l = [] := List.length_eq_zero_iff.1 (by omega)
    subst this
    simp [decs]
  | succ n ih =>
    intro l hl
    cases l with
    | nil => simp [decs]
    | cons c r =>
      have hb := size_bd c r
      have h2 := ih ((c :: r).drop (size (c :: r))) (by rw [List.length_drop]; omega)
      rw [decs]
      intro x hx
      rcases List.mem_cons.1 hx with h | h
      · rw [h]; exact rune_pt _
      · exact h2 x h

/-- bytes below 128: a character each -/
theorem decs_low (l : List Nat) (h : ∀ c ∈ l, c < 128) : decs l = l.map (fun c : Nat => ((c : Int), 1)) ∧ valid l = true := by
  induction l with
  | nil => simp [decs, valid]
  | cons c r ih =>
    have hc := h c (by simp)
    have h1 : long c = 1 := by unfold long; rw [if_pos (by omega)]
    have hb : begins (c :: r) = 1 := by simp [begins, h1, cnt]
    have ho : ok (c :: r) = true := by simp [ok, hb, h1]
    have hs : size (c :: r) = 1 := by unfold size; rw [if_pos ho, hb]
    have hr : rune (c :: r) = c := by unfold rune; rw [if_pos ho, hb]; simp [point]
    obtain ⟨i1, i2⟩ := ih (fun x hx => h x (by simp [hx]))
    rw [decs, valid, hs, hr, ho]
    simp [i1, i2]

/-- bytes above 191: fffd for each -/
theorem decs_high (l : List Nat) (h : ∀ c ∈ l, 192 ≤ c) : decs l = l.map (fun _ => (65533, 1)) ∧ (l ≠ [] → valid l = false) := by
  induction l with
  | nil => simp [decs]
  | cons c r ih =>
    have hc := h c (by simp)
    have h1 : long c = 0 ∨ 2 ≤ long c := by unfold long; rw [if_neg (by omega)]; split <;> (try split) <;> (try split) <;> omega
    have hcn : cnt c (long c - 1) 1 r = 0 := by
      cases hm : long c - 1 with
      | zero => simp [cnt]
      | succ m =>
        cases r with
        | nil => simp [cnt]
        | cons d r' =>
          have hd := h d (by simp)
          unfold cnt
          rw [if_neg]
          intro hy
          have := may_bd _ _ _ hy
          omega
    have hb : begins (c :: r) ≤ 1 ∧ ¬ (0 < begins (c :: r) ∧ begins (c :: r) = long c) := by
      simp only [begins, hcn]
      split <;> omega
    have ho : ok (c :: r) = false := by
      simp only [ok, Bool.and_eq_false_iff, decide_eq_false_iff_not]
      omega
    have hs : size (c :: r) = 1 := by unfold size; rw [if_neg (by simp [ho])]; omega
    have hr : rune (c :: r) = 65533 := by unfold rune; rw [if_neg (by simp [ho])]
    obtain ⟨i1, _⟩ := ih (fun x hx => h x (by simp [hx]))
    rw [decs, valid, hs, hr, ho]
    simp [i1]
end Go.Proofs.YtejcfhfmdijimaaDoor.Utf
