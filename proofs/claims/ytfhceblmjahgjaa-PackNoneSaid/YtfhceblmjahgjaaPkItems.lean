/- Plain arithmetic, no program: things of layer 3 of any of the seven kinds, one behind another: what is written is read in the same order; what is read is written so; bytes whose last one is missing lack something (P3.3, P3.4). -/
import Derived.Test.YtfhceblmjahgjaaPkMath
namespace Go.Proofs.Ytfhceblmjahgjaa.Pk

/-- a thing that is written -/
inductive It where
  | num (n : Nat)
  | int (z : Int)
  | truth (b : Bool)
  | text (s : List Nat)
  | nums (l : List Nat)
  | ints (l : List Int)
  | texts (l : List (List Nat))

/-- its kind: as the statements count them -/
def It.kind : It → Nat
  | .num _ => 0
  | .int _ => 1
  | .truth _ => 2
  | .text _ => 3
  | .nums _ => 4
  | .ints _ => 5
  | .texts _ => 6

/-- its bytes -/
def It.enc : It → List Nat
  | .num n => Pk.num n
  | .int z => Pk.int z
  | .truth b => Pk.truth b
  | .text s => Pk.text s
  | .nums l => list Pk.num l
  | .ints l => list Pk.int l
  | .texts l => list Pk.text l

def It.Ok : It → Prop
  | .num n => OkN n
  | .int z => OkI z
  | .truth _ => True
  | .text s => OkS s
  | .nums l => OkL OkN l
  | .ints l => OkL OkI l
  | .texts l => OkL OkS l

/-- a thing of a kind is read -/
def rd (k : Nat) (q : Left) : It × Left :=
  if k = 1 then (.int (rInt q).1, (rInt q).2)
  else if k = 2 then (.truth (rTruth q).1, (rTruth q).2)
  else if k = 3 then (.text (rText q).1, (rText q).2)
  else if k = 4 then (.nums (rList rNum q).1, (rList rNum q).2)
  else if k = 5 then (.ints (rList rInt q).1, (rList rInt q).2)
  else if k = 6 then (.texts (rList rText q).1, (rList rText q).2)
  else (.num (rNum q).1, (rNum q).2)

theorem rd_back (x : It) (t : List Nat) (h : x.Ok) : rd x.kind (some (x.enc ++ t)) = (x, some t) := by
  cases x with
  | num n => have := wayNum.back n t h; simp only [rd, It.kind, It.enc, this]; rfl
  | int z => have := wayInt.back z t h; simp only [rd, It.kind, It.enc, this]; rfl
  | truth b => have := wayTruth.back b t trivial; simp only [rd, It.kind, It.enc, this]; rfl
  | text s => have := wayText.back s t h; simp only [rd, It.kind, It.enc, this]; rfl
  | nums l => have := (wayList wayNum).back l t h; simp only [rd, It.kind, It.enc, this]; rfl
  | ints l => have := (wayList wayInt).back l t h; simp only [rd, It.kind, It.enc, this]; rfl
  | texts l => have := (wayList wayText).back l t h; simp only [rd, It.kind, It.enc, this]; rfl

theorem rd_same (k : Nat) (hk : k < 7) (l : List Nat) (x : It) (t : List Nat) (hl : ∀ b ∈ l, b < 256) (h : rd k (some l) = (x, some t)) : l = x.enc ++ t ∧ x.Ok ∧ x.kind = k := by
  have hc : k = 0 ∨ k = 1 ∨ k = 2 ∨ k = 3 ∨ k = 4 ∨ k = 5 ∨ k = 6 := by omega
  rcases hc with rfl | rfl | rfl | rfl | rfl | rfl | rfl
  · simp only [rd] at h
    simp at h
    obtain ⟨rfl, h2⟩ := h
    have := wayNum.same l _ t hl (by rw [← h2])
    exact ⟨this.1, this.2, rfl⟩
  · simp only [rd] at h
    simp at h
    obtain ⟨rfl, h2⟩ := h
    have := wayInt.same l _ t hl (by rw [← h2])
    exact ⟨this.1, this.2, rfl⟩
  · simp only [rd] at h
    simp at h
    obtain ⟨rfl, h2⟩ := h
    have := wayTruth.same l _ t hl (by rw [← h2])
    exact ⟨this.1, trivial, rfl⟩
  · simp only [rd] at h
    simp at h
    obtain ⟨rfl, h2⟩ := h
    have := wayText.same l _ t hl (by rw [← h2])
    exact ⟨this.1, this.2, rfl⟩
  · simp only [rd] at h
    simp at h
    obtain ⟨rfl, h2⟩ := h
    have := (wayList wayNum).same l _ t hl (by rw [← h2])
    exact ⟨this.1, this.2, rfl⟩
  · simp only [rd] at h
    simp at h
    obtain ⟨rfl, h2⟩ := h
    have := (wayList wayInt).same l _ t hl (by rw [← h2])
    exact ⟨this.1, this.2, rfl⟩
  · simp only [rd] at h
    simp at h
    obtain ⟨rfl, h2⟩ := h
    have := (wayList wayText).same l _ t hl (by rw [← h2])
    exact ⟨this.1, this.2, rfl⟩

theorem rd_none (k : Nat) : (rd k none).2 = none := by
  unfold rd
  split
  · exact congrArg Prod.snd wayInt.nil
  · split
    · exact congrArg Prod.snd wayTruth.nil
    · split
      · exact congrArg Prod.snd wayText.nil
      · split
        · exact congrArg Prod.snd (wayList wayNum).nil
        · split
          · exact congrArg Prod.snd (wayList wayInt).nil
          · split
            · exact congrArg Prod.snd (wayList wayText).nil
            · exact congrArg Prod.snd wayNum.nil

theorem enc_ne (x : It) (h : x.Ok) : x.enc ≠ [] := by
  cases x with
  | num n => exact wayNum.ne n h
  | int z => exact wayInt.ne z h
  | truth b => exact wayTruth.ne b trivial
  | text s => exact wayText.ne s h
  | nums l => exact (wayList wayNum).ne l h
  | ints l => exact (wayList wayInt).ne l h
  | texts l => exact (wayList wayText).ne l h

theorem kind_lt (x : It) : x.kind < 7 := by cases x <;> simp [It.kind]

theorem flat_lt {α : Type} (e : α → List Nat) (l : List α) (h : ∀ x ∈ l, ∀ b ∈ e x, b < 256) : ∀ b ∈ l.flatMap e, b < 256 := by
  intro b hb
  obtain ⟨x, hx, hb⟩ := List.mem_flatMap.1 hb
  exact h x hx b hb

theorem int_lt (z : Int) (h : OkI z) : ∀ b ∈ Pk.int z, b < 256 := num_lt _ (zig_lt z h.1 h.2)
theorem text_lt (s : List Nat) (h : OkS s) : ∀ b ∈ Pk.text s, b < 256 := by
  intro b hb
  rcases List.mem_append.1 hb with hb | hb
  · exact num_lt _ h.1 b hb
  · exact h.2 b hb
theorem list_lt {α : Type} {ok : α → Prop} (e : α → List Nat) (l : List α) (h : OkL ok l) (he : ∀ x, ok x → ∀ b ∈ e x, b < 256) : ∀ b ∈ list e l, b < 256 := by
  intro b hb
  rcases List.mem_append.1 hb with hb | hb
  · exact num_lt _ h.1 b hb
  · exact flat_lt e l (fun x hx => he x (h.2 x hx)) b hb

theorem enc_lt (x : It) (h : x.Ok) : ∀ b ∈ x.enc, b < 256 := by
  cases x with
  | num n => exact num_lt n h
  | int z => exact int_lt z h
  | truth b => exact num_lt _ (by cases b <;> simp)
  | text s => exact text_lt s h
  | nums l => exact list_lt Pk.num l h (fun n hn => num_lt n hn)
  | ints l => exact list_lt Pk.int l h int_lt
  | texts l => exact list_lt Pk.text l h text_lt

theorem rd_short (x : It) (h : x.Ok) : (rd x.kind (some x.enc.dropLast)).2 = none := by
  cases hq : (rd x.kind (some x.enc.dropLast)).2 with
  | none => rfl
  | some t =>
    exfalso
    have hs := rd_same x.kind (kind_lt x) x.enc.dropLast (rd x.kind (some x.enc.dropLast)).1 t (fun b hb => enc_lt x h b (List.dropLast_subset _ hb)) (by rw [← hq])
    have hne := enc_ne x h
    have he : x.enc = (rd x.kind (some x.enc.dropLast)).1.enc ++ (t ++ [x.enc.getLast hne]) := by
      rw [← List.append_assoc, ← hs.1, List.dropLast_concat_getLast hne]
    have h1 := rd_back _ (t ++ [x.enc.getLast hne]) hs.2.1
    rw [hs.2.2, ← he] at h1
    have h2 := rd_back x [] h
    rw [List.append_nil] at h2
    rw [h2] at h1
    simp at h1

/-- what is left when things of these kinds have been read -/
def rest : List Nat → Left → Left
  | [], q => q
  | k :: ks, q => rest ks (rd k q).2

theorem rest_none : ∀ ks, rest ks none = none
  | [] => rfl
  | k :: ks => by rw [rest, rd_none, rest_none ks]

/-- P3.4 -/
theorem rest_short : ∀ (l : List It), l ≠ [] → (∀ x ∈ l, x.Ok) → rest (l.map It.kind) (some (l.flatMap It.enc).dropLast) = none
  | [], h, _ => absurd rfl h
  | [x], _, h => by
    have := rd_short x (h x (by simp))
    simp [rest, this]
  | x :: y :: l, _, h => by
    have hy := enc_ne y (h y (by simp))
    have hne : (y :: l).flatMap It.enc ≠ [] := by
      rw [List.flatMap_cons]
      intro e
      exact hy (List.append_eq_nil_iff.1 e).1
    have e : ((x :: y :: l).flatMap It.enc).dropLast = x.enc ++ ((y :: l).flatMap It.enc).dropLast := by
      rw [List.flatMap_cons, List.dropLast_append_of_ne_nil hne]
    have hx := rd_back x ((y :: l).flatMap It.enc).dropLast (h x (by simp))
    rw [e, List.map_cons, rest, hx]
    exact rest_short (y :: l) (by simp) (fun z hz => h z (by simp at hz ⊢; right; exact hz))
end Go.Proofs.Ytfhceblmjahgjaa.Pk
