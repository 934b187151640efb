/- Plain facts on white space, as the code goes: neighbours found in one pass, what goes by its place, what is changed place by place. No walk of code. -/
import Derived.Test.YtejcfhfmdijimaaDoorWhMath5
namespace Go.Proofs.YtejcfhfmdijimaaDoor.Wh

/-- the last one ahead of place i that is not passed -/
def stA (past : Cw → Bool) (l : List Cw) (i : Nat) : Cw := (l.take i).foldl (fun b c => if past c then b else c) nb
theorem stA_zero (past : Cw → Bool) (l : List Cw) : stA past l 0 = nb := rfl
theorem take_snoc' {α : Type} {l : List α} {i : Nat} {c : α} (h : l[i]? = some c) : l.take (i + 1) = l.take i ++ [c] := by
  rw [List.take_add_one, h]
  rfl
theorem stA_succ {past : Cw → Bool} {l : List Cw} {i : Nat} {c : Cw} (h : l[i]? = some c) : stA past l (i + 1) = if past c then stA past l i else c := by
  unfold stA
  rw [take_snoc' h, List.foldl_append]
  rfl
theorem nxt_at {past : Cw → Bool} {l : List Cw} {i : Nat} {c : Cw} (h : l[i]? = some c) : nxt past (l.drop i) = if past c then nxt past (l.drop (i + 1)) else c := by
  rw [drop_at h]
  rfl
theorem nxt_done {past : Cw → Bool} {l : List Cw} {i : Nat} (h : l.length ≤ i) : nxt past (l.drop i) = nb := by
  rw [drop_end h]
  rfl
/-- z points to s -/
def Pts (l : List Cw) (z : Int) (s : Cw) : Prop := (z = -1 ∧ s = nb) ∨ ∃ j : Nat, z = j ∧ l[j]? = some s
theorem Pts.lt {l : List Cw} {z : Int} {s : Cw} (h : Pts l z s) : -1 ≤ z ∧ z < l.length := by
  rcases h with ⟨rfl, _⟩ | ⟨j, rfl, hj⟩
  · omega
  · have := (List.getElem?_eq_some_iff.1 hj).1
    omega
def updZ (f : Nat → Int) (i : Nat) (v : Int) (j : Nat) : Int := if j = i then v else f j
/-- the row of places, and the last place, behind the places us -/
def walkZ (past : Cw → Bool) (l : List Cw) (us : List Nat) : (Nat → Int) × Int := us.foldl (fun s i => (updZ s.1 i s.2, if past (l.getD i nb) then s.2 else (i : Int))) ((fun _ => 0), -1)
theorem walkZ_nil (past : Cw → Bool) (l : List Cw) : walkZ past l [] = ((fun _ => 0), -1) := rfl
theorem walkZ_snoc (past : Cw → Bool) (l : List Cw) (us : List Nat) (i : Nat) : walkZ past l (us ++ [i]) = (updZ (walkZ past l us).1 i (walkZ past l us).2, if past (l.getD i nb) then (walkZ past l us).2 else (i : Int)) := by
  unfold walkZ
  rw [List.foldl_append]
  rfl
theorem walkZ_ahead (past : Cw → Bool) (l : List Cw) : ∀ k, k ≤ l.length → Pts l (walkZ past l (List.range k)).2 (stA past l k) ∧ ∀ i, i < k → Pts l ((walkZ past l (List.range k)).1 i) (stA past l i)
  | 0, _ => ⟨.inl ⟨rfl, rfl⟩, fun i hi => by omega⟩
  | k + 1, h => by
    obtain ⟨h1, h2⟩ := walkZ_ahead past l k (by omega)
    have hk : l[k]? = some (l[k]'(by omega)) := List.getElem?_eq_getElem _
    obtain ⟨c, hc⟩ : ∃ c, l[k]? = some c := ⟨_, hk⟩
    have hd : l.getD k nb = c := by rw [List.getD_eq_getElem?_getD, hc]; rfl
    rw [List.range_succ, walkZ_snoc, stA_succ hc, hd]
    refine ⟨?_, fun i hi => ?_⟩
    · cases past c with
      | true => exact h1
      | false => exact .inr ⟨k, rfl, hc⟩
    · show Pts l (updZ _ k _ i) _
      unfold updZ
      by_cases e : i = k
      · subst e
        rw [if_pos rfl]
        exact h1
      · rw [if_neg e]
        exact h2 i (by omega)
theorem rng_split {us : List Nat} {k n : Nat} (h : us ++ (List.range k).reverse = (List.range n).reverse) : us.length + k = n := by
  have := congrArg List.length h
  simpa using this
theorem walkZ_back (past : Cw → Bool) (l : List Cw) : ∀ (N k : Nat), k + N = l.length → Pts l (walkZ past l (((List.range l.length).drop k).reverse)).2 (nxt past (l.drop k)) ∧ ∀ i, k ≤ i → i < l.length → Pts l ((walkZ past l (((List.range l.length).drop k).reverse)).1 i) (nxt past (l.drop (i + 1)))
  | 0, k, h => by
    rw [List.drop_eq_nil_of_le (by simp; omega), nxt_done (by omega)]
    exact ⟨.inl ⟨rfl, rfl⟩, fun i h1 h2 => by omega⟩
  | N + 1, k, h => by
    obtain ⟨h1, h2⟩ := walkZ_back past l N (k + 1) (by omega)
    have hk : l[k]? = some (l[k]'(by omega)) := List.getElem?_eq_getElem _
    obtain ⟨c, hc⟩ : ∃ c, l[k]? = some c := ⟨_, hk⟩
    have hd : l.getD k nb = c := by rw [List.getD_eq_getElem?_getD, hc]; rfl
    have hr : ((List.range l.length).drop k).reverse = ((List.range l.length).drop (k + 1)).reverse ++ [k] := by
      have hlt : k < (List.range l.length).length := by simp; omega
      rw [List.drop_eq_getElem_cons hlt, List.reverse_cons]
      simp
    rw [hr, walkZ_snoc, hd, nxt_at hc]
    refine ⟨?_, fun i hi hl => ?_⟩
    · cases past c with
      | true => exact h1
      | false => exact .inr ⟨k, rfl, hc⟩
    · show Pts l (updZ _ k _ i) _
      unfold updZ
      by_cases e : i = k
      · subst e
        rw [if_pos rfl]
        exact h1
      · rw [if_neg e]
        exact h2 i (by omega) hl
theorem walkZ_all (past : Cw → Bool) (l : List Cw) : ∀ i, i < l.length → Pts l ((walkZ past l (List.range l.length)).1 i) (stA past l i) := (walkZ_ahead past l l.length (Nat.le_refl _)).2
theorem walkZ_rev (past : Cw → Bool) (l : List Cw) : ∀ i, i < l.length → Pts l ((walkZ past l (List.range l.length).reverse).1 i) (nxt past (l.drop (i + 1))) := fun i hi => by
  have := (walkZ_back past l l.length 0 (by omega)).2 i (by omega) hi
  simpa using this

/-! ### what goes, by its place -/
def pf (gn : Nat → Bool) (l : List Cw) : Nat → List Cw
  | 0 => []
  | k + 1 => pf gn l k ++ if gn k then [] else [l.getD k nb]
theorem pf_succ {gn : Nat → Bool} {l : List Cw} {k : Nat} {c : Cw} (h : l[k]? = some c) : pf gn l (k + 1) = pf gn l k ++ if gn k then [] else [c] := by
  rw [pf, List.getD_eq_getElem?_getD, h]
  rfl
theorem pf_len (gn : Nat → Bool) (l : List Cw) : ∀ k, (pf gn l k).length ≤ k
  | 0 => Nat.le_refl _
  | k + 1 => by
    have := pf_len gn l k
    rw [pf, List.length_append]
    split <;> simp <;> omega
/-- what a step asks at each place -/
def gnI (past : Cw → Bool) (gone : Cw → Cw → Cw → Bool) (l : List Cw) (i : Nat) : Bool := gone (stA past l i) (l.getD i nb) (nxt past (l.drop (i + 1)))
theorem gnI_at {past : Cw → Bool} {gone : Cw → Cw → Cw → Bool} {l : List Cw} {i : Nat} {c : Cw} (h : l[i]? = some c) : gnI past gone l i = gone (stA past l i) c (nxt past (l.drop (i + 1))) := by
  unfold gnI
  rw [List.getD_eq_getElem?_getD, h]
  rfl
theorem pf_filt (past : Cw → Bool) (gone : Cw → Cw → Cw → Bool) (l : List Cw) : ∀ k, k ≤ l.length → pf (gnI past gone l) l k ++ filt past gone (stA past l k) (l.drop k) = filt past gone nb l
  | 0, _ => by rw [pf, stA_zero]; rfl
  | k + 1, h => by
    rw [← pf_filt past gone l k (by omega)]
    obtain ⟨c, hc⟩ : ∃ c, l[k]? = some c := ⟨_, List.getElem?_eq_getElem (by omega)⟩
    rw [pf_succ hc, gnI_at hc, drop_at hc, filt, stA_succ hc]
    split
    · rw [List.append_nil]
    · rw [List.append_assoc]
      rfl
theorem pf_all (past : Cw → Bool) (gone : Cw → Cw → Cw → Bool) (l : List Cw) : pf (gnI past gone l) l l.length = filt past gone nb l := by
  have := pf_filt past gone l l.length (Nat.le_refl _)
  rw [drop_end (Nat.le_refl _)] at this
  simpa [filt] using this

/-! ### what is changed, place by place -/
def mt (t : Cw → Cw) (l : List Cw) (k : Nat) : List Cw := (l.take k).map t ++ l.drop k
theorem mt_zero (t : Cw → Cw) (l : List Cw) : mt t l 0 = l := rfl
theorem mt_all (t : Cw → Cw) (l : List Cw) : mt t l l.length = l.map t := by simp [mt]
theorem mt_len (t : Cw → Cw) (l : List Cw) (k : Nat) : (mt t l k).length = l.length := by
  simp [mt]
  omega
theorem mt_at {t : Cw → Cw} {l : List Cw} {k : Nat} {c : Cw} (h : l[k]? = some c) : (mt t l k)[k]? = some c := by
  have hk := (List.getElem?_eq_some_iff.1 h).1
  unfold mt
  rw [List.getElem?_append_right (by simp; omega)]
  simp only [List.length_map, List.length_take, Nat.min_eq_left (Nat.le_of_lt hk), Nat.sub_self, List.getElem?_drop, Nat.add_zero]
  exact h
theorem mt_succ {t : Cw → Cw} {l : List Cw} {k : Nat} {c : Cw} (h : l[k]? = some c) : mt t l (k + 1) = (mt t l k).set k (t c) := by
  have hk := (List.getElem?_eq_some_iff.1 h).1
  unfold mt
  have e : ((l.take k).map t).length = k := by simp; omega
  rw [take_snoc' h, List.map_append, drop_at h, List.set_append_right _ _ (by omega), e, Nat.sub_self]
  simp
end Go.Proofs.YtejcfhfmdijimaaDoor.Wh
