/- Plain facts behind TrimAgain: what is left, cell by cell. No walk. -/
import Derived.Test.YtddihpiheopleaaTmLawM
namespace Go.Proofs.Ytddihpiheopleaa.Tm
open Ce (Cl)

def zl (l : List Cl) : List (Cl × Int) := l.zip (rolesV l)
def lc (zs : List (Cl × Int)) : List Cl := (zs.filter fun p => decide (p.2 ≠ 1)).map Prod.fst
def lr (zs : List (Cl × Int)) : List Int := (zs.filter fun p => decide (p.2 ≠ 1)).map Prod.snd
theorem lc_gone {zs : List (Cl × Int)} {c : Cl} : lc (zs ++ [(c, 1)]) = lc zs ∧ lr (zs ++ [(c, 1)]) = lr zs := by
  unfold lc lr
  rw [List.filter_append]
  simp
theorem lc_left {zs : List (Cl × Int)} {c : Cl} {r : Int} (h : r ≠ 1) : lc (zs ++ [(c, r)]) = lc zs ++ [c] ∧ lr (zs ++ [(c, r)]) = lr zs ++ [r] := by
  unfold lc lr
  rw [List.filter_append]
  simp [h]
theorem lc_len (zs : List (Cl × Int)) : (lc zs).length ≤ zs.length ∧ (lr zs).length ≤ zs.length := by
  unfold lc lr
  rw [List.length_map, List.length_map]
  exact ⟨List.length_filter_le _ _, List.length_filter_le _ _⟩
theorem zl_len (l : List Cl) : (zl l).length = l.length := by unfold zl; rw [List.length_zip, rolesV_len]; omega
theorem zl_at {l : List Cl} {k : Nat} {c : Cl} {r : Int} (h1 : l[k]? = some c) (h2 : (rolesV l)[k]? = some r) : (zl l).take (k + 1) = (zl l).take k ++ [(c, r)] := by
  have : (zl l)[k]? = some (c, r) := by unfold zl; rw [List.getElem?_zip_eq_some]; exact ⟨h1, h2⟩
  rw [List.take_add_one, this]
  rfl
theorem lc_leftF : ∀ (q p : List Cl), lc (q.zip (rolesF p q)) = leftF p q ∧ lr (q.zip (rolesF p q)) = leftR p q
  | [], _ => ⟨rfl, rfl⟩
  | c :: q, p => by
    have ih := lc_leftF q (p ++ [c])
    have e1 : leftF p (c :: q) = if roleV p q c = 1 then leftF (p ++ [c]) q else c :: leftF (p ++ [c]) q := rfl
    have e2 : leftR p (c :: q) = if roleV p q c = 1 then leftR (p ++ [c]) q else roleV p q c :: leftR (p ++ [c]) q := rfl
    rw [e1, e2, rolesF, List.zip_cons_cons]
    by_cases h : roleV p q c = 1
    · rw [if_pos h, if_pos h, ← ih.1, ← ih.2]
      unfold lc lr
      simp [h]
    · rw [if_neg h, if_neg h, ← ih.1, ← ih.2]
      unfold lc lr
      simp [h]
/-- the roles of what is left -/
theorem again (l : List Cl) : rolesV (lc (zl l)) = lr (zl l) := by
  have := lc_leftF l []
  unfold zl rolesV
  rw [this.1, this.2]
  exact left_again l
theorem space_left {l : List Cl} {i : Nat} {c : Cl} (h : (lc (zl l))[i]? = some c) (hk : c.k = 1) : 0 < some_ ((lc (zl l)).take i) ∧ 0 < some_ ((lc (zl l)).drop (i + 1)) := by
  have := (lc_leftF l []).1
  unfold zl rolesV at h ⊢
  rw [this] at h ⊢
  exact left_space h hk
end Go.Proofs.Ytddihpiheopleaa.Tm
