/- Plain facts behind the laws of trim. No walk. -/
import Derived.Test.YtddihpiheopleaaTmPass
namespace Go.Proofs.Ytddihpiheopleaa.Tm
open Ce (Cl)
open Ta (wrongC stepV pn pens gone)
open Fo (fitV fitE)

/-- the last pen, and the error -/
def endV (l : List Cl) (rs : List Int) (x : Int) : Int × Int := (if (pens l rs x).2 = 0 then (pens l rs x).1.getLastD 0 else 0, (pens l rs x).2)
def goesV (l : List Cl) (x : Int) : Int × Int := endV l (rolesV l) x
def fitsV (l : List Cl) (x : Int) : Int × Int := endV l (rolesF2 l) x
theorem endV_ok {l : List Cl} {rs : List Int} {x M B : Int} (hM : 0 ≤ M) (hw : l.any wrongC = false) (ha : ∀ c ∈ l, -M ≤ c.adv ∧ c.adv ≤ M) (hx : -B ≤ x ∧ x ≤ B) (hB : B + l.length * M ≤ 4611686018427387904) : endV l rs x = (lastP (gone rs) l 0 x, 0) ∧ (pn (gone rs) l 0 x).2 = 0 := by
  have hlM : 0 ≤ (l.length : Int) * M := Int.mul_nonneg (by omega) hM
  have hf := Ta.fit_ok (s := x) (by omega) (by omega)
  have h0 := pn_ok M hM (gone rs) l 0 x B hw ha hx hB
  have hp : pens l rs x = pn (gone rs) l 0 x := by
    unfold pens
    rw [if_neg (by simp [hw]), if_pos hf.2, hf.1]
  refine ⟨?_, h0⟩
  unfold endV lastP
  rw [hp, h0, if_pos rfl]
theorem any_wrong {l : List Cl} (h : ∀ c ∈ l, 0 ≤ c.adv) : l.any wrongC = false := List.any_eq_false.2 fun c hc => by
  have := h c hc
  simp [wrongC]
  omega
theorem gone_at {rs : List Int} {i : Nat} {r : Int} (h : rs[i]? = some r) : gone rs i = decide (r = 1) := by unfold gone; rw [h]
theorem gone_fit {l : List Cl} {i : Nat} (h : gone (rolesV l) i = true) : gone (rolesF2 l) i = true := by
  unfold gone rolesF2 at *
  rw [List.getElem?_map]
  cases hr : (rolesV l)[i]? with
  | none => rw [hr] at h; cases h
  | some r =>
    rw [hr] at h
    have : r = 1 := by simpa using h
    subst this
    rfl
def edgedV (l : List Cl) : Bool := l.any fun c => decide (c.k ≠ 1) && decide (c.adv ≠ 0)
theorem rolesV_rol {l : List Cl} {i : Nat} (h : i < l.length) : (rolesV l)[i]? = some (rol3 l i) := by
  obtain ⟨c, hc⟩ : ∃ c, l[i]? = some c := ⟨_, List.getElem?_eq_getElem h⟩
  rw [rolesV_at hc, rol3_is hc]
/-- from least to most, where no cell goes back -/
theorem bounds {l : List Cl} {x : Int} (ha : ∀ c ∈ l, 0 ≤ c.adv ∧ c.adv ≤ 1099511627776) (hx : -1099511627776 ≤ x ∧ x ≤ 1099511627776) (hl : l.length ≤ 150) :
    ∃ a b c, fitsV l x = (a, 0) ∧ goesV l x = (b, 0) ∧ endV l [] x = (c, 0) ∧ x ≤ a ∧ a ≤ b ∧ b ≤ c ∧ (blankV l = true → edgedV l = false → a = x) := by
  have ha' : ∀ c ∈ l, -1099511627776 ≤ c.adv ∧ c.adv ≤ 1099511627776 := fun c hc => by have := ha c hc; omega
  have hw := any_wrong fun c hc => (ha c hc).1
  have hB : (1099511627776 : Int) + l.length * 1099511627776 ≤ 4611686018427387904 := by omega
  have E := fun rs => endV_ok (rs := rs) (M := 1099511627776) (by omega) hw ha' hx hB
  have h0 : ∀ c ∈ l, 0 ≤ c.adv := fun c hc => (ha c hc).1
  refine ⟨_, _, _, (E _).1, (E _).1, (E _).1, ?_, ?_, ?_, ?_⟩
  · have h1 := pn_ok 1099511627776 (by omega) (fun _ => true) l 0 x 1099511627776 hw ha' hx hB
    have := last_le (fun _ => true) (gone (rolesF2 l)) (fun _ _ => rfl) l 0 x x h0 (Int.le_refl _) h1 (E _).2
    rwa [last_same (fun _ => true) l 0 x (fun _ _ _ => .inl rfl) h1] at this
  · exact last_le _ _ (fun i h => gone_fit h) l 0 x x h0 (Int.le_refl _) (E _).2 (E _).2
  · exact last_le _ _ (fun i h => by cases h) l 0 x x h0 (Int.le_refl _) (E _).2 (E _).2
  · intro hb he
    refine last_same _ l 0 x (fun j c hc => ?_) (E _).2
    have hj := (List.getElem?_eq_some_iff.1 hc).1
    have h1 := List.all_eq_true.1 hb j (List.mem_range.2 hj)
    have h2 := List.any_eq_false.1 he c (List.mem_of_getElem? hc)
    rw [kAt_of hc] at h1
    by_cases hr : rol3 l j = 1
    · left
      rw [Nat.zero_add]
      refine gone_fit ?_
      rw [gone_at (rolesV_rol hj), hr]
      rfl
    · right
      simp [hr] at h1
      simp at h2
      exact h2 (by omega)
end Go.Proofs.Ytddihpiheopleaa.Tm
