/- Contract of tabs.Pens: the pens, or the error. Conditions: the row and the roles lie where the slices say, at most 1048576 cells; numbers are int64. -/
import Derived.Test.YtddihpiheopleaaTa3
import Derived.Maps.OwnIn
namespace Go.Proofs.Ytddihpiheopleaa.Ta
open Go.ChangeShapes Go.WideShapes Go.ChangeAt Go.RowKit Go.Shelf
open Ce
open Fo (fitV fitE)

attribute [local go_sem] Oper.semAt_some

theorem kl_others (nb b B L : Nat) (E : TypeId) (v vr : Value) (x e : Int) (hn : b + 5 ≤ nb) (hB : b + 5 ≤ B) (hL : B < L - 1) : Others nb B L E (KL b v vr x e) := fun y hy => by
  simp only [KL, List.mem_cons, List.not_mem_nil, or_false] at hy
  rcases hy with rfl | rfl | rfl | rfl | rfl <;> exact ⟨by simp only; omega, by simp only; omega, .inr (by simp only; omega)⟩
theorem elh64 : Elh Try.prog 54 2 1 8 := ⟨Try.underlying54, ⟨.int .i64 0, by kernel_rfl, rfl⟩, by decide, by decide⟩

theorem kl_set {X : World} {b : Nat} {v vr : Value} {x e e' : Int} (h : Kn X (KL b v vr x e)) : Kn (X.setCell ⟨b + 3, 0, none⟩ (.int .i64 e')) (KL b v vr x e') := fun y hy => by
  have m : Mod (fun k => k = b + 3) X (X.setCell ⟨b + 3, 0, none⟩ (.int .i64 e')) := Mod.setCell (S := fun k => k = b + 3) (Mod.refl _ _) (.inl rfl) _
  simp only [KL, List.mem_cons, List.not_mem_nil, or_false] at hy
  rcases hy with rfl | rfl | rfl | rfl | rfl
  · exact (h.at_ 0 rfl).keep m (by omega)
  · exact (h.at_ 1 rfl).keep m (by omega)
  · exact (h.at_ 2 rfl).keep m (by omega)
  · exact (h.at_ 3 rfl).set_ 0 _
  · exact (h.at_ 4 rfl).keep m (by omega)

end Go.Proofs.Ytddihpiheopleaa.Ta
