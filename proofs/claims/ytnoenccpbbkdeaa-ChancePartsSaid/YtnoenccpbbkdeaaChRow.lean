/- What is at a place, whatever the styles: one of three, none beside forced breaks. No walk. -/
import Derived.Test.YtnoenccpbbkdeaaCh3
namespace Go.Proofs.Ytnoenccpbbkdeaa
open Go.ChangeShapes Go.WideShapes Go.ChangeAt Go.RowKit Go.Shelf
open Wh (Cr)
open Ch

theorem none_row {ss : List Sty} {l : List Cr} {rs : List Int} (hm : mayC l ss.length rs = true) {i : Nat} (hi : i < l.length) :
    ∃ x : Int, (chn ss z0 l rs)[i]? = some x ∧ (x = 0 ∨ x = 1 ∨ x = 2) ∧ (i = 0 → x = 0) ∧
      ∀ (j : Nat) (a c : Cr), i = j + 1 → l[j]? = some a → l[i]? = some c → (c.kind = 5 → x = 0) ∧ (a.kind = 5 → x = 0) ∧ (c.kind = 1 ∨ c.kind = 2 → a.kind ≠ 3 → a.kind ≠ 4 → x = 0) := by
  have hlen := (mayC_is hm).1
  obtain ⟨c, hc⟩ := at_ (l := l) (k := i) hi
  obtain ⟨r, hr⟩ := at_ (l := rs) (k := i) (by omega)
  cases i with
  | zero => exact ⟨0, chn_zero hc hr, .inl rfl, fun _ => rfl, fun j a c h => by omega⟩
  | succ j =>
    obtain ⟨a, ha⟩ := at_ (l := l) (k := j) (by omega)
    refine ⟨_, chn_at ha hc hr, ?_, fun h => by omega, fun j' a' c' hj ha' hc' => ?_⟩
    · unfold Ch.oneC
      (repeat' split) <;> simp
    · obtain rfl : j = j' := by omega
      rw [ha] at ha'
      rw [hc] at hc'
      cases ha'
      cases hc'
      refine ⟨fun h => ?_, fun h => ?_, fun h h3 h4 => ?_⟩
      · unfold Ch.oneC
        rw [if_pos (.inr (.inl h))]
      · unfold Ch.oneC
        rw [if_pos (.inl h)]
      · unfold Ch.oneC
        split
        · rfl
        · split
          · rename_i h5
            rcases h5.1 with e | e <;> contradiction
          · first
            | rfl
            | rw [if_pos h]
end Go.Proofs.Ytnoenccpbbkdeaa
