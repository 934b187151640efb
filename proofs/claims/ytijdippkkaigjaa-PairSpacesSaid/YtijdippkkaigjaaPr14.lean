/- What the reference's Rule needs: parts of rows, what stands ahead. No walk. -/
import Derived.Test.YtijdippkkaigjaaPr12
import Derived.Test.YtijdippkkaigjaaPr13
namespace Go.Proofs.Ytijdippkkaigjaa
open Go.ChangeShapes Go.WideShapes Go.ChangeAt Go.RowKit
open Pr

/-- a slice is no longer than its memory -/
def Cap (v : Value) : Prop := ∀ A n c, v = .slice A n c → n ≤ c
theorem Cap.is {A : Option Addr} {n c : Nat} (h : n ≤ c) : Cap (.slice A n c) := fun _ _ _ e => by
  injection e with _ e1 e2
  omega
theorem Cap.le {A : Option Addr} {n c : Nat} (h : Cap (.slice A n c)) : n ≤ c := h _ _ _ rfl
theorem row_take {S : Nat → Prop} {w : World} {ad : Addr} {n cap : Nat} {xs : List Value} (h : Row S w (.slice (some ad) n cap) xs) (k : Nat) (hk : k ≤ n) : Row S w (.slice (some ad) k cap) (xs.take k) := by
  rcases h with ⟨h, _⟩ | ⟨a, c, hv, hb, hc⟩
  · cases h
  · injection hv with h1 h2 h3
    injection h1 with h1
    subst h1 h2 h3
    refine .inr ⟨ad, cap, by rw [List.length_take, Nat.min_eq_left hk], ?_, fun j u hj => ?_⟩
    · rcases hb with rfl | hb
      · exact .inl (by simp)
      · exact .inr hb
    · rw [List.getElem?_take] at hj
      split at hj
      · exact hc j u hj
      · cases hj
theorem r8_take (l : List Int) (k : Nat) : r8 (l.take k) = (r8 l).take k := by simp [r8, List.map_take]
theorem rb_take (l : List Bool) (k : Nat) : rb (l.take k) = (rb l).take k := by simp [rb, List.map_take]
theorem cnt_at {l : List Int} {j k : Nat} (hj : j < k) (hk : k ≤ l.length) : ∃ d, (cntL (l.take k))[j]? = some d ∧ (st s0 (l.take (j + 1))).1 = some d ∧ (st s0 (l.take (j + 1))).2 = if d = 5 then (st s0 (l.take j)).2 else some d := by
  obtain ⟨x, hx⟩ : ∃ x, l[j]? = some x := ⟨_, List.getElem?_eq_getElem (by omega)⟩
  have hx2 : (l.take k)[j]? = some x := by rw [List.getElem?_take, if_pos hj, hx]
  refine ⟨(cnt (st s0 (l.take j)).1 x).1, ?_, ?_, ?_⟩
  · unfold cntL
    rw [List.getElem?_map, cs_get _ s0 j hx2, List.take_take, Nat.min_eq_left (by omega)]
    rfl
  · rw [st_succ l s0 j hx]; rfl
  · rw [st_succ l s0 j hx]; rfl
theorem cli_at {l : List Int} {j k : Nat} {x : Int} (hj : j < k) (hx : l[j]? = some x) : (cliL (l.take k))[j]? = some (cnt (st s0 (l.take j)).1 x).2 := by
  have hx2 : (l.take k)[j]? = some x := by rw [List.getElem?_take, if_pos hj, hx]
  unfold cliL
  rw [List.getElem?_map, cs_get _ s0 j hx2, List.take_take, Nat.min_eq_left (by omega)]
  rfl
end Go.Proofs.Ytijdippkkaigjaa
