/- Plain facts behind CellsEnds: what is at a place says nothing beside a forced break; where a line may end. No walk. -/
import Derived.Test.YtmceblkjbpbcoaaGreatDoorKCeHead
namespace Go.Proofs.YtmceblkjbpbcoaaGreatDoor.Ce
open Ar
open Wh (Cr)
open Fo (Fnt)
section
variable {ss : List Sty} {fs : List Fnt} {at_ : List Int} {l : List Nod} {k : Nat}
theorem qvd : HsOk (givL ss fs at_ l k) := by
 intro i hne
 have e1 : (givL ss fs at_ l k).hs = Ch.chn ss Ch.z0 (csL ss l k) (qnk (psOf l) (csL ss l k)) := rfl
 have e2 : (givL ss fs at_ l k).cs = csL ss l k := rfl
 rw [e1] at hne |-
 rw [e2]
 have hlen := qk9 (ss := ss) (l := l) (k := k)
 unfold hsL at hlen
 have hil : i < (csL ss l k).length := by
  rcases Nat.lt_or_ge i (csL ss l k).length with h | h
  ·exact h
  ·exact absurd (by rw [List.getD_eq_getElem?_getD, List.getElem?_eq_none (by omega)]; rfl) hne
 have hrl := qfj (psOf l) (csL ss l k)
 obtain ⟨c, hc⟩ : ∃ c, (csL ss l k)[i]? = some c := ⟨_, List.getElem?_eq_getElem hil⟩
 obtain ⟨r, hr⟩ : ∃ r, (qnk (psOf l) (csL ss l k))[i]? = some r := ⟨_, List.getElem?_eq_getElem (by omega)⟩
 cases i with
 | zero =>
   have := Ch.qm4 (ss := ss) hc hr
   exact absurd (by rw [List.getD_eq_getElem?_getD, this]; rfl) hne
 | succ j =>
   obtain ⟨a, ha⟩ : ∃ a, (csL ss l k)[j]? = some a := ⟨_, List.getElem?_eq_getElem (by omega)⟩
   have hat := Ch.qxv (ss := ss) ha hc hr
   rw [List.getD_eq_getElem?_getD, hat, Option.getD_some] at hne |-
   have hbd := Ch.qzj a c (Ch.stl ss r) (Ch.stl ss a.node) (Ch.qs8 ss (Ch.stC ss Ch.z0 ((csL ss l k).take (j + 1))).1 c)
   refine ⟨by omega, j, a, rfl, ha, fun h => hne (Ch.qf7 _ _ _ (.inl h)), fun c' hc' h => ?_⟩
   rw [hc] at hc'
   injection hc' with hc'
   subst hc'
   exact hne (Ch.qf7 _ _ _ (.inr h))
theorem qvr (hT : Tre (psOf l)) (hk : k < l.length) : qlt [] (cellL ss fs at_ l k) :=
 qwp (fun c hc => (qe4 hT hk c hc).2.2) qvd _
theorem q0g (hT : Tre (psOf l)) (hk : k < l.length) {i : Nat} {u : Cl} (h : (cellL ss fs at_ l k)[i]? = some u) : qws ((cellL ss fs at_ l k).take i) u := by
 have := qmt _ _ (qvr (fs := fs) (at_ := at_) (ss := ss) hT hk) i u h
 simpa using this
theorem qhl {m : List Cl} {j : Nat} {c : Cl} (h : m[j]? = some c) : lastN (m.take (j + 1)) = if c.k = 8 then lastN (m.take j) else some c := by
 rw [List.take_add_one, h]
 exact qep _ _
theorem qwf (hT : Tre (psOf l)) (hk : k < l.length) (hn : l.length <= 40) (hmt : ∀ x ∈ l, x.t.size <= 150) : (cellL ss fs at_ l k).length <= 12160 /\ (csL ss l k).length <= 12080 := by
 have hv : (visL (psOf l) (bxL l) k).length <= 2 * l.length := by have := qlx hT (bxL l) (n := k) (by rw [qad]; exact hk); rwa [qad] at this
 have h1 : (qo7 l k).length <= (visL (psOf l) (bxL l) k).length * 151 := qix l 150 hmt (visL (psOf l) (bxL l) k)
 have h2 : (csL ss l k).length <= 12080 := Nat.le_trans qlg (by omega)
 have hk6 : ∀ c ∈ (givL ss fs at_ l k).cs, c.kind <= 6 := fun c hc => (qe4 hT hk c hc).2.2
 have h3 := qlp hk6 (visL (psOf l) (bxL l) k)
 have h4 : (qfb (givL ss fs at_ l k) (visL (psOf l) (bxL l) k)).nx <= (csL ss l k).length := (qiz hk6 (visL (psOf l) (bxL l) k)).2
 refine ⟨?_, h2⟩
 show (qfb (givL ss fs at_ l k) (visL (psOf l) (bxL l) k)).out.length <= 12160
 omega
theorem qtr (hg : chkT l = 0) {na : Nat} (hS : Small l ss fs na) : l.length <= 40 /\ ∀ x ∈ l, x.t.size <= 150 := ⟨hS.1, fun x hx => by
 obtain ⟨i, hi⟩ := List.mem_iff_getElem?.1 hx
 exact Nat.le_trans (qku hi) (hS.2.1 ((qci l).1 hg).sum)⟩
end
end Go.Proofs.YtmceblkjbpbcoaaGreatDoor.Ce
