/- Plain facts behind CellsGo: how many characters and cells a context has; how far the cells of a text's characters go together. No walk. -/
import Derived.Test.YtmceblkjbpbcoaaGreatDoorCeEndsM
namespace Go.Proofs.YtmceblkjbpbcoaaGreatDoor.Ce
open Ar
open Wh (Cr)
open Fo (Fnt Rg W64 fnd atI qe9 ext txt qfg qh4)
theorem ql9 (f : Nat -> Nat) : ∀ d a, ((List.range a).map f).sum <= ((List.range (a + d)).map f).sum
 | 0, _ => Nat.le_refl _
 | d + 1, a => by
   have := ql9 f d a
   rw [<- Nat.add_assoc, List.range_succ, List.map_append, List.sum_append]
   omega
theorem qz3 (f : Nat -> Nat) : ∀ {l : List Nat} {n : Nat}, Inc l -> (∀ j ∈ l, j < n) -> (l.map f).sum <= ((List.range n).map f).sum := by
 intro l
 induction l using qd3 with
 | nil => intro n _ _; exact Nat.zero_le _
 | snoc l a ih =>
   intro n h1 h2
   obtain ⟨h3, _, h4⟩ := List.pairwise_append.1 h1
   have h5 := ih (n := a) h3 fun j hj => h4 j hj a (List.mem_singleton.2 rfl)
   have h6 := h2 a (by simp)
   have h7 := ql9 f (n - (a + 1)) (a + 1)
   rw [show a + 1 + (n - (a + 1)) = n by omega, List.range_succ, List.map_append, List.sum_append] at h7
   rw [List.map_append, List.sum_append]
   simp only [List.map_cons, List.map_nil] at h7 |-
   omega
def szs (l : List Nod) (n : Nat) : Nat := (l.getD n .zero).t.size + 1
theorem qyp : ∀ l : List Nod, ((List.range l.length).map (szs l)).sum = sumT l + l.length := by
 intro l
 induction l using qd3 with
 | nil => rfl
 | snoc l a ih =>
   rw [List.length_append, List.length_singleton, List.range_succ, List.map_append, List.sum_append, qdm, <- Nat.add_assoc]
   have h1 : (List.range l.length).map (szs (l ++ [a])) = (List.range l.length).map (szs l) := List.map_congr_left fun j hj => by
    have hj := List.mem_range.1 hj
    unfold szs
    rw [List.getD_eq_getElem?_getD, List.getElem?_append_left hj, <- List.getD_eq_getElem?_getD]
   have h2 : szs (l ++ [a]) l.length = a.t.size + 1 := by simp [szs]
   rw [h1, ih]
   simp only [List.map_cons, List.map_nil, h2, sumT, List.sum_cons, List.sum_nil]
   omega
theorem qsm (l : List Nod) : ∀ pre : List (Nat × Bool), (chV l pre).length <= ((ins pre).map (szs l)).sum
 | [] => Nat.zero_le _
 | (n, b) :: pre => by
   have ih := qsm l pre
   have e : chV l ((n, b) :: pre) = (if b then ownC (l.getD n .zero) n else []) ++ chV l pre := rfl
   rw [e, List.length_append]
   cases b with
   | true =>
     have := qmg (l.getD n .zero) n
     rw [qxn, List.map_cons, List.sum_cons]
     unfold szs at ih |-
     rw [if_pos rfl]
     omega
   | false =>
     rw [qz2, if_neg (by decide)]
     simpa using ih
section
variable {ss : List Sty} {fs : List Fnt} {at_ : List Int} {l : List Nod} {k : Nat}
theorem qwg (hT : Tre (psOf l)) (hk : k < l.length) (hn : l.length <= 40) (hs : sumT l <= 150) : (cellL ss fs at_ l k).length <= 270 /\ (csL ss l k).length <= 190 := by
 have hv : (visL (psOf l) (bxL l) k).length <= 2 * l.length := by have := qlx hT (bxL l) (n := k) (by rw [qad]; exact hk); rwa [qad] at this
 obtain ⟨i1, i2⟩ := qk8 hT (bxL l) (n := k) (by rw [qad]; exact hk)
 rw [qad] at i2
 have h0 := qz3 (szs l) i1 fun j hj => (i2 j hj).2
 rw [qyp] at h0
 have h1 : (qo7 l k).length <= ((ins (visL (psOf l) (bxL l) k)).map (szs l)).sum := qsm l (visL (psOf l) (bxL l) k)
 have h2 : (csL ss l k).length <= 190 := Nat.le_trans qlg (by omega)
 have hk6 : ∀ c ∈ (givL ss fs at_ l k).cs, c.kind <= 6 := fun c hc => (qe4 hT hk c hc).2.2
 have h3 := qlp hk6 (visL (psOf l) (bxL l) k)
 have h4 : (qfb (givL ss fs at_ l k) (visL (psOf l) (bxL l) k)).nx <= (csL ss l k).length := (qiz hk6 (visL (psOf l) (bxL l) k)).2
 refine ⟨?_, h2⟩
 show (qfb (givL ss fs at_ l k) (visL (psOf l) (bxL l) k)).out.length <= 270
 omega
theorem qwh (hT : Tre (psOf l)) (hk : k < l.length) {u : Cl} (hu : u ∈ cellL ss fs at_ l k) (h3 : u.k <= 3) {j : Nat} (hj : u.ch = (j : Int)) : ∃ c, (csL ss l k)[j]? = some c /\ u.adv = goF ss fs u.node c.r := by
 have hk6 : ∀ c ∈ (givL ss fs at_ l k).cs, c.kind <= 6 := fun c hc => (qe4 hT hk c hc).2.2
 rcases (qiz hk6 (visL (psOf l) (bxL l) k)).1 u hu with ⟨j', c, h1, h2, h4, h5, h6⟩ | ⟨_, h | h⟩
 ·obtain rfl : j = j' := by omega
  refine ⟨c, h1, ?_⟩
  rw [h6, h4]
  show qpj ss fs at_ c = _
  unfold qpj
  rw [if_neg (by omega), if_neg (by omega), if_neg (by omega)]
 ·omega
 ·omega
end
def isG (n m : Nat) (u : Cl) : Bool := decide (u.node = (n : Int)) && decide (u.k <= 3) && decide (0 <= u.ch) && decide (u.ch < (m : Int))
def rnG (cs : List Cr) (n : Nat) (l : List Cl) : List Int := (l.filter (isG n cs.length)).map fun u => (cs.getD u.ch.toNat ⟨0, 0, 0, 0, 0⟩).r
theorem qt1 (cs : List Cr) (n : Nat) (l : List Cl) (u : Cl) : rnG cs n (l ++ [u]) = if isG n cs.length u then rnG cs n l ++ [(cs.getD u.ch.toNat ⟨0, 0, 0, 0, 0⟩).r] else rnG cs n l := by
 unfold rnG
 rw [List.filter_append, List.map_append]
 cases h : isG n cs.length u <;> simp [h]
theorem qqm (cs : List Cr) (n : Nat) (l : List Cl) : (rnG cs n l).length <= l.length := by
 unfold rnG
 rw [List.length_map]
 exact List.length_filter_le _ _
theorem qyl (o s : Int) (rs : List Rg) (l : List Int) (h : l.length <= 500) (r : Int) : txt o s rs 0 (l ++ [r]) = txt o s rs 0 l + atI (fnd o r rs) s /\ 0 <= txt o s rs 0 l /\ txt o s rs 0 l <= 4294967296000 := by
 obtain ⟨_, h2, h3⟩ := qh4 o s rs l 0 (by omega) (by omega)
 have hb := qe9 (fnd o r rs) s
 refine ⟨?_, h2, by omega⟩
 rw [qfg]
 unfold ext
 rw [if_pos (by omega)]
end Go.Proofs.YtmceblkjbpbcoaaGreatDoor.Ce
