/- Plain facts behind TrimEdges: how far a row goes with edges ahead and behind. No walk. -/
import Derived.Test.YtddihpiheopleaaTmLawM
namespace Go.Proofs.Ytddihpiheopleaa.Tm
open Ce (Cl)
open Ta (wrongC stepV pn pens gone)

theorem gone_mid {rs : List Int} {a b : Nat} (j : Nat) (hj : j < rs.length) : gone (List.replicate a 0 ++ (rs ++ List.replicate b 0)) (a + j) = gone rs j := by
  unfold gone
  rw [List.getElem?_append_right (by rw [List.length_replicate]; omega), List.length_replicate, Nat.add_sub_cancel_left, List.getElem?_append_left hj]
theorem gone_ahead {rs : List Int} {a b : Nat} (j : Nat) (hj : j < a) : gone (List.replicate a 0 ++ (rs ++ List.replicate b 0)) j = false := by
  unfold gone
  rw [List.getElem?_append_left (by rw [List.length_replicate]; exact hj), List.getElem?_replicate, if_pos hj]
  rfl
theorem gone_behind {rs : List Int} {a b : Nat} (j : Nat) (hj : j < b) : gone (List.replicate a 0 ++ (rs ++ List.replicate b 0)) (a + rs.length + j) = false := by
  unfold gone
  rw [List.getElem?_append_right (by rw [List.length_replicate]; omega), List.length_replicate, List.getElem?_append_right (by omega), List.getElem?_replicate, if_pos (by omega)]
  rfl
theorem sumK_mid {la l lb : List Cl} {rs : List Int} (hl : rs.length = l.length) : sumK (gone (List.replicate la.length 0 ++ (rs ++ List.replicate lb.length 0))) (la ++ l ++ lb) 0 = advs la + sumK (gone rs) l 0 + advs lb := by
  rw [sumK_app, sumK_app, List.length_append]
  rw [sumK_none la 0 fun j hj => by rw [Nat.zero_add]; exact gone_ahead j hj]
  rw [sumK_congr (g' := gone rs) l (0 + la.length) 0 fun j hj => by rw [Nat.zero_add, Nat.zero_add]; exact gone_mid j (by omega)]
  rw [sumK_none lb (0 + (la.length + l.length)) fun j hj => by rw [Nat.zero_add, ← hl]; exact gone_behind j hj]
theorem sumK_bd {M : Int} (hM : 0 ≤ M) {g : Nat → Bool} : ∀ (l : List Cl) (i : Nat), (∀ c ∈ l, -M ≤ c.adv ∧ c.adv ≤ M) → -(l.length * M) ≤ sumK g l i ∧ sumK g l i ≤ l.length * M
  | [], _, _ => by simp [sumK]
  | c :: r, i, h => by
    have ih := sumK_bd hM (g := g) r (i + 1) fun d hd => h d (List.mem_cons_of_mem _ hd)
    have hc := h c (List.mem_cons_self ..)
    have hl : ((c :: r).length : Int) * M = r.length * M + M := by rw [List.length_cons, Int.natCast_add, Int.add_mul]; simp
    rw [hl]
    show -(_ : Int) ≤ (if g i = true then 0 else c.adv) + sumK g r (i + 1) ∧ (if g i = true then 0 else c.adv) + sumK g r (i + 1) ≤ _
    split <;> omega
/-- which cells are the edges' -/
def inG (a n i : Nat) : Bool := decide (a ≤ i) && decide (i < a + n)
theorem sumK_in {la l lb : List Cl} : sumK (inG la.length l.length) (la ++ l ++ lb) 0 = advs la + advs lb := by
  rw [sumK_app, sumK_app, List.length_append]
  rw [sumK_none la 0 fun j hj => by simp [inG]; omega]
  rw [sumK_none lb (0 + (la.length + l.length)) fun j hj => by simp [inG]]
  have : ∀ (r : List Cl) (i : Nat), (∀ j, j < r.length → inG la.length l.length (i + j) = true) → sumK (inG la.length l.length) r i = 0 := by
    intro r
    induction r with
    | nil => intro i _; rfl
    | cons c r ih =>
      intro i h
      have h0 := h 0 (by simp)
      rw [Nat.add_zero] at h0
      show (if inG la.length l.length i = true then 0 else c.adv) + _ = _
      rw [if_pos h0, ih (i + 1) fun j hj => by
        have := h (j + 1) (by simpa using hj)
        rwa [show i + (j + 1) = i + 1 + j by omega] at this]
      rfl
  rw [this l (0 + la.length) fun j hj => by simp [inG]; omega]
  omega
theorem rolesF2_between {a l b : List Cl} (ha : allE a) (hb : allE b) : rolesF2 (a ++ l ++ b) = List.replicate a.length 0 ++ (rolesF2 l ++ List.replicate b.length 0) := by
  unfold rolesF2
  rw [roles_between ha hb, List.map_append, List.map_append, List.map_replicate, List.map_replicate]
  rfl
theorem allE_of {l : List Cl} (h : some_ l = 0) : allE l := fun c hc => by
  cases he : isE c with
  | true => rfl
  | false =>
    have : c ∈ l.filter fun c => !isE c := List.mem_filter.2 ⟨hc, by rw [he]; rfl⟩
    have := List.length_pos_of_mem this
    unfold some_ at h
    omega
theorem any_tab {l : List Cl} (h : ∀ c ∈ l, c.k ≠ 4) : l.any wrongC = false := List.any_eq_false.2 fun c hc => by
  have := h c hc
  simp [wrongC, this]
/-- how far, with edges and without -/
theorem edges {la l lb : List Cl} (ea : allE la) (eb : allE lb) (h1 : la.length ≤ 50) (h2 : l.length ≤ 150) (h3 : lb.length ≤ 50) (hadv : ∀ c ∈ la ++ l ++ lb, -1099511627776 ≤ c.adv ∧ c.adv ≤ 1099511627776) (ht : ∀ c ∈ la ++ l ++ lb, c.k ≠ 4) :
    ∃ x y u v, fitsV l 0 = (x, 0) ∧ fitsV (la ++ l ++ lb) 0 = (y, 0) ∧ goesV l 0 = (u, 0) ∧ goesV (la ++ l ++ lb) 0 = (v, 0) ∧ y - x = sumK (inG la.length l.length) (la ++ l ++ lb) 0 ∧ v - u = sumK (inG la.length l.length) (la ++ l ++ lb) 0 := by
  have hl : (la ++ l ++ lb).length ≤ 250 := by simp only [List.length_append]; omega
  have E := fun rs => endV_ok (l := la ++ l ++ lb) (rs := rs) (x := 0) (M := 1099511627776) (B := 0) (by omega) (any_tab ht) hadv (by omega) (by omega)
  have hadv' : ∀ c ∈ l, -1099511627776 ≤ c.adv ∧ c.adv ≤ 1099511627776 := fun c hc => hadv c (by simp [hc])
  have ht' : ∀ c ∈ l, c.k ≠ 4 := fun c hc => ht c (by simp [hc])
  have E' := fun rs => endV_ok (l := l) (rs := rs) (x := 0) (M := 1099511627776) (B := 0) (by omega) (any_tab ht') hadv' (by omega) (by omega)
  have key : ∀ rs, rs.length = l.length → lastP (gone (List.replicate la.length 0 ++ (rs ++ List.replicate lb.length 0))) (la ++ l ++ lb) 0 0 - lastP (gone rs) l 0 0 = sumK (inG la.length l.length) (la ++ l ++ lb) 0 := fun rs hrs => by
    rw [last_sum _ _ 0 0 ht (E _).2, last_sum _ _ 0 0 ht' (E' _).2, sumK_mid hrs, sumK_in]
    omega
  refine ⟨_, _, _, _, (E' _).1, (E _).1, (E' _).1, (E _).1, ?_, ?_⟩
  · rw [rolesF2_between ea eb]
    exact key _ (by unfold rolesF2; rw [List.length_map, rolesV_len])
  · rw [roles_between ea eb]
    exact key _ (rolesV_len l)
theorem fits_bd {l : List Cl} {x : Int} (h : l.length ≤ 250) (hadv : ∀ c ∈ l, -1099511627776 ≤ c.adv ∧ c.adv ≤ 1099511627776) (ht : ∀ c ∈ l, c.k ≠ 4) (rs : List Int) (hx : endV l rs 0 = (x, 0)) : -274877906944000 ≤ x ∧ x ≤ 274877906944000 := by
  have E := endV_ok (l := l) (rs := rs) (x := 0) (M := 1099511627776) (B := 0) (by omega) (any_tab ht) hadv (by omega) (by omega)
  rw [hx] at E
  have e := congrArg Prod.fst E.1
  simp only at e
  rw [last_sum _ _ 0 0 ht E.2] at e
  have := sumK_bd (M := 1099511627776) (by omega) (g := gone rs) l 0 hadv
  omega
end Go.Proofs.Ytddihpiheopleaa.Tm
