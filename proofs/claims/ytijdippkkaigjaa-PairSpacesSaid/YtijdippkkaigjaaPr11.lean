/- pair's rules are the document's: the verdict on each place; contracts of Rules, Breaks, Must. Conditions: the slice reads as the list, at most 1048576 long, of numbers that are not negative. -/
import Derived.Test.YtijdippkkaigjaaPr9
import Derived.Test.YtijdippkkaigjaaPr10
namespace Go.Proofs.Ytijdippkkaigjaa
open Go.ChangeShapes Go.WideShapes Go.ChangeAt Go.RowKit Go.Shelf
open Pr

theorem oI_is (o : Option Int) {k : Int} (h : k ≠ 255) : (oI o == k) = (o == some k) := by
  cases o with
  | none =>
    show ((255 : Int) == k) = false
    simpa using fun e => h e.symm
  | some d =>
    show (d == k) = _
    rw [Bool.eq_iff_iff]
    simp
theorem ap21_is (a b o : Int) (cl : Bool) : ap21 ⟨a, b, o, cl⟩ = two25 a b := by
  unfold ap21 two25
  by_cases h1 : b = 24
  · subst h1
    rw [Bool.eq_iff_iff]
    simp [has]
  by_cases h2 : b = 23
  · subst h2
    rw [Bool.eq_iff_iff]
    simp [has]
  by_cases h3 : b = 22
  · subst h3
    rw [Bool.eq_iff_iff]
    simp [has]
    omega
  by_cases h4 : b = 14
  · subst h4
    rw [Bool.eq_iff_iff]
    simp [has]
  · rw [Bool.eq_iff_iff]
    simp [has, h1, h2, h3, h4]
set_option maxHeartbeats 2000000 in
theorem frst_rule (a b : Int) (o : Option Int) (cl : Bool) : frst ⟨a, b, oI o, cl⟩ rl = rule a b o cl := by
  have e2 : ap2 ⟨a, b, oI o, cl⟩ = hard a := by rw [Bool.eq_iff_iff]; simp [ap2, has, hard, or_assoc]
  have n2 : en2 ⟨a, b, oI o, cl⟩ = !(a == 2 && b == 3) := by unfold en2; congr 1; rw [Bool.eq_iff_iff]; simp [has]
  have e3 : ap3 ⟨a, b, oI o, cl⟩ = (b == 1 || hard b) := by rw [Bool.eq_iff_iff]; simp [ap3, has, hard, or_assoc]
  have e4 : ap4 ⟨a, b, oI o, cl⟩ = (b == 5 || b == 6) := by rw [Bool.eq_iff_iff]; simp [ap4, has]
  have e5 : ap5 ⟨a, b, oI o, cl⟩ = (o == some 6) := oI_is o (by decide)
  have e8 : ap8 ⟨a, b, oI o, cl⟩ = (a == 8 || (b == 8 && !(a == 5 || a == 10 || a == 13))) := by rw [Bool.eq_iff_iff]; simp [ap8, has, and_assoc]
  have e9 : ap9 ⟨a, b, oI o, cl⟩ = (b == 15 || b == 17 || b == 18) := by rw [Bool.eq_iff_iff]; simp [ap9, has, or_assoc]
  have e10 : ap10 ⟨a, b, oI o, cl⟩ = (o == some 14) := oI_is o (by decide)
  have e11 : ap11 ⟨a, b, oI o, cl⟩ = (o == some 16 && b == 14) := by unfold ap11; rw [oI_is o (by decide)]
  have e12 : ap12 ⟨a, b, oI o, cl⟩ = (o == some 15 && b == 19) := by unfold ap12; rw [oI_is o (by decide)]
  have e13 : ap13 ⟨a, b, oI o, cl⟩ = (o == some 12 && b == 12) := by unfold ap13; rw [oI_is o (by decide)]
  have e17 : ap17 ⟨a, b, oI o, cl⟩ = (b == 10 || b == 13 || b == 19 || a == 11) := by rw [Bool.eq_iff_iff]; simp [ap17, has, or_assoc]
  have e19 : ap19 ⟨a, b, oI o, cl⟩ = two23 a b := by rw [Bool.eq_iff_iff]; simp [ap19, has, two23]
  have e20 : ap20 ⟨a, b, oI o, cl⟩ = two24 a b := by rw [Bool.eq_iff_iff]; simp [ap20, has, two24]; omega
  have e21 : ap21 ⟨a, b, oI o, cl⟩ = two25 a b := ap21_is a b (oI o) cl
  have e22 : ap22 ⟨a, b, oI o, cl⟩ = (a == 0 && b == 0) := by rw [Bool.eq_iff_iff]; simp [ap22, has]
  have e23 : ap23 ⟨a, b, oI o, cl⟩ = (a == 18 && b == 0) := by rw [Bool.eq_iff_iff]; simp [ap23, has]
  simp only [frst, rl, e2, n2, e3, e4, e5, e8, e9, e10, e11, e12, e13, e17, e19, e20, e21, e22, e23]
  rfl

theorem base_nine {c : Int} : base c = 9 ↔ c = 9 := by
  unfold base
  split
  · omega
  · split <;> omega
theorem cntI_cnt {c : Int} {p : Option Int} (hp : ∀ d, p = some d → inside d) : cntI c (oI p) = cnt p c := by
  unfold cntI cnt
  by_cases h9 : c = 9
  · subst h9
    rw [if_pos (show base 9 = 9 from rfl)]
    cases p with
    | none => rfl
    | some d =>
      obtain ⟨h0, h1, _, _⟩ := hp d rfl
      show (if (9 : Int) = 9 ∧ hldB d = true then (d, true) else if (9 : Int) = 9 ∨ 26 < (9 : Int) then (0, false) else _) = if bare d = true then (0, false) else (d, true)
      have e : hldB d = !bare d := by
        unfold hldB bare
        congr 1
        rw [Bool.eq_iff_iff]
        simp
        omega
      rw [e]
      cases bare d <;> simp
  · rw [if_neg (fun h => h9 h.1), if_neg (fun h => h9 (base_nine.1 h))]
    unfold base
    by_cases h26 : 26 < c
    · rw [if_pos (.inr h26), if_neg (by omega), if_pos h26]
    · rw [if_neg (by omega)]
      by_cases h20 : c = 20
      · rw [if_pos h20, if_pos h20]
      · rw [if_neg h20, if_neg h20, if_neg h26]
/-- the program's place holds the document's state -/
theorem pst_st (l : List Int) (h0 : ∀ c ∈ l, 0 ≤ c) : ∀ k, k ≤ l.length → (pst l k).b = oI (st s0 (l.take k)).1 ∧ (if (pst l k).b = 5 then (pst l k).o else (pst l k).b) = oI (st s0 (l.take k)).2
  | 0, _ => ⟨rfl, rfl⟩
  | k + 1, hk => by
    obtain ⟨i1, i2⟩ := pst_st l h0 k (by omega)
    obtain ⟨x, hx⟩ : ∃ x, l[k]? = some x := ⟨_, List.getElem?_eq_getElem (by omega)⟩
    rw [pst_succ hx, st_succ l s0 k hx]
    have hin : StIn (st s0 (l.take k)) := StIn.st _ StIn.zero fun c hc => h0 c (List.mem_of_mem_take hc)
    have e := cntI_cnt (c := x) hin.1
    obtain ⟨s, hs⟩ : ∃ s, st s0 (l.take k) = s := ⟨_, rfl⟩
    rw [hs] at i1 i2 e ⊢
    have e1 : (nxP (pst l k) x).b = (cnt s.1 x).1 := by unfold nxP; rw [i1, e]
    have e2 : (nxP (pst l k) x).o = oI s.2 := by rw [← i2]; rfl
    refine ⟨e1, ?_⟩
    rw [e1, e2]
    unfold nx
    dsimp only
    split <;> rfl
theorem vd_plc {l : List Int} (h0 : ∀ c ∈ l, 0 ≤ c) {j : Nat} {x : Int} (hx : l[j]? = some x) (hj : 0 < j) : vdAt l j = plcAt (st s0 (l.take j)) x := by
  have hl := (List.getElem?_eq_some_iff.1 hx).1
  obtain ⟨i1, i2⟩ := pst_st l h0 j (by omega)
  have hin : StIn (st s0 (l.take j)) := StIn.st _ StIn.zero fun c hc => h0 c (List.mem_of_mem_take hc)
  have e := cntI_cnt (c := x) hin.1
  obtain ⟨a, ha⟩ : ∃ a, (st s0 (l.take j)).1 = some a := by
    obtain ⟨i, rfl⟩ : ∃ i, j = i + 1 := ⟨j - 1, by omega⟩
    obtain ⟨y, hy⟩ : ∃ y, l[i]? = some y := ⟨_, List.getElem?_eq_getElem (by omega)⟩
    rw [st_succ l s0 i hy]
    exact ⟨_, rfl⟩
  obtain ⟨s, hs⟩ : ∃ s, st s0 (l.take j) = s := ⟨_, rfl⟩
  rw [hs] at i1 i2 e ha ⊢
  have ep : pst l (j + 1) = ⟨a, (cnt (some a) x).1, oI s.2, (cnt (some a) x).2⟩ := by
    rw [pst_succ hx]
    unfold nxP
    rw [i2, i1, e, ha]
    rfl
  unfold vdAt
  rw [ep, frst_rule]
  unfold plcAt
  rw [ha]
theorem mstI_mst (p : Int × Bool) : mstI p = mst p := by
  unfold mstI mst
  congr 1
  rw [Bool.eq_iff_iff]
  simp
  omega

theorem row_of_blk {w : World} {G n : Nat} {t : TypeId} {f : Nat → Value} {xs : List Value} (h : Blk w G t (rowV n f)) (hn : xs.length = n) (hx : ∀ j x, xs[j]? = some x → f j = x) : Row (fun _ => False) w (.slice (some ⟨G, 0, none⟩) n n) xs := by
  refine .inr ⟨⟨G, 0, none⟩, n, by rw [hn], .inr ⟨h.lt, id⟩, fun j u hj => ?_⟩
  have hjn : j < n := by rw [← hn]; exact (List.getElem?_eq_some_iff.1 hj).1
  have e : (⟨G, 0, none⟩ : Addr).add j = ⟨G, j, none⟩ := by simp [Addr.add]; exact fun h => h.symm
  rw [e, h.cell j, rowV_get hjn, hx j u hj]
theorem told_is {l : List Int} (h0 : ∀ c ∈ l, 0 ≤ c) {α : Type} (z : α) (g : Int × Bool → α) (V : α → Value) (hz : g (0, false) = z) : ∀ j x, (((plc s0 l).map g).map V)[j]? = some x → got (V z) (fun j => V (g (vdAt l j))) (List.range' 1 (l.length - 1)) j = x := fun j x hx => by
  have hj : j < l.length := by
    have := (List.getElem?_eq_some_iff.1 hx).1
    rwa [List.length_map, List.length_map, plc_len] at this
  obtain ⟨c, hc⟩ : ∃ c, l[j]? = some c := ⟨_, List.getElem?_eq_getElem hj⟩
  rw [List.getElem?_map, List.getElem?_map, plc_get l s0 j hc] at hx
  injection hx with hx
  subst hx
  unfold got
  by_cases hj0 : j = 0
  · subst hj0
    rw [if_neg (by simp)]
    show V z = V (g (0, false))
    rw [hz]
  · rw [if_pos (by rw [List.mem_range']; exact ⟨j - 1, by omega, by omega⟩)]
    show V (g (vdAt l j)) = _
    rw [vd_plc h0 hc (by omega)]

/-- the document's answers -/
def rulesL (l : List Int) : List Int := (plc s0 l).map (·.1)
def breaksL (l : List Int) : List Bool := (plc s0 l).map (·.2)
def mustL (l : List Int) : List Bool := (plc s0 l).map mst
theorem rulesL_len (l : List Int) : (rulesL l).length = l.length := by simp [rulesL, plc_len]
theorem breaksL_len (l : List Int) : (breaksL l).length = l.length := by simp [breaksL, plc_len]
theorem mustL_len (l : List Int) : (mustL l).length = l.length := by simp [mustL, plc_len]

set_option maxHeartbeats 2000000 in
theorem pRules_any (l : List Int) (v : Value) (w : World) (hR : R8 w v l) (hlen : l.length ≤ 1048576) (h0 : ∀ c ∈ l, 0 ≤ c) :
    Calls Try.prog 13 #[v] w fun e w' => ∃ u, e = .returned u ∧ R8 w' u (rulesL l) ∧ Below w.heap.size w w' := by
  have C := Lib.hid (ptell8_any 20 (fun x => x.1) (enters_of Try.func20 (by kernel_rfl) rfl) ptoldR_any l v w hR hlen)
  have HT : Hid (∀ G w', Blk w' G 5 (rowV l.length (got (.int .u8 0) (fun j => .int .u8 (vdAt l j).1) (List.range' 1 (l.length - 1)))) → R8 w' (.slice (some ⟨G, 0, none⟩) l.length l.length) (rulesL l)) := Lib.hid fun G w' B =>
    row_of_blk B (by rw [r8_len, rulesL_len]) (told_is h0 (0 : Int) (fun x => x.1) (Value.int .u8) rfl)
  clear hR
  go_enter Try.func13, Try.ntmps13
  go_wp2_with fail
  refine (C.out).mono ?_
  rintro e w1 ⟨G, rfl, _, B, b⟩
  have hr := HT.out G w1 B
  clear C HT B
  go_wp2_with fail
  go_ret
  exact ⟨_, rfl, hr, b⟩
set_option maxHeartbeats 2000000 in
theorem pBreaks_any (l : List Int) (v : Value) (w : World) (hR : R8 w v l) (hlen : l.length ≤ 1048576) (h0 : ∀ c ∈ l, 0 ≤ c) :
    Calls Try.prog 15 #[v] w fun e w' => ∃ u, e = .returned u ∧ RB w' u (breaksL l) ∧ Below w.heap.size w w' := by
  have C := Lib.hid (ptellb_any 22 (fun x => x.2) (enters_of Try.func22 (by kernel_rfl) rfl) ptoldB_any l v w hR hlen)
  have HT : Hid (∀ G w', Blk w' G 4 (rowV l.length (got (.bool false) (fun j => .bool (vdAt l j).2) (List.range' 1 (l.length - 1)))) → RB w' (.slice (some ⟨G, 0, none⟩) l.length l.length) (breaksL l)) := Lib.hid fun G w' B =>
    row_of_blk B (by rw [rb_len, breaksL_len]) (told_is h0 false (fun x => x.2) Value.bool rfl)
  clear hR
  go_enter Try.func15, Try.ntmps15
  go_wp2_with fail
  refine (C.out).mono ?_
  rintro e w1 ⟨G, rfl, _, B, b⟩
  have hr := HT.out G w1 B
  clear C HT B
  go_wp2_with fail
  go_ret
  exact ⟨_, rfl, hr, b⟩
set_option maxHeartbeats 2000000 in
theorem pMust_any (l : List Int) (v : Value) (w : World) (hR : R8 w v l) (hlen : l.length ≤ 1048576) (h0 : ∀ c ∈ l, 0 ≤ c) :
    Calls Try.prog 16 #[v] w fun e w' => ∃ u, e = .returned u ∧ RB w' u (mustL l) ∧ Below w.heap.size w w' := by
  have C := Lib.hid (ptellb_any 23 mst (enters_of Try.func23 (by kernel_rfl) rfl) (fun x w => by rw [← mstI_mst]; exact ptoldM_any x w) l v w hR hlen)
  have HT : Hid (∀ G w', Blk w' G 4 (rowV l.length (got (.bool false) (fun j => .bool (mst (vdAt l j))) (List.range' 1 (l.length - 1)))) → RB w' (.slice (some ⟨G, 0, none⟩) l.length l.length) (mustL l)) := Lib.hid fun G w' B =>
    row_of_blk B (by rw [rb_len, mustL_len]) (told_is h0 false mst Value.bool rfl)
  clear hR
  go_enter Try.func16, Try.ntmps16
  go_wp2_with fail
  refine (C.out).mono ?_
  rintro e w1 ⟨G, rfl, _, B, b⟩
  have hr := HT.out G w1 B
  clear C HT B
  go_wp2_with fail
  go_ret
  exact ⟨_, rfl, hr, b⟩
end Go.Proofs.Ytijdippkkaigjaa
