/- The walk of CellsNest. Conditions: what is handed in lies where its slices say, its numbers fit their kinds; the tables lie as the program's text lays them. -/
import Derived.Test.YtmceblkjbpbcoaaGreatDoorPCeHead
import Derived.Test.YtmceblkjbpbcoaaGreatDoorPCeChars
import Derived.Test.YtmceblkjbpbcoaaGreatDoorPRowF
import Derived.Test.YtmceblkjbpbcoaaGreatDoorPBase
namespace Go.Proofs.YtmceblkjbpbcoaaGreatDoor
set_option maxRecDepth 100000
set_option maxHeartbeats 8000000
open Go.ChangeShapes Go.WideShapes Go.ChangeAt Go.RowKit Go.Shelf
open Ar
open Wh (Cr)
namespace Ce
section
open Fo (Fnt)
section
variable {ss : List Sty} {fs : List Fnt} {at_ : List Int} {l : List Nod} {k : Nat}
theorem qwf (hT : Tre (psOf l)) (hk : k < l.length) (hn : l.length <= 40) (hmt : ∀ x ∈ l, x.t.size <= 150) : (cellL ss fs at_ l k).length <= 12160 /\ (csL ss l k).length <= 12080 := by
 have hv : (visL (psOf l) (bxL l) k).length <= 2 * l.length := by have := qlx hT (bxL l) (n := k) (by rw [qad]; exact hk); rwa [qad] at this
 have h1 : (qo7 l k).length <= (visL (psOf l) (bxL l) k).length * 151 := qix l 150 hmt (visL (psOf l) (bxL l) k)
 have h2 : (csL ss l k).length <= 12080 := xau qlg (by omega)
 have hk6 : ∀ c ∈ (givL ss fs at_ l k).cs, c.kind <= 6 := fun c hc => (qe4 hT hk c hc).2.2
 have h3 := qlp hk6 (visL (psOf l) (bxL l) k)
 have h4 : (qfb (givL ss fs at_ l k) (visL (psOf l) (bxL l) k)).nx <= (csL ss l k).length := (qiz hk6 (visL (psOf l) (bxL l) k)).2
 refine ⟨?_, h2⟩
 show (qfb (givL ss fs at_ l k) (visL (psOf l) (bxL l) k)).out.length <= 12160
 omega
theorem qtr (hg : chkT l = 0) {na : Nat} (hS : Small l ss fs na) : l.length <= 40 /\ ∀ x ∈ l, x.t.size <= 150 := ⟨hS.1, fun x hx => by
 obtain ⟨i, hi⟩ := List.mem_iff_getElem?.1 hx
 exact xau (qku hi) (hS.2.1 ((qci l).1 hg).sum)⟩
end
end
end Ce
namespace Ar
section
section
def tLines : List Bool := [true, false, false, false, true, true, true, true, true]
end
end
section
section
def ctxF (l : List Nod) (us : List Nat) : Nat := (us.find? fun (u : Nat) => tb tLines (qav l (u : Int))).getD 0
end
end
section
section
def ctx (l : List Nod) (n : Nat) : Nat := ctxF l (ups (psOf l) n)
end
end
end Ar
namespace Ce
section
section
variable {ps : List Int}
inductive Own2 (ps : List Int) (bx : Nat -> Bool) (n : Nat) : Nat -> Prop
 | kid {k : Nat} : k ∈ kidsL ps n -> Own2 ps bx n k
 | deep {m k : Nat} : Own2 ps bx n m -> bx m = true -> k ∈ kidsL ps m -> Own2 ps bx n k
end
end
section
section
variable {ps : List Int}
theorem Own2.under {bx : Nat -> Bool} {n m k : Nat} (hm : Own2 ps bx n m) (hb : bx m = true) (h : Own2 ps bx m k) : Own2 ps bx n k := by
 induction h with
 | kid hk => exact .deep hm hb hk
 | deep _ hb2 hk ih => exact .deep ih hb2 hk
end
end
section
section
variable {ps : List Int}
theorem mem_ins_own (h : Tre ps) (bx : Nat -> Bool) : ∀ d n, ps.length <= n + d -> ∀ j, j ∈ ins (visL ps bx n) -> Own2 ps bx n j := by
 intro d
 induction d with
 | zero =>
   intro n hd j hj
   unfold visL at hj
   rw [qd0 h bx (by omega)] at hj
   cases hj
 | succ d ih =>
   intro n hd j hj
   rw [qfz h, qip] at hj
   obtain ⟨k, hk, hj⟩ := List.mem_flatMap.1 hj
   rw [qrv] at hj
   have hg := qge h hk
   rcases List.mem_cons.1 hj with rfl | hj
   ·exact .kid hk
   ·by_cases hb : bx k = true
    ·rw [if_pos hb] at hj
     exact .under (.kid hk) hb (ih k (by omega) j hj)
    ·rw [if_neg hb] at hj
     cases hj
end
end
section
section
variable {ps : List Int}
theorem own_mem_ins (h : Tre ps) (bx : Nat -> Bool) {n j : Nat} (ho : Own2 ps bx n j) : j ∈ ins (visL ps bx n) /\ (bx j = true -> ∀ k ∈ kidsL ps j, k ∈ ins (visL ps bx n)) := by
 have sub : ∀ d n m, ps.length <= n + d -> m ∈ ins (visL ps bx n) -> bx m = true -> ∀ k ∈ kidsL ps m, k ∈ ins (visL ps bx n) := by
  intro d
  induction d with
  | zero =>
    intro n m hd hm
    unfold visL at hm
    rw [qd0 h bx (by omega)] at hm
    cases hm
  | succ d ih =>
    intro n m hd hm hb k hk
    rw [qfz h, qip] at hm |-
    obtain ⟨q, hq, hm⟩ := List.mem_flatMap.1 hm
    have hg := qge h hq
    refine List.mem_flatMap.2 ⟨q, hq, ?_⟩
    rw [qrv] at hm |-
    refine List.mem_cons_of_mem _ ?_
    rcases List.mem_cons.1 hm with rfl | hm
    ·rw [if_pos hb, qfz h, qip]
     refine List.mem_flatMap.2 ⟨k, hk, ?_⟩
     rw [qrv]
     exact List.mem_cons_self ..
    ·by_cases hbq : bx q = true
     ·rw [if_pos hbq] at hm |-
      exact ih q m (by omega) hm hb k hk
     ·rw [if_neg hbq] at hm
      cases hm
 induction ho with
 | kid hk =>
   rename_i k
   have h1 : k ∈ ins (visL ps bx n) := by
    rw [qfz h, qip]
    refine List.mem_flatMap.2 ⟨k, hk, ?_⟩
    rw [qrv]
    exact List.mem_cons_self ..
   exact ⟨h1, fun hb k2 hk2 => sub ps.length n k (by omega) h1 hb k2 hk2⟩
 | deep _ hb hk ih =>
   rename_i m k _
   have h1 := ih.2 hb k hk
   exact ⟨h1, fun hb k2 hk2 => sub ps.length n k (by omega) h1 hb k2 hk2⟩
end
end
section
section
variable {ps : List Int}
theorem ins_iff (h : Tre ps) (bx : Nat -> Bool) (n j : Nat) : j ∈ ins (visL ps bx n) ↔ Own2 ps bx n j := ⟨mem_ins_own h bx ps.length n (by omega) j, fun ho => (own_mem_ins h bx ho).1⟩
end
end
section
open Fo (Fnt)
theorem run_kids : ∀ (l pre : List Nod) (last : Int), (run pre last l).1 = 0 -> ∀ (i : Nat) (x : Nod), l[i]? = some x -> 0 < pre.length + i -> tb tKids (qav (pre ++ l.take i) x.p) = true
 | [], _, _, _, _, _, h, _ => by simp at h
 | y :: l, pre, last, he, i, x, hx, h0 => by
   unfold run at he
   split at he
   ·rename_i h1
    cases i with
    | zero =>
      simp at hx
      subst hx
      obtain ⟨_, hk, _, _⟩ := qn9 h1
      rw [List.take_zero, List.append_nil]
      unfold qdk at hk
      rw [decide_eq_false (by omega)] at hk
      simp only [Bool.false_eq_true, if_false] at hk
      split at hk
      ·cases hk
      ·split at hk
       ·cases hk
       ·exact hk
    | succ i =>
      have := run_kids l (pre ++ [y]) _ he i x (by simpa using hx) (by rw [List.length_append, List.length_singleton]; omega)
      simpa using this
   ·rename_i h1
    exact absurd he h1
theorem kids_kind {l : List Nod} (hG : Ar.Good l) {i : Nat} {x : Nod} (hx : l[i]? = some x) (h0 : 0 < i) : tb tKids (qav l x.p) = true := by
 have h1 := run_kids l [] (-1) hG.err i x hx (by simpa using h0)
 rw [List.nil_append] at h1
 have hT := hG.tre
 have hlt := (xah hx).1
 have h2 := hT.par i h0 (by rw [qad]; exact hlt)
 have h3 : Ar.pr (psOf l) i = x.p := by unfold Ar.pr psOf; rw [xal, xan, hx]; rfl
 rw [h3] at h2
 unfold qav at h1 |-
 rw [xal, List.getElem?_take, if_pos (by omega), <- xal] at h1
 exact h1
theorem mem_kidsL {ps : List Int} {a k : Nat} (hk : k < ps.length) (hp : Ar.pr ps k = a) : k ∈ kidsL ps a := by
 unfold kidsL
 rw [List.mem_filter, List.mem_range]
 exact ⟨hk, decide_eq_true hp⟩
theorem ctx_step {l : List Nod} (hT : Tre (psOf l)) {j p : Nat} (hp : Ar.pr (psOf l) j = (p : Int)) : ctx l j = if tb tLines (qav l (p : Int)) then p else ctx l p := by
 unfold ctx
 rw [qh1 hT (by omega), hp, xax]
 unfold ctxF
 rw [List.find?_cons]
 cases h : tb tLines (qav l (p : Int)) <;> simp
theorem own_ctx {l : List Nod} (hT : Tre (psOf l)) {k j : Nat} (hk : tb tLines (qav l (k : Int)) = true) (h : Own2 (psOf l) (bxL l) k j) : ctx l j = k := by
 induction h with
 | kid h1 =>
   obtain ⟨_, h2⟩ := qu2 h1
   rw [ctx_step hT h2, if_pos hk]
 | deep _ hb h1 ih =>
   rename_i m j' _
   obtain ⟨_, h2⟩ := qu2 h1
   have h3 : qav l (m : Int) = 2 := by
    unfold bxL at hb
    unfold qav
    rw [xax]
    exact of_decide_eq_true hb
   rw [ctx_step hT h2, h3, if_neg (by decide)]
   exact ih
theorem ctx_own {l : List Nod} (hG : Ar.Good l) (h8 : ∀ (i : Nat) (x : Nod), l[i]? = some x -> 0 <= x.k /\ x.k <= 8) {k : Nat} : ∀ j, 0 < j -> j < l.length -> ctx l j = k -> Own2 (psOf l) (bxL l) k j := by
 have hT := hG.tre
 intro j
 induction j using Nat.strongRecOn with
 | ind j ih =>
   intro h0 hj hc
   obtain ⟨x, hx⟩ : ∃ x, l[j]? = some x := ⟨_, xac hj⟩
   have hkk := kids_kind hG hx h0
   obtain ⟨p1, p2, _⟩ := hT.par j h0 (by rw [qad]; exact hj)
   have hpx : Ar.pr (psOf l) j = x.p := by unfold Ar.pr psOf; rw [xal, xan, hx]; rfl
   obtain ⟨p, hp⟩ : ∃ p : Nat, Ar.pr (psOf l) j = (p : Int) := ⟨(Ar.pr (psOf l) j).toNat, by omega⟩
   rw [<- hpx, hp] at hkk
   have hpl : p < l.length := by omega
   have hkid := mem_kidsL (ps := psOf l) (a := p) (by rw [qad]; exact hj) hp
   rw [ctx_step hT hp] at hc
   obtain ⟨y, hy⟩ : ∃ y, l[p]? = some y := ⟨_, xac hpl⟩
   have hky : qav l (p : Int) = y.k := by unfold qav; rw [xax, getD_at hy]
   obtain ⟨q0, q8⟩ := h8 p y hy
   by_cases hl : tb tLines (qav l (p : Int)) = true
   ·rw [if_pos hl] at hc
    subst hc
    exact .kid hkid
   ·rw [if_neg hl] at hc
    rw [hky] at hl hkk
    have h2 : y.k = 2 := by
     have : y.k = 0 \/ y.k = 1 \/ y.k = 2 \/ y.k = 3 \/ y.k = 4 \/ y.k = 5 \/ y.k = 6 \/ y.k = 7 \/ y.k = 8 := by omega
     rcases this with e | e | e | e | e | e | e | e | e <;> rw [e] at hl hkk <;> first | exact e | exact absurd hkk (by decide) | exact absurd rfl hl
    have hp0 : 0 < p := by
     rcases Nat.eq_zero_or_pos p with e | e
     ·subst e
      have := (hG.pre.all 0 y hy).root rfl
      omega
     ·exact e
    exact .deep (ih p (by omega) hp0 hpl hc) (by unfold bxL; rw [getD_at hy]; exact decide_eq_true h2) hkid
end
end Ce
namespace Ar
section
section
theorem kindAt_of {l : List Nod} {i : Nat} {x : Nod} (h : l[i]? = some x) : qav l (i : Int) = x.k := by
 unfold qav
 rw [xal, xax, h]
 rfl
end
end
end Ar
namespace Ce
section
section
variable {ps : List Int}
theorem inc_ext : ∀ {l m : List Nat}, Inc l -> Inc m -> (∀ j, j ∈ l ↔ j ∈ m) -> l = m
 | [], [], _, _, _ => rfl
 | [], b :: m, _, _, h => by have := (h b).2 (List.mem_cons_self ..); cases this
 | a :: l, [], _, _, h => by have := (h a).1 (List.mem_cons_self ..); cases this
 | a :: l, b :: m, h1, h2, h => by
   obtain ⟨a1, a2⟩ := List.pairwise_cons.1 h1
   obtain ⟨b1, b2⟩ := List.pairwise_cons.1 h2
   have e : a = b := by
    have p := (h a).1 (List.mem_cons_self ..)
    have q := (h b).2 (List.mem_cons_self ..)
    rcases List.mem_cons.1 p with e | p
    ·exact e
    ·rcases List.mem_cons.1 q with e | q
     ·exact e.symm
     ·have := b1 a p
      have := a1 b q
      omega
   subst e
   rw [inc_ext a2 b2 fun j => ⟨fun hj => ?_, fun hj => ?_⟩]
   ·rcases List.mem_cons.1 ((h j).1 (List.mem_cons_of_mem _ hj)) with e | p
    ·have := a1 j hj
     omega
    ·exact p
   ·rcases List.mem_cons.1 ((h j).2 (List.mem_cons_of_mem _ hj)) with e | p
    ·have := b1 j hj
     omega
    ·exact p
end
end
section
section
variable {ps : List Int}
def opn (bx : Nat -> Bool) (s : List Nat) (x : Nat × Bool) : List Nat := if bx x.1 then (if x.2 then s ++ [x.1] else s.dropLast) else s
end
end
section
section
variable {ps : List Int}
def opens (bx : Nat -> Bool) (l : List (Nat × Bool)) (s : List Nat) : List Nat := l.foldl (opn bx) s
end
end
section
section
variable {ps : List Int}
def Fine (ps : List Int) (bx : Nat -> Bool) : List (Nat × Bool) -> List Nat -> Prop
 | [], _ => True
 | x :: l, s => (∀ a ∈ s, Abv ps a x.1) /\ (bx x.1 = true -> x.2 = false -> s.getLast? = some x.1) /\ Fine ps bx l (opn bx s x)
end
end
section
section
variable {ps : List Int}
theorem fine_app (bx : Nat -> Bool) : ∀ (l m : List (Nat × Bool)) (s : List Nat), Fine ps bx (l ++ m) s ↔ Fine ps bx l s /\ Fine ps bx m (opens bx l s)
 | [], _, _ => by simp [Fine, opens]
 | x :: l, m, s => by
   show _ /\ _ /\ Fine ps bx (l ++ m) _ ↔ (_ /\ _ /\ Fine ps bx l _) /\ _
   rw [fine_app bx l m]
   constructor
   ·rintro ⟨h1, h2, h3, h4⟩; exact ⟨⟨h1, h2, h3⟩, h4⟩
   ·rintro ⟨⟨h1, h2, h3⟩, h4⟩; exact ⟨h1, h2, h3, h4⟩
end
end
section
section
variable {ps : List Int}
theorem opens_app (bx : Nat -> Bool) (l m : List (Nat × Bool)) (s : List Nat) : opens bx (l ++ m) s = opens bx m (opens bx l s) := by
 unfold opens
 rw [List.foldl_append]
end
end
section
section
variable {ps : List Int}
theorem fine_vis (h : Tre ps) (bx : Nat -> Bool) : ∀ d n s, ps.length <= n + d -> (∀ a ∈ s, Abv ps a n) -> Fine ps bx (visL ps bx n) s /\ opens bx (visL ps bx n) s = s := by
 intro d
 induction d with
 | zero =>
   intro n s hd _
   unfold visL
   rw [qd0 h bx (by omega)]
   exact ⟨trivial, rfl⟩
 | succ d ih =>
   intro n s hd hs
   rw [qfz h]
   have key : ∀ ks : List Nat, (∀ k ∈ ks, k ∈ kidsL ps n) -> Fine ps bx (ks.flatMap (qgf ps bx)) s /\ opens bx (ks.flatMap (qgf ps bx)) s = s := by
    intro ks
    induction ks with
    | nil => intro _; exact ⟨trivial, rfl⟩
    | cons k ks ih2 =>
      intro hks
      have hk := hks k (List.mem_cons_self ..)
      have hg := qge h hk
      obtain ⟨i1, i2⟩ := ih2 fun k hk => hks k (List.mem_cons_of_mem _ hk)
      have hup : ∀ a ∈ s, Abv ps a k := fun a ha => .up (by have := (qu2 hk).2; omega) (by rw [(qu2 hk).2, xax]; exact hs a ha)
      have one : Fine ps bx (qgf ps bx k) s /\ opens bx (qgf ps bx k) s = s := by
       unfold qgf
       by_cases hb : bx k = true
       ·rw [if_pos hb]
        obtain ⟨j1, j2⟩ := ih k (s ++ [k]) (by omega) fun a ha => by
         rcases List.mem_append.1 ha with ha | ha
         ·exact hup a ha
         ·rw [List.mem_singleton.1 ha]; exact .refl
        have e1 : opn bx s (k, true) = s ++ [k] := by simp [opn, hb]
        have e2 : opn bx (s ++ [k]) (k, false) = s := by simp [opn, hb]
        constructor
        ·refine ⟨hup, fun _ h => (by cases h), ?_⟩
         rw [e1, fine_app]
         refine ⟨j1, ?_⟩
         rw [j2]
         refine ⟨fun a ha => ?_, fun _ _ => List.getLast?_concat, trivial⟩
         rcases List.mem_append.1 ha with ha | ha
         ·exact hup a ha
         ·rw [List.mem_singleton.1 ha]; exact .refl
        ·show opens bx (visL ps bx k ++ [(k, false)]) (opn bx s (k, true)) = s
         rw [e1, opens_app, j2]
         exact e2
       ·have e : ∀ b, opn bx s (k, b) = s := fun b => by simp [opn, hb]
        rw [if_neg hb]
        refine ⟨⟨hup, fun h => absurd h hb, ?_⟩, ?_⟩
        ·rw [e]
         exact ⟨hup, fun h => absurd h hb, trivial⟩
        ·show opn bx (opn bx s (k, true)) (k, false) = s
         rw [e, e]
      rw [List.flatMap_cons, fine_app, opens_app, one.2]
      exact ⟨⟨one.1, i1⟩, i2⟩
   exact key _ fun _ h => h
end
end
section
section
theorem pcs_stop {g : Gv} {n : Nat} : ∀ f s, g.cs.length < s.nx + f -> ∀ c, g.cs[(pcs g n f s).nx]? = some c -> ¬ c.node = (n : Int) := by
 intro f
 induction f with
 | zero =>
   intro s h c hc
   rw [List.getElem?_eq_none (by show g.cs.length <= s.nx; omega)] at hc
   cases hc
 | succ f ih =>
   intro s h c hc
   cases hd : g.cs[s.nx]? with
   | none => rw [qmd hd, hd] at hc; cases hc
   | some d =>
     by_cases hn : d.node = (n : Int)
     ·rw [qmc hd hn] at hc
      exact ih (oneV g n s d) (by show _ < s.nx + 1 + f; omega) c hc
     ·rw [qjn hd hn, hd] at hc
      injection hc with hc
      subst hc
      exact hn
end
end
section
open Fo (Fnt)
def stk (m : List Cl) : List Nat := m.foldl (fun s u => if u.k = 7 then s ++ [u.node.toNat] else if u.k = 8 then s.dropLast else s) []
def cnt (m : List Cl) : Nat := (m.filter fun u => !decide (u.k = 7) && !decide (u.k = 8)).length
def eds (m : List Cl) : Nat := (m.filter fun u => decide (u.k = 7)).length
theorem stk_snoc (m : List Cl) (u : Cl) : stk (m ++ [u]) = if u.k = 7 then stk m ++ [u.node.toNat] else if u.k = 8 then (stk m).dropLast else stk m := by
 unfold stk
 rw [List.foldl_append]
 rfl
theorem cnt_snoc (m : List Cl) (u : Cl) : cnt (m ++ [u]) = if u.k = 7 \/ u.k = 8 then cnt m else cnt m + 1 := by
 unfold cnt
 rw [List.filter_append, List.length_append, List.filter_cons, List.filter_nil]
 by_cases h7 : u.k = 7 <;> by_cases h8 : u.k = 8 <;> simp [h7, h8]
theorem eds_snoc (m : List Cl) (u : Cl) : eds (m ++ [u]) = if u.k = 7 then eds m + 1 else eds m := by
 unfold eds
 rw [List.filter_append, List.length_append, List.filter_cons, List.filter_nil]
 by_cases h7 : u.k = 7 <;> simp [h7]
theorem putV_is (s : Rst) (c : Cl) : ∃ d, (putV s c).out = s.out ++ [d] /\ d.k = c.k /\ d.node = c.node /\ d.ch = c.ch /\ d.adv = c.adv := by
 unfold putV
 split <;> exact ⟨_, rfl, rfl, rfl, rfl, rfl⟩
structure NestAt (l : List Nod) (k : Nat) (g : Gv) (p : List Cl) (u : Cl) : Prop where
 node : 0 <= u.node
 lt : u.node.toNat < l.length
 ctx : Ar.ctx l u.node.toNat = k
 abv : ∀ a ∈ stk p, Abv (psOf l) a u.node.toNat
 op : u.k = 7 -> bxL l u.node.toNat = true /\ u.ch = -1 /\ u.adv = g.st u.node.toNat
 cl : u.k = 8 -> (stk p).getLast? = some u.node.toNat /\ u.ch = -1 /\ u.adv = g.en u.node.toNat
 ch : u.k ≠ 7 -> u.k ≠ 8 -> u.ch = (cnt p : Nat) /\ ∃ c, g.cs[cnt p]? = some c /\ c.node = u.node
def NestOk (l : List Nod) (k : Nat) (g : Gv) (m : List Cl) : Prop := ∀ i u, m[i]? = some u -> NestAt l k g (m.take i) u
structure NestS (l : List Nod) (k : Nat) (g : Gv) (s : Rst) (q : List Nat) : Prop where
 ok : NestOk l k g s.out
 hs : stk s.out = q
 hn : cnt s.out = s.nx
section
variable {l : List Nod} {k : Nat} {g : Gv} {s : Rst} {q : List Nat}
theorem nestOk_snoc {m : List Cl} {u : Cl} (h : NestOk l k g m) (hu : NestAt l k g m u) : NestOk l k g (m ++ [u]) := fun i v hv => by
 rcases Nat.lt_trichotomy i m.length with h1 | h1 | h1
 ·rw [List.getElem?_append_left h1] at hv
  rw [List.take_append_of_le_length (by omega)]
  exact h i v hv
 ·subst h1
  rw [List.getElem?_append_right (xat), Nat.sub_self] at hv
  obtain rfl : u = v := by simpa using hv
  rw [List.take_append_of_le_length (xat), List.take_length]
  exact hu
 ·rw [List.getElem?_eq_none (by simp; omega)] at hv
  cases hv
theorem nest_edge {n : Nat} {b : Bool} (h : NestS l k g s q) (hb : g.bx n = true) (hbx : bxL l n = true) (hn : n < l.length) (hc : Ar.ctx l n = k) (ha : ∀ a ∈ q, Abv (psOf l) a n) (hl : b = false -> q.getLast? = some n) : NestS l k g (putV s (edgV g (n, b))) (opn g.bx q (n, b)) := by
 obtain ⟨c, e, e1, e2, e3, e4⟩ := putV_is s (edgV g (n, b))
 have hnd : c.node.toNat = n := by rw [e2]; exact xax n
 have h0 : 0 <= c.node := by rw [e2]; exact Int.natCast_nonneg n
 cases b with
 | true =>
   have e7 : c.k = 7 := e1
   refine ⟨?_, ?_, ?_⟩
   ·rw [e]
    exact nestOk_snoc h.ok ⟨h0, by rw [hnd]; exact hn, by rw [hnd]; exact hc, by rw [h.hs, hnd]; exact ha, fun _ => ⟨by rw [hnd]; exact hbx, e3, by rw [hnd]; exact e4⟩, fun h8 => by omega, fun h7 => absurd e7 h7⟩
   ·rw [e, stk_snoc, if_pos e7, h.hs, hnd]
    simp [opn, hb]
   ·rw [e, cnt_snoc, if_pos (.inl e7), h.hn, qkz]
 | false =>
   have e8 : c.k = 8 := e1
   refine ⟨?_, ?_, ?_⟩
   ·rw [e]
    exact nestOk_snoc h.ok ⟨h0, by rw [hnd]; exact hn, by rw [hnd]; exact hc, by rw [h.hs, hnd]; exact ha, fun h7 => by omega, fun _ => ⟨by rw [h.hs, hnd]; exact hl rfl, e3, by rw [hnd]; exact e4⟩, fun _ h8 => absurd e8 h8⟩
   ·rw [e, stk_snoc, if_neg (by omega), if_pos e8, h.hs]
    simp [opn, hb]
   ·rw [e, cnt_snoc, if_pos (.inr e8), h.hn, qkz]
theorem nest_one {n : Nat} {c : Cr} (h : NestS l k g s q) (hc : g.cs[s.nx]? = some c) (hcn : c.node = (n : Int)) (h6 : c.kind <= 6) (hn : n < l.length) (hx : Ar.ctx l n = k) (ha : ∀ a ∈ q, Abv (psOf l) a n) : NestS l k g (oneV g n s c) q := by
 obtain ⟨d, e, e1, e2, e3, e4⟩ := putV_is s (qm3 c n s.nx (g.adv c))
 have eo : (oneV g n s c).out = s.out ++ [d] := e
 have hnd : d.node.toNat = n := by rw [e2]; exact xax n
 have h0 : 0 <= d.node := by rw [e2]; exact Int.natCast_nonneg n
 have ek : d.k = c.kind := e1
 refine ⟨?_, ?_, ?_⟩
 ·rw [eo]
  exact nestOk_snoc h.ok ⟨h0, by rw [hnd]; exact hn, by rw [hnd]; exact hx, by rw [h.hs, hnd]; exact ha, fun h7 => by omega, fun h8 => by omega, fun _ _ => by
   rw [h.hn]
   exact ⟨e3, c, hc, by rw [e2]; exact hcn⟩⟩
 ·rw [eo, stk_snoc, if_neg (by omega), if_neg (by omega), h.hs]
 ·rw [eo, cnt_snoc, if_neg (by omega), h.hn]
  rfl
theorem nest_all (h6 : ∀ c ∈ g.cs, c.kind <= 6) (hbx : g.bx = bxL l) : ∀ pre, Fine (psOf l) g.bx pre [] -> (∀ j ∈ ins pre, j < l.length /\ Ar.ctx l j = k) -> NestS l k g (qfb g pre) (opens g.bx pre []) /\ ∀ a ∈ opens g.bx pre [], a ∈ ins pre := by
 intro pre
 induction pre using qd3 with
 | nil => exact fun _ _ => ⟨⟨fun i u h => by simp [qfb, s0V] at h, rfl, rfl⟩, fun a h => by cases h⟩
 | snoc pre x ih =>
   intro hf hi
   obtain ⟨f1, f3, f4, _⟩ := (fine_app g.bx pre [x] []).1 hf
   obtain ⟨q1, q2⟩ := ih f1 fun j hj => hi j (by rw [qrw]; exact List.mem_append_left _ hj)
   rw [qgu, opens_app]
   rw [qrw] at hi |-
   show NestS l k g (stV g (qfb g pre) x) (opn g.bx (opens g.bx pre []) x) /\ ∀ a ∈ opn g.bx (opens g.bx pre []) x, a ∈ ins pre ++ ins [x]
   obtain ⟨n, b⟩ := x
   by_cases hb : g.bx n = true
   ·have e : stV g (qfb g pre) (n, b) = putV (qfb g pre) (edgV g (n, b)) := if_pos hb
    have hin : n ∈ ins pre ++ ins [(n, b)] := by
     cases b with
     | true => exact List.mem_append_right _ (List.mem_cons_self ..)
     | false => exact List.mem_append_left _ (q2 n (List.mem_of_getLast? (f4 hb rfl)))
    obtain ⟨i1, i2⟩ := hi n hin
    rw [e]
    refine ⟨nest_edge q1 hb (by rw [<- hbx]; exact hb) i1 i2 f3 fun h => f4 hb h, fun a ha => ?_⟩
    cases b with
    | true =>
      have ha : a ∈ opens g.bx pre [] ++ [n] := by simpa [opn, hb] using ha
      rcases List.mem_append.1 ha with h | h
      ·exact List.mem_append_left _ (q2 a h)
      ·rw [List.mem_singleton.1 h]; exact hin
    | false =>
      have ha : a ∈ (opens g.bx pre []).dropLast := by simpa [opn, hb] using ha
      exact List.mem_append_left _ (q2 a ((List.dropLast_sublist _).subset ha))
   ·have eo : opn g.bx (opens g.bx pre []) (n, b) = opens g.bx pre [] := if_neg hb
    rw [eo]
    refine ⟨?_, fun a ha => List.mem_append_left _ (q2 a ha)⟩
    cases b with
    | true =>
      obtain ⟨i1, i2⟩ := hi n (List.mem_append_right _ (List.mem_cons_self ..))
      have e : stV g (qfb g pre) (n, true) = pcs g n (g.cs.length + 1) (qfb g pre) := by simp [stV, hb]
      rw [e]
      exact qq1 (P := fun t => NestS l k g t (opens g.bx pre [])) (fun t c h h1 h2 => nest_one h h1 h2 (h6 c (xav h1)) i1 i2 f3) _ _ q1
    | false =>
      have e : stV g (qfb g pre) (n, false) = qfb g pre := by simp [stV, hb]
      rw [e]
      exact q1
theorem eds_all (h6 : ∀ c ∈ g.cs, c.kind <= 6) : ∀ pre, eds (qfb g pre).out = ((ins pre).filter g.bx).length := by
 intro pre
 induction pre using qd3 with
 | nil => rfl
 | snoc pre x ih =>
   rw [qgu, qrw, List.filter_append, List.length_append, <- ih]
   obtain ⟨n, b⟩ := x
   by_cases hb : g.bx n = true
   ·have e : stV g (qfb g pre) (n, b) = putV (qfb g pre) (edgV g (n, b)) := if_pos hb
    obtain ⟨c, e0, e1, _⟩ := putV_is (qfb g pre) (edgV g (n, b))
    rw [e, e0, eds_snoc]
    cases b with
    | true =>
      have e7 : c.k = 7 := e1
      rw [if_pos e7]
      simp [ins, hb]
    | false =>
      have e8 : c.k = 8 := e1
      rw [if_neg (by omega)]
      simp [ins]
   ·cases b with
    | true =>
      have e : stV g (qfb g pre) (n, true) = pcs g n (g.cs.length + 1) (qfb g pre) := by simp [stV, hb]
      have hi : ((ins [(n, true)]).filter g.bx).length = 0 := by simp [ins, hb]
      rw [e, hi]
      exact qq1 (P := fun t => eds t.out = eds (qfb g pre).out) (fun t c h h1 _ => by
       obtain ⟨d, e0, e1, _⟩ := putV_is t (qm3 c n t.nx (g.adv c))
       have ek : d.k = c.kind := e1
       have := h6 c (xav h1)
       show eds (putV t (qm3 c n t.nx (g.adv c))).out = _
       rw [e0, eds_snoc, if_neg (by omega), h]) _ _ rfl
    | false =>
      have e : stV g (qfb g pre) (n, false) = qfb g pre := by simp [stV, hb]
      rw [e]
      simp [ins]
theorem left_all {V : List (Nat × Bool)} (hV : Inc (ins V)) (hnd : ∀ c ∈ g.cs, ∃ n : Nat, c.node = n /\ n ∈ ins V /\ g.bx n = false) (hst : g.cs.Pairwise fun a b => a.node <= b.node) : ∀ pre post, pre ++ post = V -> ∀ j c, (qfb g pre).nx <= j -> g.cs[j]? = some c -> c.node.toNat ∉ ins pre := by
 intro pre
 induction pre using qd3 with
 | nil => intro post _ j c _ _ h; cases h
 | snoc pre x ih =>
   intro post hp j c hj hc hm
   have hp' : pre ++ (x :: post) = V := by simpa using hp
   have hi := ih (x :: post) hp'
   obtain ⟨n, b⟩ := x
   rw [qgu] at hj
   rw [qrw] at hm
   obtain ⟨m, m1, m2, m3⟩ := hnd c (xav hc)
   have hcm : c.node.toNat = m := by rw [m1]; exact xax m
   rw [hcm] at hm
   by_cases hb : g.bx n = true
   ·have e : stV g (qfb g pre) (n, b) = putV (qfb g pre) (edgV g (n, b)) := if_pos hb
    rw [e, qkz] at hj
    rcases List.mem_append.1 hm with h | h
    ·exact hi j c hj hc (by rw [hcm]; exact h)
    ·cases b with
     | true =>
       obtain rfl : m = n := List.mem_singleton.1 h
       rw [hb] at m3
       cases m3
     | false => cases h
   ·cases b with
    | false =>
      have e : stV g (qfb g pre) (n, false) = qfb g pre := by simp [stV, hb]
      rw [e] at hj
      rcases List.mem_append.1 hm with h | h
      ·exact hi j c hj hc (by rw [hcm]; exact h)
      ·cases h
    | true =>
      have e : stV g (qfb g pre) (n, true) = pcs g n (g.cs.length + 1) (qfb g pre) := by simp [stV, hb]
      rw [e] at hj
      have hmono : (qfb g pre).nx <= (pcs g n (g.cs.length + 1) (qfb g pre)).nx := qq1 (P := fun t => (qfb g pre).nx <= t.nx) (fun t c h _ _ => by show _ <= t.nx + 1; omega) _ _ (xat)
      have hstop := pcs_stop (g := g) (n := n) (g.cs.length + 1) (qfb g pre) (by omega)
      obtain ⟨j0, hj0⟩ : ∃ j0, (pcs g n (g.cs.length + 1) (qfb g pre)).nx = j0 := ⟨_, rfl⟩
      rw [hj0] at hj hmono hstop
      have hjl := (xah hc).1
      rcases List.mem_append.1 hm with h | h
      ·exact hi j c (by omega) hc (by rw [hcm]; exact h)
      ·obtain rfl : m = n := List.mem_singleton.1 h
       obtain ⟨c0, hc0⟩ : ∃ c0, g.cs[j0]? = some c0 := ⟨_, xac (by omega)⟩
       have h0 := hstop c0 hc0
       obtain ⟨p, p1, p2, _⟩ := hnd c0 (xav hc0)
       have hle : c0.node <= c.node := by
        rcases Nat.lt_or_ge j0 j with h | h
        ·obtain ⟨z0, rfl⟩ := xah hc0
         obtain ⟨z1, rfl⟩ := xah hc
         exact List.pairwise_iff_getElem.1 hst j0 j z0 z1 h
        ·obtain rfl : j0 = j := by omega
         rw [hc0] at hc
         injection hc with hc
         rw [hc]
         exact Int.le_refl _
       have hp0 : p ∉ ins pre := by
        have := hi j0 c0 hmono hc0
        rwa [p1, xax] at this
       rw [<- hp', qrw, qxn] at p2 hV
       have hpn : p ≠ m := fun h => h0 (by rw [p1, h])
       have hpp : p ∈ ins post := by
        rcases List.mem_append.1 p2 with h | h
        ·exact absurd h hp0
        ·rcases List.mem_cons.1 h with h | h
         ·exact absurd h hpn
         ·exact h
       have hlt := (List.pairwise_cons.1 (List.pairwise_append.1 hV).2.1).1 p hpp
       omega
theorem left_sub {a b : List Cr} (h : Wh.Left a b) : (b.map fun c => c.node).Sublist (a.map fun c => c.node) := by
 induction h with
 | nil => exact .slnil
 | skip _ _ ih => exact .cons _ ih
 | keep _ h _ _ _ ih => rw [List.map_cons, List.map_cons, h]; exact .cons_cons _ ih
theorem chV_sorted : ∀ pre : List (Nat × Bool), Inc (ins pre) -> ((chV l pre).map fun c => c.node).Pairwise (· <= ·) /\ ∀ c ∈ chV l pre, ∃ n : Nat, c.node = n /\ n ∈ ins pre
 | [], _ => ⟨.nil, fun c h => by cases h⟩
 | (n, false) :: pre, hi => chV_sorted pre hi
 | (n, true) :: pre, hi => by
   have e : chV l ((n, true) :: pre) = ownC (l.getD n .zero) n ++ chV l pre := rfl
   obtain ⟨h1, h2⟩ := List.pairwise_cons.1 hi
   obtain ⟨q1, q2⟩ := chV_sorted pre h2
   have ho := fun c hc => (qzi (l.getD n .zero) n c hc).1
   rw [e]
   constructor
   ·rw [List.map_append, List.pairwise_append]
    refine ⟨?_, q1, fun x hx y hy => ?_⟩
    ·rw [List.pairwise_map]
     exact List.pairwise_of_forall_mem_list fun a ha b hb => by rw [ho a ha, ho b hb]; exact Int.le_refl _
    ·obtain ⟨a, ha, rfl⟩ := List.mem_map.1 hx
     obtain ⟨b, hb, rfl⟩ := List.mem_map.1 hy
     obtain ⟨m, m1, m2⟩ := q2 b hb
     have : n < m := h1 m m2
     show a.node <= b.node
     rw [ho a ha, m1]
     omega
   ·intro c hc
    rcases List.mem_append.1 hc with h | h
    ·exact ⟨n, ho c h, List.mem_cons_self ..⟩
    ·obtain ⟨m, m1, m2⟩ := q2 c h
     exact ⟨m, m1, List.mem_cons_of_mem _ m2⟩
end
section
variable {ss : List Sty} {fs : List Fnt} {at_ : List Int} {l : List Nod} {k : Nat}
theorem own_box {x : Nod} {n : Nat} {c : Cr} (h : c ∈ ownC x n) : x.k ≠ 2 := by
 intro h2
 unfold ownC at h
 rw [h2] at h
 simp at h
def boxB (l : List Nod) (k n : Nat) : Bool := !decide (n = k) && (bxL l n && decide (Ar.ctx l n = k))
theorem nest_full (hG : Ar.Good l) (h8 : ∀ (i : Nat) (x : Nod), l[i]? = some x -> 0 <= x.k /\ x.k <= 8) (hk : k < l.length) (hin : tb tLines (qav l (k : Int)) = true) :
 NestOk l k (givL ss fs at_ l k) (cellL ss fs at_ l k) /\ stk (cellL ss fs at_ l k) = [] /\ cnt (cellL ss fs at_ l k) = (csL ss l k).length /\ eds (cellL ss fs at_ l k) = ((List.range l.length).filter (boxB l k)).length := by
 have hT := hG.tre
 have h6 : ∀ c ∈ (givL ss fs at_ l k).cs, c.kind <= 6 := fun c hc => (qe4 hT hk c hc).2.2
 obtain ⟨f1, f2⟩ := fine_vis hT (bxL l) (psOf l).length k [] (by omega) (fun a ha => by cases ha)
 have hctx : ∀ j ∈ ins (visL (psOf l) (bxL l) k), j < l.length /\ Ar.ctx l j = k := fun j hj => by
  have h1 := ((qk8 hT (bxL l) (n := k) (by rw [qad]; exact hk)).2 j hj).2
  rw [qad] at h1
  exact ⟨h1, own_ctx hT hin ((ins_iff hT (bxL l) k j).1 hj)⟩
 obtain ⟨⟨n1, n2, n3⟩, _⟩ := nest_all (g := givL ss fs at_ l k) (k := k) h6 rfl (visL (psOf l) (bxL l) k) f1 hctx
 obtain ⟨i1, i2⟩ := qk8 hT (bxL l) (n := k) (by rw [qad]; exact hk)
 refine ⟨n1, n2.trans f2, n3.trans ?_, ?_⟩
 ·have hle := (qiz h6 (visL (psOf l) (bxL l) k)).2
  refine Nat.le_antisymm hle (Nat.not_lt.1 fun hlt => ?_)
  obtain ⟨c, hc⟩ : ∃ c, (csL ss l k)[(qfb (givL ss fs at_ l k) (visL (psOf l) (bxL l) k)).nx]? = some c := ⟨_, xac hlt⟩
  have hnd : ∀ c ∈ (givL ss fs at_ l k).cs, ∃ n : Nat, c.node = n /\ n ∈ ins (visL (psOf l) (bxL l) k) /\ (givL ss fs at_ l k).bx n = false := fun c hc => by
   obtain ⟨⟨n, q1, q2, _, d, q3⟩, _⟩ := qe4 hT hk c hc
   exact ⟨n, q1, q2, decide_eq_false (own_box q3)⟩
  have hst : (csL ss l k).Pairwise fun a b => a.node <= b.node := by
   have := (chV_sorted (l := l) (visL (psOf l) (bxL l) k) i1).1.sublist (left_sub (qmx (ss := ss)))
   rwa [List.pairwise_map] at this
  obtain ⟨n, q1, q2, _⟩ := hnd c (xav hc)
  refine left_all (g := givL ss fs at_ l k) i1 hnd hst _ [] (List.append_nil _) _ c (xat) hc ?_
  rw [q1, xax]
  exact q2
 ·refine (eds_all h6 (visL (psOf l) (bxL l) k)).trans ?_
  congr 1
  refine inc_ext (i1.filter _) (List.Pairwise.filter _ List.pairwise_lt_range) fun j => ?_
  rw [List.mem_filter, List.mem_filter, ins_iff hT (bxL l) k j, List.mem_range]
  unfold boxB
  simp only [Bool.and_eq_true, Bool.not_eq_true', decide_eq_false_iff_not, decide_eq_true_eq]
  constructor
  ·rintro ⟨h, hb⟩
   have hj := (ins_iff hT (bxL l) k j).2 h
   have := i2 j hj
   exact ⟨(hctx j hj).1, by omega, hb, (hctx j hj).2⟩
  ·rintro ⟨hj, hne, hb, hc⟩
   have h0 : 0 < j := by
    rcases Nat.eq_zero_or_pos j with e | e
    ·subst e
     obtain ⟨x, hx⟩ := qex hG.pos
     have hr : qav l 0 = 0 := (kindAt_of (i := 0) hx).trans ((hG.pre.all 0 x hx).root rfl)
     have h2 : qav l 0 = 2 := of_decide_eq_true hb
     omega
    ·exact e
   exact ⟨ctx_own hG h8 j h0 hj hc, hb⟩
end
end
section
theorem abv_step {ps : List Int} {a c : Nat} (h : c ≠ a) : Abv ps a c ↔ 0 <= pr ps c /\ Abv ps a (pr ps c).toNat := ⟨fun h1 => h1.parent (Ne.symm h), fun ⟨h0, h1⟩ => .up h0 h1⟩
theorem cabove_any (l : List Nod) (v : Value) (a b : Nat) (B : Bool) (w : World) (hR : Ns w v l) (hT : Tre (psOf l)) (_hn : l.length <= 1000) (hb : b < l.length) (hB : B = true ↔ Abv (psOf l) a b) :
 Calls Tryz.prog 12 #[v, .int .i64 (a : Int), .int .i64 (b : Int)] w fun e w' => e = .returned (.bool B) /\ w = w' := by
 have HR := xaa hR
 have HT := xaa hT
 have HB := xaa hB
 obtain ⟨A, cap, rfl⟩ := hR.form
 obtain ⟨n, hl⟩ : ∃ n, l.length = n := ⟨_, rfl⟩
 have HL := xaa hl
 rw [hl] at hb HR |-
 clear hR hT hB hl
 go_enter Tryz.func12, Tryz.ntmps12
 go_wp2_with fail
 go_loopg [2] (b + 1) (fun kx s2 wr => w = wr /\ ∃ c : Int, s2 = .int .i64 c /\ -1 <= c /\ c < n /\ kx = (c + 1).toNat /\ Hid (B = true ↔ 0 <= c /\ Abv (psOf l) a c.toNat))
 case atStart => exact ⟨rfl, b, rfl, by omega, by omega, by omega, xaa (HB.out.trans ⟨fun h => ⟨by omega, by simpa using h⟩, fun h => by simpa using h.2⟩)⟩
 case round =>
  obtain ⟨rfl, c, rfl, h1, h2, rfl, HI⟩ := hrel
  clear HB
  by_cases h0 : 0 <= c
  ·obtain ⟨k, rfl⟩ : ∃ k : Nat, c = k := ⟨c.toNat, by omega⟩
   by_cases he : k = a
   ·subst he
    obtain rfl : B = true := HI.out.2 ⟨h0, by rw [xax]; exact .refl⟩
    clear HI
    go_wp2_with fail
    go_ret
    exact ⟨rfl, rfl⟩
   ·have hne : ¬ (k : Int) = (a : Int) := by omega
    have hkl : k < l.length := by rw [HL.out]; omega
    obtain ⟨x, hx⟩ := qex hkl
    obtain ⟨q1, q2⟩ := qjo HT.out hx
    obtain ⟨ad, cap2, o, hv, _, ha, hLi⟩ := HR.out.get (xas) hx
    injection hv with hv1 hv2 hv3
    subst hv1 hv3
    have hc := hLi.p
    have hpr := qk1 hx
    have HN : Hid (B = true ↔ 0 <= x.p /\ Abv (psOf l) a x.p.toNat) := by
     have := HI.out
     rw [xax] at this
     refine xaa (this.trans ⟨fun h => ?_, fun h => ⟨h0, ?_⟩⟩)
     ·rw [<- hpr]; exact (abv_step he).1 h.2
     ·exact (abv_step he).2 (by rw [hpr]; exact h)
    obtain ⟨p, hp⟩ : ∃ p, x.p = p := ⟨_, rfl⟩
    rw [hp] at q1 q2 hc HN
    clear HI hv2 hLi hpr hx hp
    go_wp2_with fail
    go_roundg ((p + 1).toNat)
    case measure => omega
    case rel => exact ⟨rfl, p, rfl, q1, by omega, rfl, HN⟩
  ·obtain rfl : c = -1 := by omega
   have hb : B = false := by
    cases B with
    | false => rfl
    | true => have := (HI.out.1 rfl).1; omega
   subst hb
   have hne : ¬ (-1 : Int) = (a : Int) := by omega
   clear HI
   go_wp2_with fail
   go_ret
   exact ⟨rfl, rfl⟩
theorem good8 {l : List Nod} (h : Ar.Good l) (hW : WfL l) : ∀ (i : Nat) (x : Nod), l[i]? = some x -> 0 <= x.k /\ x.k <= 8 := fun i x hx => ⟨(hW i x hx).k0, (h.pre.all i x hx).kind⟩
theorem lines_iffN {k : Int} (h0 : 0 <= k) (h8 : k <= 8) : tb tLines k = (decide (k = 0) || decide (4 <= k)) := by
 have : k = 0 \/ k = 1 \/ k = 2 \/ k = 3 \/ k = 4 \/ k = 5 \/ k = 6 \/ k = 7 \/ k = 8 := by omega
 rcases this with rfl | rfl | rfl | rfl | rfl | rfl | rfl | rfl | rfl <;> rfl
theorem nctx_any (l : List Nod) (v : Value) (b : Nat) (w : World) (hR : Ns w v l) (hT : Tre (psOf l)) (_hn : l.length <= 1000) (hb : b < l.length) (hk8 : ∀ (i : Nat) (x : Nod), l[i]? = some x -> 0 <= x.k /\ x.k <= 8) :
 Calls Tryz.prog 11 #[v, .int .i64 (b : Int)] w fun e w' => e = .returned (.int .i64 (ctx l b : Nat)) /\ w = w' := by
 have HR := xaa hR
 have HT := xaa hT
 have H8 := xaa hk8
 obtain ⟨A, cap, rfl⟩ := hR.form
 obtain ⟨n, hl⟩ : ∃ n, l.length = n := ⟨_, rfl⟩
 have HL := xaa hl
 obtain ⟨D, hD⟩ : ∃ D, ctx l b = D := ⟨_, rfl⟩
 have HD := xaa hD
 rw [hl] at hb HR |-
 rw [hD]
 clear hR hT hl hD hk8
 go_enter Tryz.func11, Tryz.ntmps11
 go_wp2_with fail
 go_loopg [1] (b + 1) (fun kx s1 wr => w = wr /\ ∃ c : Nat, s1 = .int .i64 c /\ c < n /\ kx = c + 1 /\ Hid (ctx l c = D))
 case atStart => exact ⟨rfl, b, rfl, hb, rfl, HD⟩
 case round =>
  obtain ⟨rfl, c, rfl, h1, rfl, HI⟩ := hrel
  clear HD
  have hkl : c < l.length := by rw [HL.out]; omega
  obtain ⟨x, hx⟩ := qex hkl
  have HPR := xaa (qk1 hx)
  obtain ⟨ad, cap2, o, hv, _, ha, hLi⟩ := HR.out.get (xas) hx
  injection hv with hv1 hv2 hv3
  subst hv1 hv3
  have hc := hLi.p
  by_cases h0 : 0 < c
  ·obtain ⟨q1, q2, _⟩ := HT.out.par c h0 (by rw [qad]; exact hkl)
   rw [HPR.out] at q1 q2
   obtain ⟨p, hp⟩ : ∃ p, x.p = p := ⟨_, rfl⟩
   rw [hp] at q1 q2 hc HPR
   obtain ⟨k, rfl⟩ : ∃ k : Nat, p = k := ⟨p.toNat, by omega⟩
   have hkl2 : k < l.length := by omega
   obtain ⟨y, hy⟩ := qex hkl2
   obtain ⟨ad2, cap3, o2, hv, _, ha2, hLi2⟩ := HR.out.get (xas) hy
   injection hv with hv1 hv4 hv3
   injection hv1 with hv1
   subst hv1 hv3
   have hc2 := hLi2.k
   have hst := ctx_step HT.out HPR.out
   have hky : qav l (k : Int) = y.k := by unfold qav; rw [xal, xax, hy]; rfl
   obtain ⟨k0, k8⟩ := H8.out k y hy
   have hln := lines_iffN k0 k8
   rw [hky, hln] at hst
   rw [HI.out] at hst
   obtain ⟨z, hz⟩ : ∃ z, y.k = z := ⟨_, rfl⟩
   rw [hz] at hc2 hst k0 k8
   have hcz : (0 : Int) < c := by omega
   have HST := xaa hst
   clear hst HI hv2 hv4 hLi hLi2 HPR hx hy hp hky hln hz
   by_cases hz0 : z = 0
   ·subst hz0
    have := HST.out
    simp at this
    subst this
    clear HST
    go_wp2_with fail
    go_ret
    exact ⟨rfl, rfl⟩
   ·by_cases hz4 : 4 <= z
    ·have := HST.out
     simp [hz4] at this
     subst this
     clear HST
     go_wp2_with fail
     go_ret
     exact ⟨rfl, rfl⟩
    ·have HI' : Hid (ctx l k = D) := by
      have := HST.out
      simp [hz4, hz0] at this
      exact xaa this.symm
     clear HST
     go_wp2_with fail
     go_roundg (k + 1)
     case measure => omega
     case rel => exact ⟨rfl, k, rfl, by omega, rfl, HI'⟩
  ·obtain rfl : c = 0 := by omega
   have hD0 : D = 0 := by
    rw [<- HI.out]
    unfold ctx
    rw [qh2 (by rw [HT.out.root]; omega)]
    rfl
   subst hD0
   clear HI HPR hv2 hLi hx hc
   go_wp2_with fail
   go_ret
   exact ⟨rfl, rfl⟩
theorem inl_lns {k : Int} (h : inl k = true) : tb tLines k = true := by
 unfold inl at h
 simp only [Bool.or_eq_true, decide_eq_true_eq] at h
 rcases h with (((h | h) | h) | h) | h <;> subst h <;> rfl
structure HandsN (w : World) (l : List Nod) (v : Value) : Prop where
 ctx : ∀ W (b : Nat), Below w.heap.size w W -> chkT l = 0 -> l.length <= 40 -> b < l.length -> Calls Tryz.prog 11 #[v, .int .i64 (b : Int)] W fun e w' => e = .returned (.int .i64 (Ar.ctx l b : Nat)) /\ W = w'
 above : ∀ W (a b : Nat) (B : Bool), Below w.heap.size w W -> chkT l = 0 -> l.length <= 40 -> b < l.length -> (B = true ↔ Abv (psOf l) a b) -> Calls Tryz.prog 12 #[v, .int .i64 (a : Int), .int .i64 (b : Int)] W fun e w' => e = .returned (.bool B) /\ W = w'
theorem handsN_any (l : List Nod) (v : Value) (w : World) (hN : Ns w v l) (hW : WfL l) : HandsN w l v where
 ctx W b hb hg h40 hlt := nctx_any l v b W (hN.below hb) ((qci l).1 hg).tre (by omega) hlt (good8 ((qci l).1 hg) hW)
 above W a b B hb hg h40 hlt hB := cabove_any l v a b B W (hN.below hb) ((qci l).1 hg).tre (by omega) hlt hB
theorem own_below2 {w w' : World} {base size : Nat} {e : TypeId} {v : Value} {n : Nat} {xs : List Value} (h : w.ownsRow base e size v n xs) (b : Below w.heap.size w w') : w'.ownsRow base e size v n xs := qcd h (S := fun _ => False) (xap b) fun _ _ h => h
def OwS (W : World) (base : Nat) (v : Value) (s : List Nat) : Prop := W.ownsRow base 3 1 v s.length (s.map fun j : Nat => Value.int .i64 (j : Int))
section
variable {W : World} {base n c : Nat} {A : Option Addr} {v : Value} {s : List Nat}
theorem OwS.form (h : OwS W base v s) : ∃ A c, v = .slice A s.length c := by
 rcases h.2 with ⟨rfl, h0⟩ | ⟨g, cap, cur, rfl, _⟩
 ·exact ⟨none, 0, by rw [h0]⟩
 ·exact ⟨_, _, rfl⟩
theorem OwS.at_ {j a : Nat} (h : OwS W base (.slice A n c) s) (hj : s[j]? = some a) : ∃ g, A = some ⟨g, 0, none⟩ /\ n <= c /\ W.cell? ⟨g, j, none⟩ = some (.int .i64 (a : Int)) := by
 have hl := (xah hj).1
 have h0 := h
 rcases h.2 with ⟨_, h1⟩ | ⟨g, cap, cur, hv, _, _, hc, _⟩
 ·omega
 ·injection hv with e1 e2 e3
  subst e1 e2 e3
  refine ⟨g, rfl, hc, ?_⟩
  have := World.ownsRow.cells h0 (g := g) rfl j (.int .i64 (a : Int)) (by rw [xan, hj]; rfl)
  rwa [Addr.add_lit, Nat.zero_add] at this
theorem OwS.pop {a : Nat} (h : OwS W base (.slice A n c) (s ++ [a])) : OwS W base (.slice A s.length c) s := by
 obtain ⟨h1, h2⟩ := h
 rw [List.length_append, List.map_append] at h2
 refine ⟨by simp, ?_⟩
 rcases h2 with ⟨_, h2⟩ | ⟨g, cap, cur, hv, q1, q2, q3, q4, q5, q6⟩
 ·simp at h2
 ·injection hv with e1 e2 e3
  subst e1 e3
  simp only [List.length_cons, List.length_nil, Nat.mul_one, Nat.zero_add] at q3 q6
  refine .inr ⟨g, c, cur, rfl, q1, q2, by omega, q4, q5, ?_⟩
  have := congrArg (List.take s.length) q6
  rw [List.take_take, Nat.min_eq_left (by omega), List.take_append_of_le_length (by simp)] at this
  rw [Nat.mul_one]
  exact this.trans (List.take_of_length_le (by simp))
theorem qxu (m : List Cl) : cnt m <= m.length := List.length_filter_le ..
theorem eds_le (m : List Cl) : eds m <= m.length := List.length_filter_le ..
theorem stk_le (m : List Cl) : (stk m).length <= m.length := by
 induction m using qd3 with
 | nil => exact xat
 | snoc m u ih =>
   rw [stk_snoc, List.length_append, List.length_singleton]
   split
   ·rw [List.length_append, List.length_singleton]; omega
   ·split
    ·rw [List.length_dropLast]; omega
    ·omega
theorem range_box (P : Nat -> Bool) (j : Nat) : ((List.range (j + 1)).filter P).length = ((List.range j).filter P).length + if P j then 1 else 0 := by
 rw [List.range_succ, List.filter_append, List.length_append, List.filter_cons, List.filter_nil]
 cases P j <;> rfl
end
end
section
open Fo (Fnt W64)
theorem uGn : Tryz.prog.underlying 27 = some (.struct (Tryz.prog.fieldsOf 27)) := by kernel_rfl
theorem iGn (z : Int) (A1 A2 A3 : Option Addr) (n1 n2 n3 c1 c2 c3 : Nat) : (Tryz.prog.info? 27).map (·.size) = some (#[Value.int .i64 z, .slice A1 n1 c1, .slice A2 n2 c2, .slice A3 n3 c3] : Array Value).size := by kernel_rfl
theorem ldGn {ops : Array Oper} {Q : Exit -> Act -> World -> Prop} {a : Act} {w : World} {rest : List Oper} {o : Oper} (hg : o.guard = none) (x : Operand) (ho : o.op = .load 27 x) (p : Addr) (hx : a.eval x = .pointer (some p)) (z : Int) (A1 A2 A3 : Option Addr) (n1 n2 n3 c1 c2 c3 : Nat) (hL : qar w p #[.int .i64 z, .slice A1 n1 c1, .slice A2 n2 c2, .slice A3 n3 c3])
 (h : wpList Tryz.prog ops Q rest (a.put o.dst (.agg #[.int .i64 z, .slice A1 n1 c1, .slice A2 n2 c2, .slice A3 n3 c3])) w) : wpList Tryz.prog ops Q (o :: rest) a w :=
 qan hg 27 x ho p hx _ _ hL uGn rfl (iGn z A1 A2 A3 n1 n2 n3 c1 c2 c3) h
structure Hands (w : World) (l : List Nod) (v : Value) (z : Int) (A1 A2 A3 : Option Addr) (q m n3 c1 c2 c3 : Nat) (ss : List Sty) (fs : List Fnt) (at_ : List Int) : Prop where
 made : ∀ W, Below w.heap.size w W -> Calls Tryz.prog 7 #[v] W (qfp l W)
 great : ∀ W, Below w.heap.size w W -> Calls Tryz.prog 8 #[v, .agg #[.int .i64 z, .slice A1 q c1, .slice A2 m c2, .slice A3 n3 c3]] W (qgv l ss fs n3 W)
 head : ∀ W, Below w.heap.size w W -> Calls Tryz.prog 9 #[] W fun e w' => e = .returned (.bool true) /\ Below W.heap.size W w'
 cells : ∀ W p, Below w.heap.size w W -> Tr W p l -> chkT l = 0 -> Small l ss fs n3 -> Calls Tryz.prog 10 #[p, .int .i64 z, .slice A1 q c1, .slice A2 m c2, .slice A3 n3 c3] W (qkl l z ss fs at_ W)
theorem qj0 (l : List Nod) (v : Value) (z : Int) (A1 A2 A3 : Option Addr) (c1 c2 c3 : Nat) (ss : List Sty) (fs : List Fnt) (at_ : List Int) (w : World) (hN : Ns w v l) (hW : WfL l) (hn : l.length <= 9223372036854775807) (hM : Ms w (.slice A1 ss.length c1) (.slice A2 fs.length c2) (.slice A3 at_.length c3) ss fs at_) (h64 : ∀ s ∈ ss, W64 s.a6)
 (hs : ss.length <= 9223372036854775807) (hf : fs.length <= 9223372036854775807) (ha : at_.length <= 9223372036854775807) (hT : Tbs w) : Hands w l v z A1 A2 A3 ss.length fs.length at_.length c1 c2 c3 ss fs at_ where
 made W b := qse l v W (hN.below b) hW (hT.below b).ar
 great W b := qov l v z A1 A2 A3 at_.length c1 c2 c3 ss fs W (hN.below b) hn (hM.f.below b) hf hs ha
 head W b := qsl W (hT.below b)
 cells W p b h hg hS := qoy p l z A1 A2 A3 c1 c2 c3 ss fs at_ W h hg hS (hT.below b) (hM.below b) h64
theorem qar.cl {w : World} {g o : Nat} {x : Cl} (h : qar w ⟨g, o, none⟩ (clA x)) : w.cell? ⟨g, o, none⟩ = some (.int .u8 x.k) /\ w.cell? ⟨g, o + 1, none⟩ = some (.int .i64 x.node) /\ w.cell? ⟨g, o + 2, none⟩ = some (.int .i64 x.ch) /\ w.cell? ⟨g, o + 3, none⟩ = some (.int .i64 x.adv) /\ w.cell? ⟨g, o + 4, none⟩ = some (.bool x.sf) /\ w.cell? ⟨g, o + 5, none⟩ = some (.bool x.em) :=
 ⟨h.at_ 0 rfl, h.at_ 1 rfl, h.at_ 2 rfl, h.at_ 3 rfl, h.at_ 4 rfl, h.at_ 5 rfl⟩
end
section
open Fo (Fnt W64)
theorem elhI2 : Elh Tryz.prog 37 3 1 8 := ⟨Tryz.underlying37, ⟨.int .i64 0, by kernel_rfl, rfl⟩, by decide, by decide⟩
theorem bsI2 (z : Int) (w : World) : (Instr.buildSlice 37 1 #[(0, .int .i64 z)]).run Tryz.prog w = .ok (.slice (some ⟨w.heap.size, 0, none⟩) 1 1) (w.alloc (.cells #[.int .i64 z] 3)) := by kernel_rfl
theorem selOn {ops : Array Oper} {Q : Exit -> Act -> World -> Prop} {a : Act} {w : World} {rest : List Oper} (o : Oper) (h : wpList Tryz.prog ops Q (o :: rest) a w) : wpList Tryz.prog ops Q (o :: rest) a w := h
theorem rgN {P : Program} {ops : Array Oper} {Q : Exit -> Act -> World -> Prop} {id : Nat} {a : Act} {w : World} (hm : P.follows .mixedOrders = true) (h : ∀ R : Act -> Prop, Hid (∀ a', (∀ w', Below w.heap.size w w' -> Q .normal a' w') -> R a') -> AllS P .any ops (fun W => Below w.heap.size w W) R ops.size (lst ops.size 0) a) : (Code.region id ops true).wp P Q a w :=
 qax hm _ (below_drewN (xas) 1) fun R hR => AllS.start (h R hR)
theorem lawNest_any (l : List Nod) (z : Int) (A1 A2 A3 : Option Addr) (q m n3 c1 c2 c3 : Nat) (ss : List Sty) (fs : List Fnt) (at_ : List Int) (nl c0 : Nat) (A0 : Option Addr) (w : World) (hN : Ns w (.slice A0 nl c0) l) (hnl : l.length = nl) (hWf : WfL l) (hX : HandsN w l (.slice A0 nl c0)) (hH : Hands w l (.slice A0 nl c0) z A1 A2 A3 q m n3 c1 c2 c3 ss fs at_) :
 Calls Tryz.prog 3 #[.slice A0 nl c0, .agg #[.int .i64 z, .slice A1 q c1, .slice A2 m c2, .slice A3 n3 c3]] w fun e w' => e = .returned (.bool true) /\ Below w.heap.size w w' := by
 have HH := xaa hH
 have HX := xaa hX
 have HNS := xaa hN
 have HNL := xaa hnl
 have HWF := xaa hWf
 clear hH hN hnl hWf hX
 go_enter Tryz.func3, Tryz.ntmps3
 go_wp2_with (refine q0u rfl (.tmp 1) rfl z A1 A2 A3 q m n3 c1 c2 c3 rfl ?_; intro w1 b1 B1; refine Mk.out ?_)
 constructor
 obtain ⟨g, hg⟩ : ∃ g, w.heap.size = g := ⟨_, rfl⟩
 rw [hg] at B1 |-
 have HB1 := xaa b1
 have HBB := xaa B1
 have HG := xaa hg
 clear b1 B1 hg
 go_wp2_with fail
 refine (HH.out.made _ HB1.out).mono ?_
 rintro e w2 ⟨hmade, b2⟩
 have HB2 := xaa (xaq HB1.out b2)
 have B2 := HBB.out.kb b2
 have HBB2 := xaa B2
 clear b2 B2
 have tl : ∀ W, Below w.heap.size w W -> Calls Tryz.prog 9 #[] W fun e w' => e = .returned (.bool true) /\ Below w.heap.size w w' := fun W b => (HH.out.head W b).mono fun e w' ⟨q1, q2⟩ => ⟨q1, xaq b q2⟩
 have TL := xaa tl
 clear tl
 obtain ⟨pt, hpt⟩ : ∃ pt, e = .returned (.pointer pt) := by
  rcases hmade with ⟨_, p, rfl, _⟩ | ⟨_, rfl⟩ <;> exact ⟨_, rfl⟩
 subst hpt
 have HM := xaa hmade
 clear hmade
 go_wp2_with (refine ldGn rfl (.tmp 3) rfl _ rfl z A1 A2 A3 q m n3 c1 c2 c3 HBB2.out.lies ?_)
 refine (HH.out.great _ HB2.out).mono ?_
 rintro e w3 ⟨b, rfl, hsm, b3⟩
 have HB3 := xaa (xaq HB2.out b3)
 have B3 := HBB2.out.kb b3
 have HSM := xaa hsm
 cases b with
 | true =>
   clear b3 hsm
   go_wp2_with fail
   refine (TL.out _ HB3.out).mono ?_
   rintro e w4 ⟨rfl, b4⟩
   have HB4 := xaa b4
   clear b4
   go_wp2_with fail
   go_ret
   exact ⟨rfl, HB4.out⟩
 | false =>
   cases pt with
   | none =>
     clear b3 hsm
     go_wp2_with fail
     refine (TL.out _ HB3.out).mono ?_
     rintro e w4 ⟨rfl, b4⟩
     have HB4 := xaa b4
     clear b4
     go_wp2_with fail
     go_ret
     exact ⟨rfl, HB4.out⟩
   | some p =>
     have HTR : Hid (chkT l = 0 /\ Tr w3 (.pointer (some p)) l) := xaa (by
      rcases HM.out with ⟨h0, p', he, h2⟩ | ⟨_, he⟩
      ·injection he with he
       injection he with he
       injection he with he
       subst he
       exact ⟨h0, h2.below b3⟩
      ·injection he with he
       injection he with he
       cases he)
     clear b3 hsm HM
     have h0 := B3.cell 0
     have h1 := B3.cell 1
     have h2 := B3.cell 2
     have h3 := B3.cell 3
     simp only [xab, xae, xad] at h0 h1 h2 h3
     go_wp2_with fail
     refine (HH.out.cells _ _ HB3.out HTR.out.2 HTR.out.1 (HSM.out trivial)).mono ?_
     clear h0 h1 h2 h3
     rintro e w4 ⟨⟨k, hzk, hO, u1, u2, rfl, hC, hU⟩ | ⟨_, f, hf, rfl⟩, b4⟩
     ·subst hzk
      have HB4 := xaa (xaq HB3.out b4)
      have hG := (qci l).1 HTR.out.1
      obtain ⟨N1, N2, N3, N4⟩ := nest_full (ss := ss) (fs := fs) (at_ := at_) hG (good8 hG HWF.out) hO.lt (by unfold qav; rw [xax]; exact inl_lns hO.inl)
      obtain ⟨hm1, hm2⟩ := qtr HTR.out.1 (HSM.out trivial)
      obtain ⟨hf1, hf2⟩ := qwf (ss := ss) (fs := fs) (at_ := at_) hG.tre hO.lt hm1 hm2
      have h40 : nl <= 40 := by rw [<- HNL.out]; exact hm1
      have CX : Hid (∀ W (b : Nat), Below w.heap.size w W -> b < nl -> Calls Tryz.prog 11 #[.slice A0 nl c0, .int .i64 (b : Int)] W fun e w' => e = .returned (.int .i64 (Ar.ctx l b : Nat)) /\ W = w') := xaa fun W b hb hlt => HX.out.ctx W b hb HTR.out.1 hm1 (by rw [HNL.out]; exact hlt)
      have AB : Hid (∀ W (a b : Nat), Below w.heap.size w W -> b < nl -> Abv (psOf l) a b -> Calls Tryz.prog 12 #[.slice A0 nl c0, .int .i64 (a : Int), .int .i64 (b : Int)] W fun e w' => e = .returned (.bool true) /\ W = w') := xaa fun W a b hb hlt hab => HX.out.above W a b true hb HTR.out.1 hm1 (by rw [HNL.out]; exact hlt) ⟨fun _ => hab, fun _ => rfl⟩
      have HBX := xaa (B3.kb b4)
      have HN4 := xaa (HNS.out.below HB4.out)
      have HU := xaa hU
      have HC := xaa hC
      obtain ⟨U, cu, rfl⟩ := hU.form
      obtain ⟨C, cc, rfl⟩ := RwC.form hC
      have HGV : Hid (∀ (m : Nat) (x : Nod), l[m]? = some x -> (givL ss fs at_ l k).st m = x.st /\ (givL ss fs at_ l k).en m = x.en /\ bxL l m = decide (x.k = 2)) := xaa fun m x hx => by
       have e : l.getD m .zero = x := getD_at hx
       exact ⟨by show (l.getD m .zero).st = _; rw [e], by show (l.getD m .zero).en = _; rw [e], by unfold bxL; rw [e]⟩
      have HGC : Hid ((givL ss fs at_ l k).cs = csL ss l k) := xaa rfl
      obtain ⟨gv, hgv⟩ : ∃ gv, givL ss fs at_ l k = gv := ⟨_, rfl⟩
      obtain ⟨cl, hcl⟩ : ∃ cl, cellL ss fs at_ l k = cl := ⟨_, rfl⟩
      obtain ⟨cs, hcs⟩ : ∃ cs, csL ss l k = cs := ⟨_, rfl⟩
      rw [hcl, hgv] at N1
      rw [hcl] at HU N2 N3 N4 hf1 |-
      rw [hcs] at HC HGC N3 hf2 |-
      rw [hgv] at HGV HGC
      obtain ⟨n, hn⟩ : ∃ n, cl.length = n := ⟨_, rfl⟩
      obtain ⟨r, hr⟩ : ∃ n, cs.length = n := ⟨_, rfl⟩
      have HN := xaa hn
      have HRR := xaa hr
      rw [hn] at HU hf1 |-
      rw [hr] at HC hf2 N3 |-
      rw [HNL.out] at N4
      have N1 := xaa N1
      have N2 := xaa N2
      have N3 := xaa N3
      have N4 := xaa N4
      clear hU hC B3 hcl hcs hgv hn hr b4 hO hG hm1 hm2 HSM
      go_wp2_with fail
      go_loopg [9, 10, 11, 12, 13, 14] n (fun kx s9 s10 s11 s12 s13 s14 wr => ∃ i ca ce : Nat, s10 = .int .i64 ca /\ s11 = .int .i64 ce /\ s12 = .int .i64 i /\ i <= n /\ kx = n - i /\ Hid (ca = cnt (cl.take i)) /\ Hid (ce = eds (cl.take i)) /\ Hid (Below w4.heap.size w4 wr) /\ Hid (OwS wr w4.heap.size s9 (stk (cl.take i))))
      case atStart => exact ⟨0, 0, 0, rfl, rfl, rfl, by omega, rfl, xaa rfl, xaa rfl, xaa (xas), xaa (qzh _ _ _ _)⟩
      case round =>
       obtain ⟨i, ca, ce, rfl, rfl, rfl, hi, rfl, HCA, HCE, JB, JO⟩ := hrel
       obtain ⟨sp, hsp⟩ : ∃ sp, stk (cl.take i) = sp := ⟨_, rfl⟩
       rw [hsp] at JO
       obtain ⟨A9, c9, rfl⟩ := JO.out.form
       obtain ⟨d, hd⟩ : ∃ d, sp.length = d := ⟨_, rfl⟩
       have HD := xaa hd
       have HSP := xaa hsp
       have hln : (cl.take i).length <= 12160 := by rw [List.length_take]; omega
       have hca : ca <= 12160 := by rw [HCA.out]; exact xau (qxu _) hln
       have hce : ce <= 12160 := by rw [HCE.out]; exact xau (eds_le _) hln
       have hd2 : d <= 12160 := by rw [<- hd, <- hsp]; exact xau (stk_le _) hln
       rw [hd] at JO |-
       clear hsp hd hln
       by_cases hlt : i < n
       ·have hiz : (i : Int) < n := by omega
        obtain ⟨u, hu⟩ := qey (l := cl) (i := i) (by rw [HN.out]; exact hlt)
        obtain ⟨t1, t2, t3, t4, t5, t6, t7⟩ := N1.out i u hu
        have HTK : Hid (cl.take (i + 1) = cl.take i ++ [u]) := xaa (by rw [List.take_add_one, hu]; rfl)
        obtain ⟨a1, cap1, o1, hv, _, ha1, hL1⟩ := HU.out.get JB.out hu
        rw [HN.out] at hv
        injection hv with hv1 _ hv3
        subst hv1 hv3
        obtain ⟨f0, f1, f2, f3, _, _⟩ := qar.cl hL1
        rw [HSP.out] at t4 t6
        rw [<- HCA.out] at t7
        obtain ⟨uk, un, uc, ua, us, ue⟩ := u
        dsimp only at f0 f1 f2 f3 t1 t2 t3 t4 t5 t6 t7
        obtain ⟨mm, rfl⟩ := Int.eq_ofNat_of_zero_le t1
        rw [xax] at t2 t3 t4 t5 t6
        obtain ⟨x, hx⟩ := qex t2
        obtain ⟨g1, g2, g3⟩ := HGV.out mm x hx
        rw [g1, g3] at t5
        rw [g2] at t6
        obtain ⟨aN, capN, oN, hvN, _, haN, hLN⟩ := HN4.out.get JB.out hx
        rw [HNL.out] at hvN t2
        injection hvN with e1 _ e2
        subst e1 e2
        obtain ⟨xk, hxk⟩ : ∃ y, x.k = y := ⟨_, rfl⟩
        obtain ⟨xs, hxs⟩ : ∃ y, x.st = y := ⟨_, rfl⟩
        obtain ⟨xe, hxe⟩ : ∃ y, x.en = y := ⟨_, rfl⟩
        rw [hxk, hxs] at t5
        rw [hxe] at t6
        have KC : Hid (∀ W, Below wr.heap.size wr W -> W.cell? ⟨aN.block, oN, none⟩ = some (.int .u8 xk) /\ W.cell? ⟨aN.block, oN + 15, none⟩ = some (.int .i64 xs) /\ W.cell? ⟨aN.block, oN + 16, none⟩ = some (.int .i64 xe) /\ W.cell? ⟨g, 0, none⟩ = some (.int .i64 (k : Int)) /\ W.cell? ⟨a1.block, o1, none⟩ = some (.int .u8 uk) /\ W.cell? ⟨a1.block, o1 + 2, none⟩ = some (.int .i64 uc) /\ W.cell? ⟨a1.block, o1 + 3, none⟩ = some (.int .i64 ua)) := xaa fun W hW => by
         have L1 := hL1.below hW
         have LN := hLN.below hW
         refine ⟨?_, ?_, ?_, (HBX.out.kb ((xaq JB.out hW))).cell 0, L1.at_ 0 rfl, L1.at_ 2 rfl, L1.at_ 3 rfl⟩
         ·rw [<- hxk]; exact LN.at_ 0 rfl
         ·rw [<- hxs]; exact LN.at_ 15 rfl
         ·rw [<- hxe]; exact LN.at_ 16 rfl
        have T4 := xaa t4
        have T5 := xaa t5
        have T6 := xaa t6
        have T7 := xaa t7
        have hm0 : decide ((mm : Int) < 0) = false := decide_eq_false (by omega)
        have hm1 : decide ((nl : Int) <= (mm : Int)) = false := decide_eq_false (by omega)
        have hmz : (0 : Int) <= mm := by omega
        have hmn : (mm : Int) < nl := by omega
        have hkk : (!((k : Int) == (k : Int))) = false := by simp
        have CC : Hid (∀ W, Below wr.heap.size wr W -> Calls Tryz.prog 11 #[.slice (some aN) nl c0, .int .i64 (mm : Int)] W fun e w' => e = .returned (.int .i64 (k : Nat)) /\ Below wr.heap.size wr w') := xaa fun W hW => (CX.out W mm (xaq HB4.out (xaq JB.out hW)) t2).mono fun e w' h => ⟨by rw [h.1, t3], by rw [<- h.2]; exact hW⟩
        clear hu hL1 hLN hx hxk hxs hxe t1 t3 t4 t5 t6 t7 g1 g2 g3 f0 f2 f3
        go_wp2_with fail
        refine rgN (by kernel_rfl) fun R hR => ?_
        refine AllS.t ?_
        refine AllS.r (.bool false) (fun W hSw => ?_) ?_
        ·have hq := hm0; go_simp
        iterate 4 refine AllS.t ?_
        refine AllS.r (.bool false) (fun W hSw => ?_) ?_
        ·have hq := hm1; go_simp
        iterate 4 refine AllS.t ?_
        refine AllS.c (.int .i64 (k : Nat)) 11 _ (fun W hSw => CC.out W hSw) ?_
        refine AllS.t ?_
        refine AllS.f KC.out ?_
        refine AllS.r (.bool false) (fun W hSw => ?_) ?_
        ·have hq := hkk; go_simp
        refine AllS.t ?_
        refine AllS.done (by kernel_rfl) (hR.out _ fun w5 hb => ?_) _
        clear hR R
        have HR5 := xaa hb
        have HB5 := xaa (xaq JB.out hb)
        have JO5 : Hid (OwS w5 w4.heap.size (.slice A9 d c9) sp) := xaa (own_below2 JO.out hb)
        have f0 := (KC.out w5 hb).2.2.2.2.1
        clear hb JO f1
        go_wp2_with fail
        go_loopg [14] d (fun kx s14 wr2 => w5 = wr2 /\ ∃ j : Nat, s14 = .int .i64 j /\ j <= d /\ kx = d - j)
        case atStart => exact ⟨rfl, 0, rfl, by omega, rfl⟩
        case round =>
         obtain ⟨rfl, j, rfl, hj, rfl⟩ := hrel
         by_cases hjd : j < d
         ·have hjz : (j : Int) < d := by omega
          obtain ⟨a, ha⟩ : ∃ a, sp[j]? = some a := ⟨_, xac (by rw [HD.out]; exact hjd)⟩
          obtain ⟨g9, rfl, hdc, hcell⟩ := JO5.out.at_ ha
          have hab := xaa (T4.out a (xav ha))
          clear ha f0
          go_wp2_with fail
          refine (AB.out _ a mm (xaq HB4.out HB5.out) t2 hab.out).mono ?_
          rintro e w6 ⟨rfl, rfl⟩
          go_wp2_with fail
          go_roundg (d - (j + 1))
          case measure => omega
          case rel => exact ⟨rfl, j + 1, by go_num, by omega, rfl⟩
         obtain rfl : j = d := by omega
         by_cases h7 : uk = 7
         ·subst h7
          obtain ⟨q1, rfl, rfl⟩ := T5.out rfl
          obtain rfl : xk = 2 := of_decide_eq_true q1
          have h22 : (!((2 : Int) == 2)) = false := rfl
          have h11 : (!((-1 : Int) == -1)) = false := rfl
          have hss : (!(ua == ua)) = false := by simp
          clear T5 T6 T7 T4 q1 hjd
          go_wp2_with fail
          refine rgN (by kernel_rfl) fun R hR => ?_
          have KC := xaa (fun W (h : Below w5.heap.size w5 W) => KC.out W (xaq HR5.out h))
          iterate 4 refine AllS.t ?_
          refine AllS.f KC.out ?_
          refine AllS.r (.bool false) (fun W hSw => ?_) ?_
          ·have hq := h22; go_simp
          iterate 5 refine AllS.t ?_
          refine AllS.f KC.out ?_
          refine AllS.r (.bool false) (fun W hSw => ?_) ?_
          ·have hq := h11; go_simp
          iterate 6 refine AllS.t ?_
          refine AllS.f KC.out ?_
          iterate 4 refine AllS.t ?_
          refine AllS.f KC.out ?_
          refine AllS.r (.bool false) (fun W hSw => ?_) ?_
          ·have hq := hss; go_simp
          refine AllS.t ?_
          refine AllS.done (by kernel_rfl) (hR.out _ fun w7 hb => ?_) _
          clear hR R
          have HB7 := xaa (xaq HB5.out hb)
          have JO7 : Hid (OwS w7 w4.heap.size (.slice A9 j c9) sp) := xaa (own_below2 JO5.out hb)
          clear hb f0
          go_wp2_with (with_reducible refine selOn ⟨some 153, _, _, _, _, _⟩ ?_; refine Mk.out ?_)
          constructor
          go_wp2_with (refine apH elhI2 (o1 := ⟨some 153, _, _, _, _, _⟩) rfl (.tmp 152) rfl 153 rfl rfl (.tmp 151) rfl (.int .i64 (mm : Int)) #[.int .i64 (mm : Int)] rfl rfl (by simp [Value.oneCell']) (bsI2 _) (.slice A9 j c9) (fun _ => rfl) (fun _ => rfl) w4.heap.size _ _ JO7.out (by rw [HD.out]; omega) HB7.out.size ?_; intro u20 v2 w20 O2 b2 _ _; refine Mk.out ?_)
          constructor
          have JO2 : Hid (OwS w20 w4.heap.size v2 (stk (cl.take (i + 1)))) := xaa (by
           rw [HTK.out, stk_snoc, if_pos rfl, HSP.out, xax]
           unfold OwS
           rw [List.length_append, List.map_append]
           exact O2)
          have KB2 := xaa (HB7.out.trans b2)
          have C2 : Hid (ca = cnt (cl.take (i + 1))) := xaa (by rw [HTK.out, cnt_snoc, if_pos (.inl rfl)]; exact HCA.out)
          have E2 : Hid (ce + 1 = eds (cl.take (i + 1))) := xaa (by rw [HTK.out, eds_snoc, if_pos rfl, <- HCE.out])
          clear O2 b2 JO7
          go_wp2_with fail
          go_roundg (n - (i + 1))
          case measure => omega
          case rel => exact ⟨i + 1, ca, ce + 1, rfl, by go_num, by go_num, by omega, rfl, C2, E2, KB2, JO2⟩
         have e7 : (uk == 7) = false := by simpa using h7
         by_cases h8 : uk = 8
         ·subst h8
          obtain ⟨q1, rfl, rfl⟩ := T6.out rfl
          obtain ⟨sq, hsq⟩ := List.getLast?_eq_some_iff.1 q1
          obtain ⟨d1, hd1⟩ : ∃ d1, sq.length = d1 := ⟨_, rfl⟩
          have hjd1 : j = d1 + 1 := by rw [<- HD.out, hsq, List.length_append, hd1]; rfl
          obtain ⟨g9, rfl, hdc, hcell⟩ := JO5.out.at_ (j := d1) (a := mm) (by rw [hsq, List.getElem?_append_right (by omega), hd1, Nat.sub_self]; rfl)
          have KO : Hid (∀ W, Below w5.heap.size w5 W -> W.cell? ⟨g9, d1, none⟩ = some (.int .i64 (mm : Int))) := xaa fun W hW => (hW.cell (World.block_lt_of_cell? _ _ hcell)).trans hcell
          have hw1 : IntKind.i64.wrap ((j : Int) - 1) = (d1 : Int) := by rw [IntWalk.i64_in _ (by omega)]; omega
          have hj0 : ((j : Int) == 0) = false := by simpa using (by omega : ¬ (j : Int) = 0)
          have h1z : (0 : Int) <= d1 := by omega
          have h1j : (d1 : Int) < j := by omega
          have h1c : (d1 : Int) <= c9 := by omega
          have hmm : (!((mm : Int) == (mm : Int))) = false := by simp
          have h11 : (!((-1 : Int) == -1)) = false := rfl
          have hss : (!(ua == ua)) = false := by simp
          have HSQ := xaa hsq
          have HD1 := xaa hd1
          clear T5 T6 T7 T4 q1 hjd hsq hd1 hcell hjd1
          go_wp2_with fail
          refine rgN (by kernel_rfl) fun R hR => ?_
          have KC := xaa (fun W (h : Below w5.heap.size w5 W) => KC.out W (xaq HR5.out h))
          iterate 2 refine AllS.t ?_
          refine AllS.r (.bool false) (fun W hSw => ?_) ?_
          ·have hq := hj0; go_simp
          iterate 4 refine AllS.t ?_
          refine AllS.r (.int .i64 (d1 : Int)) (fun W hSw => ?_) ?_
          ·have hq := hw1; go_simp
          refine AllS.t ?_
          refine AllS.f KO.out ?_
          refine AllS.t ?_
          refine AllS.r (.bool false) (fun W hSw => ?_) ?_
          ·have hq := hmm; go_simp
          iterate 6 refine AllS.t ?_
          refine AllS.f KC.out ?_
          refine AllS.r (.bool false) (fun W hSw => ?_) ?_
          ·have hq := h11; go_simp
          iterate 6 refine AllS.t ?_
          refine AllS.f KC.out ?_
          iterate 4 refine AllS.t ?_
          refine AllS.f KC.out ?_
          refine AllS.r (.bool false) (fun W hSw => ?_) ?_
          ·have hq := hss; go_simp
          refine AllS.t ?_
          refine AllS.done (by kernel_rfl) (hR.out _ fun w7 hb => ?_) _
          clear hR R
          have HB7 := xaa (xaq HB5.out hb)
          have JO2 : Hid (OwS w7 w4.heap.size (.slice (some ⟨g9, 0, none⟩) d1 c9) (stk (cl.take (i + 1)))) := xaa (by
           have h : OwS w7 w4.heap.size (.slice (some ⟨g9, 0, none⟩) j c9) sp := own_below2 JO5.out hb
           rw [HSQ.out] at h
           have h2 := h.pop
           rw [HD1.out] at h2
           rw [HTK.out, stk_snoc, if_neg (show ¬ (8 : Int) = 7 by decide), if_pos rfl, HSP.out, HSQ.out, List.dropLast_concat]
           exact h2)
          have C2 : Hid (ca = cnt (cl.take (i + 1))) := xaa (by rw [HTK.out, cnt_snoc, if_pos (.inr rfl)]; exact HCA.out)
          have E2 : Hid (ce = eds (cl.take (i + 1))) := xaa (by rw [HTK.out, eds_snoc, if_neg (show ¬ (8 : Int) = 7 by decide)]; exact HCE.out)
          clear hb f0
          go_wp2_with fail
          go_roundg (n - (i + 1))
          case measure => omega
          case rel => exact ⟨i + 1, ca, ce, rfl, rfl, by go_num, by omega, rfl, C2, E2, HB7, JO2⟩
         have e8 : (uk == 8) = false := by simpa using h8
         obtain ⟨rfl, c, hc, hcn⟩ := T7.out h7 h8
         rw [HGC.out] at hc
         have hcr : ca < r := by rw [<- HRR.out]; exact (xah hc).1
         have hcz : (ca : Int) < r := by omega
         obtain ⟨aC, capC, oC, hvC, _, haC, hLC⟩ := HC.out.get HB5.out hc
         rw [HRR.out] at hvC
         injection hvC with g1 _ g2
         subst g1 g2
         have d1 : w5.cell? ⟨aC.block, oC + 1, none⟩ = some (.int .i64 c.node) := hLC.at_ 1 rfl
         rw [hcn] at d1
         have f2 := (KC.out w5 HR5.out).2.2.2.2.2.1
         have C2 : Hid (ca + 1 = cnt (cl.take (i + 1))) := xaa (by rw [HTK.out, cnt_snoc, if_neg (by simp [h7, h8]), <- HCA.out])
         have E2 : Hid (ce = eds (cl.take (i + 1))) := xaa (by rw [HTK.out, eds_snoc, if_neg h7]; exact HCE.out)
         have JO2 : Hid (OwS w5 w4.heap.size (.slice A9 j c9) (stk (cl.take (i + 1)))) := xaa (by rw [HTK.out, stk_snoc, if_neg h7, if_neg h8, HSP.out]; exact JO5.out)
         clear T4 T5 T6 T7 hc hcn hLC KC CC hjd
         go_wp2_with fail
         go_roundg (n - (i + 1))
         case measure => omega
         case rel => exact ⟨i + 1, ca + 1, ce, by go_num, rfl, by go_num, by omega, rfl, C2, E2, HB5, JO2⟩
       obtain rfl : i = n := by omega
       have hall : cl.take i = cl := List.take_of_length_le (by rw [HN.out]; exact xat)
       obtain rfl : ca = r := by rw [HCA.out, hall]; exact N3.out
       obtain rfl : d = 0 := by rw [<- HD.out, <- HSP.out, hall, N2.out]; rfl
       have HE : Hid (ce = ((List.range nl).filter (boxB l k)).length) := xaa (by rw [HCE.out, hall]; exact N4.out)
       clear hall HCA HCE HSP HD JO
       go_wp2_with fail
       go_loopg [15, 16] nl (fun kx s15 s16 wr => ∃ j bo : Nat, s15 = .int .i64 bo /\ s16 = .int .i64 j /\ j <= nl /\ kx = nl - j /\ Hid (bo = ((List.range j).filter (boxB l k)).length) /\ Hid (Below w4.heap.size w4 wr))
       case atStart => exact ⟨0, 0, rfl, rfl, by omega, rfl, xaa rfl, JB⟩
       case round =>
        obtain ⟨j, bo, rfl, rfl, hj, rfl, HBO, KB⟩ := hrel
        by_cases hjn : j < nl
        ·have hjz : (j : Int) < nl := by omega
         have hbo : bo <= 40 := by rw [HBO.out]; exact xau (List.length_filter_le ..) (by rw [List.length_range]; omega)
         obtain ⟨x, hx⟩ := qex (l := l) (i := j) (by rw [HNL.out]; exact hjn)
         obtain ⟨aN, capN, oN, hvN, _, haN, hLN⟩ := HN4.out.get KB.out hx
         rw [HNL.out] at hvN
         injection hvN with e1 _ e2
         subst e1 e2
         have hbx := (HGV.out j x hx).2.2
         obtain ⟨xk, hxk⟩ : ∃ y, x.k = y := ⟨_, rfl⟩
         rw [hxk] at hbx
         have KC : Hid (∀ W, Below wr.heap.size wr W -> W.cell? ⟨aN.block, oN, none⟩ = some (.int .u8 xk) /\ W.cell? ⟨g, 0, none⟩ = some (.int .i64 (k : Int))) := xaa fun W hW => ⟨by rw [<- hxk]; exact (hLN.below hW).at_ 0 rfl, (HBX.out.kb ((xaq KB.out hW))).cell 0⟩
         obtain ⟨cj, hcj⟩ : ∃ y, Ar.ctx l j = y := ⟨_, rfl⟩
         have CC : Hid (∀ W, Below wr.heap.size wr W -> Calls Tryz.prog 11 #[.slice (some aN) nl c0, .int .i64 (j : Int)] W fun e w' => e = .returned (.int .i64 (cj : Nat)) /\ Below wr.heap.size wr w') := xaa fun W hW => (CX.out W j (xaq HB4.out (xaq KB.out hW)) hjn).mono fun e w' h => ⟨by rw [h.1, hcj], by rw [<- h.2]; exact hW⟩
         have HBB3 : Hid (((List.range (j + 1)).filter (boxB l k)).length = bo + if boxB l k j then 1 else 0) := xaa (by rw [HBO.out]; exact range_box _ _)
         have HXB : Hid (boxB l k j = (!decide (j = k) && (decide (xk = 2) && decide (cj = k)))) := xaa (by unfold boxB; rw [hbx, hcj])
         clear hx hLN hxk hbx hcj
         go_wp2_with fail
         refine rgN (by kernel_rfl) fun R hR => ?_
         iterate 2 refine AllS.t ?_
         refine AllS.f KC.out ?_
         by_cases hjk : j = k
         ·have b1 : (!((j : Int) == (k : Int))) = false := by simp [hjk]
          have HJK := xaa hjk
          clear hjk
          refine AllS.r (.bool false) (fun W hSw => ?_) ?_
          ·go_simp; have := HJK.out; omega
          refine AllS.t ?_
          iterate 6 refine AllS.u ?_
          iterate 2 refine AllS.t ?_
          iterate 6 refine AllS.u ?_
          refine AllS.t ?_
          refine AllS.done (by kernel_rfl) (hR.out _ fun w6 hb => ?_) _
          clear hR R
          have KB2 := xaa (xaq KB.out hb)
          have HBO2 : Hid (bo = ((List.range (j + 1)).filter (boxB l k)).length) := xaa (by rw [HBB3.out, HXB.out]; simp [HJK.out])
          clear hb
          go_wp2_with fail
          go_roundg (nl - (j + 1))
          case measure => omega
          case rel => exact ⟨j + 1, bo, rfl, by go_num, by omega, rfl, HBO2, KB2⟩
         have b1 : (!((j : Int) == (k : Int))) = true := by simpa using (by omega : ¬ (j : Int) = k)
         refine AllS.r (.bool true) (fun W hSw => ?_) ?_
         ·go_simp; omega
         iterate 5 refine AllS.t ?_
         refine AllS.f KC.out ?_
         by_cases hx2 : xk = 2
         rotate_left
         ·have b2 : (xk == 2) = false := by simpa using hx2
          refine AllS.r (.bool false) (fun W hSw => ?_) ?_
          ·have hq := b2; go_simp
          iterate 2 refine AllS.t ?_
          iterate 6 refine AllS.u ?_
          refine AllS.t ?_
          refine AllS.done (by kernel_rfl) (hR.out _ fun w6 hb => ?_) _
          clear hR R
          have KB2 := xaa (xaq KB.out hb)
          have HBO2 : Hid (bo = ((List.range (j + 1)).filter (boxB l k)).length) := xaa (by rw [HBB3.out, HXB.out]; simp [hx2])
          clear hb
          go_wp2_with fail
          go_roundg (nl - (j + 1))
          case measure => omega
          case rel => exact ⟨j + 1, bo, rfl, by go_num, by omega, rfl, HBO2, KB2⟩
         have b2 : (xk == 2) = true := by simpa using hx2
         have HX2 := xaa hx2
         clear hx2
         refine AllS.r (.bool true) (fun W hSw => ?_) ?_
         ·have hq := b2; go_simp
         iterate 4 refine AllS.t ?_
         refine AllS.c (.int .i64 (cj : Nat)) 11 _ (fun W hSw => CC.out W hSw) ?_
         refine AllS.t ?_
         refine AllS.f KC.out ?_
         by_cases hck : cj = k
         rotate_left
         ·have b3 : ((cj : Int) == (k : Int)) = false := by simpa using (by omega : ¬ (cj : Int) = k)
          refine AllS.r (.bool false) (fun W hSw => ?_) ?_
          ·have hq := b3; go_simp
          refine AllS.t ?_
          refine AllS.done (by kernel_rfl) (hR.out _ fun w6 hb => ?_) _
          clear hR R
          have KB2 := xaa (xaq KB.out hb)
          have HBO2 : Hid (bo = ((List.range (j + 1)).filter (boxB l k)).length) := xaa (by rw [HBB3.out, HXB.out]; simp [hck])
          clear hb
          go_wp2_with fail
          go_roundg (nl - (j + 1))
          case measure => omega
          case rel => exact ⟨j + 1, bo, rfl, by go_num, by omega, rfl, HBO2, KB2⟩
         have b3 : ((cj : Int) == (k : Int)) = true := by simp [hck]
         have HCK := xaa hck
         clear hck
         refine AllS.r (.bool true) (fun W hSw => ?_) ?_
         ·have hq := b3; go_simp
         refine AllS.t ?_
         refine AllS.done (by kernel_rfl) (hR.out _ fun w6 hb => ?_) _
         clear hR R
         have KB2 := xaa (xaq KB.out hb)
         have HBO2 : Hid (bo + 1 = ((List.range (j + 1)).filter (boxB l k)).length) := xaa (by rw [HBB3.out, HXB.out]; simp [hjk, HX2.out, HCK.out])
         clear hb
         go_wp2_with fail
         go_roundg (nl - (j + 1))
         case measure => omega
         case rel => exact ⟨j + 1, bo + 1, by go_num, by go_num, by omega, rfl, HBO2, KB2⟩
        obtain rfl : j = nl := by omega
        obtain rfl : ce = bo := by rw [HE.out, HBO.out]
        have HB9 := xaa (xaq HB4.out KB.out)
        have hcc : ((ca : Int) == (ca : Int)) = true := by simp
        have hee : ((ce : Int) == (ce : Int)) = true := by simp
        clear HBO HE KB
        go_wp2_with fail
        refine (TL.out _ HB9.out).mono ?_
        rintro e w9 ⟨rfl, b9⟩
        go_wp2_with fail
        go_ret
        exact ⟨rfl, b9⟩
     ·have HB4 := xaa (xaq HB3.out b4)
      have hf2 : (f == 0) = false := by simpa using hf
      clear b4 B3
      go_wp2_with fail
      refine (TL.out _ HB4.out).mono ?_
      rintro e w5 ⟨rfl, b5⟩
      have HB5 := xaa b5
      clear b5
      go_wp2_with fail
      go_ret
      exact ⟨rfl, HB5.out⟩
end
end Ce
end Go.Proofs.YtmceblkjbpbcoaaGreatDoor
