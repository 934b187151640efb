/- The walk of CellsApart. Conditions: what is handed in lies where its slices say, its numbers fit their kinds; the tables lie as the program's text lays them. -/
import Derived.Test.YtmceblkjbpbcoaaGreatDoorLCeHead
import Derived.Test.YtmceblkjbpbcoaaGreatDoorLCeChars
import Derived.Test.YtmceblkjbpbcoaaGreatDoorLCeW
import Derived.Test.YtmceblkjbpbcoaaGreatDoorKBase
namespace Go.Proofs.YtmceblkjbpbcoaaGreatDoor.Ce
open Ar
open Wh (Cr)
open Fo (Fnt)
section
variable {ss : List Sty} {fs : List Fnt} {at_ : List Int} {l : List Nod} {k : Nat}
theorem qwf (hT : Tre (psOf l)) (hk : k < l.length) (hn : l.length <= 40) (hmt : ∀ x ∈ l, x.t.size <= 150) : (cellL ss fs at_ l k).length <= 12160 /\ (csL ss l k).length <= 12080 := by
 have hv : (visL (psOf l) (bxL l) k).length <= 2 * l.length := by have := qlx hT (bxL l) (n := k) (by rw [qad]; exact hk); rwa [qad] at this
 have h1 : (qo7 l k).length <= (visL (psOf l) (bxL l) k).length * 151 := qix l 150 hmt (visL (psOf l) (bxL l) k)
 have h2 : (csL ss l k).length <= 12080 := Nat.le_trans qlg (by omega)
 have hk6 : ∀ c ∈ (givL ss fs at_ l k).cs, c.kind <= 6 := fun c hc => (qe4 hT hk c hc).2.2
 have h3 := qlp hk6 (visL (psOf l) (bxL l) k)
 have h4 : (qfb (givL ss fs at_ l k) (visL (psOf l) (bxL l) k)).nx <= (csL ss l k).length := (qiz hk6 (visL (psOf l) (bxL l) k)).2
 refine ⟨?_, h2⟩
 show (qfb (givL ss fs at_ l k) (visL (psOf l) (bxL l) k)).out.length <= 12160
 omega
theorem qtr (hg : chkT l = 0) {na : Nat} (hS : Small l ss fs na) : l.length <= 40 /\ ∀ x ∈ l, x.t.size <= 150 := ⟨hS.1, fun x hx => by
 obtain ⟨i, hi⟩ := List.mem_iff_getElem?.1 hx
 exact Nat.le_trans (qku hi) (hS.2.1 ((qci l).1 hg).sum)⟩
end
end Go.Proofs.YtmceblkjbpbcoaaGreatDoor.Ce
namespace Go.Proofs.YtmceblkjbpbcoaaGreatDoor.Ar
section
def tLines : List Bool := [true, false, false, false, true, true, true, true, true]
end
end Go.Proofs.YtmceblkjbpbcoaaGreatDoor.Ar
namespace Go.Proofs.YtmceblkjbpbcoaaGreatDoor.Ar
section
def ctxF (l : List Nod) (us : List Nat) : Nat := (us.find? fun (u : Nat) => tb tLines (qav l (u : Int))).getD 0
end
end Go.Proofs.YtmceblkjbpbcoaaGreatDoor.Ar
namespace Go.Proofs.YtmceblkjbpbcoaaGreatDoor.Ar
section
def ctx (l : List Nod) (n : Nat) : Nat := ctxF l (ups (psOf l) n)
end
end Go.Proofs.YtmceblkjbpbcoaaGreatDoor.Ar
namespace Go.Proofs.YtmceblkjbpbcoaaGreatDoor.Ce
section
open Ar
open Wh (Cr)
variable {ps : List Int}
inductive Own2 (ps : List Int) (bx : Nat -> Bool) (n : Nat) : Nat -> Prop
 | kid {k : Nat} : k ∈ kidsL ps n -> Own2 ps bx n k
 | deep {m k : Nat} : Own2 ps bx n m -> bx m = true -> k ∈ kidsL ps m -> Own2 ps bx n k
end
section
open Ar
open Wh (Cr)
variable {ps : List Int}
theorem Own2.under {bx : Nat -> Bool} {n m k : Nat} (hm : Own2 ps bx n m) (hb : bx m = true) (h : Own2 ps bx m k) : Own2 ps bx n k := by
 induction h with
 | kid hk => exact .deep hm hb hk
 | deep _ hb2 hk ih => exact .deep ih hb2 hk
end
section
open Ar
open Wh (Cr)
variable {ps : List Int}
theorem mem_ins_own (h : Tre ps) (bx : Nat -> Bool) : ∀ d n, ps.length <= n + d -> ∀ j, j ∈ ins (visL ps bx n) -> Own2 ps bx n j := by
 intro d
 induction d with
 | zero =>
   intro n hd j hj
   unfold visL at hj
   rw [qd0 h bx (by omega)] at hj
   cases hj
 | succ d ih =>
   intro n hd j hj
   rw [qfz h, qip] at hj
   obtain ⟨k, hk, hj⟩ := List.mem_flatMap.1 hj
   rw [qrv] at hj
   have hg := qge h hk
   rcases List.mem_cons.1 hj with rfl | hj
   ·exact .kid hk
   ·by_cases hb : bx k = true
    ·rw [if_pos hb] at hj
     exact .under (.kid hk) hb (ih k (by omega) j hj)
    ·rw [if_neg hb] at hj
     cases hj
end
section
open Ar
open Wh (Cr)
variable {ps : List Int}
theorem own_mem_ins (h : Tre ps) (bx : Nat -> Bool) {n j : Nat} (ho : Own2 ps bx n j) : j ∈ ins (visL ps bx n) /\ (bx j = true -> ∀ k ∈ kidsL ps j, k ∈ ins (visL ps bx n)) := by
 have sub : ∀ d n m, ps.length <= n + d -> m ∈ ins (visL ps bx n) -> bx m = true -> ∀ k ∈ kidsL ps m, k ∈ ins (visL ps bx n) := by
  intro d
  induction d with
  | zero =>
    intro n m hd hm
    unfold visL at hm
    rw [qd0 h bx (by omega)] at hm
    cases hm
  | succ d ih =>
    intro n m hd hm hb k hk
    rw [qfz h, qip] at hm |-
    obtain ⟨q, hq, hm⟩ := List.mem_flatMap.1 hm
    have hg := qge h hq
    refine List.mem_flatMap.2 ⟨q, hq, ?_⟩
    rw [qrv] at hm |-
    refine List.mem_cons_of_mem _ ?_
    rcases List.mem_cons.1 hm with rfl | hm
    ·rw [if_pos hb, qfz h, qip]
     refine List.mem_flatMap.2 ⟨k, hk, ?_⟩
     rw [qrv]
     exact List.mem_cons_self ..
    ·by_cases hbq : bx q = true
     ·rw [if_pos hbq] at hm |-
      exact ih q m (by omega) hm hb k hk
     ·rw [if_neg hbq] at hm
      cases hm
 induction ho with
 | kid hk =>
   rename_i k
   have h1 : k ∈ ins (visL ps bx n) := by
    rw [qfz h, qip]
    refine List.mem_flatMap.2 ⟨k, hk, ?_⟩
    rw [qrv]
    exact List.mem_cons_self ..
   exact ⟨h1, fun hb k2 hk2 => sub ps.length n k (by omega) h1 hb k2 hk2⟩
 | deep _ hb hk ih =>
   rename_i m k _
   have h1 := ih.2 hb k hk
   exact ⟨h1, fun hb k2 hk2 => sub ps.length n k (by omega) h1 hb k2 hk2⟩
end
section
open Ar
open Wh (Cr)
variable {ps : List Int}
theorem ins_iff (h : Tre ps) (bx : Nat -> Bool) (n j : Nat) : j ∈ ins (visL ps bx n) ↔ Own2 ps bx n j := ⟨mem_ins_own h bx ps.length n (by omega) j, fun ho => (own_mem_ins h bx ho).1⟩
end
open Ar
open Wh (Cr)
open Fo (Fnt)
theorem ctx_step {l : List Nod} (hT : Tre (psOf l)) {j p : Nat} (hp : Ar.pr (psOf l) j = (p : Int)) : ctx l j = if tb tLines (qav l (p : Int)) then p else ctx l p := by
 unfold ctx
 rw [qh1 hT (by omega), hp, Int.toNat_natCast]
 unfold ctxF
 rw [List.find?_cons]
 cases h : tb tLines (qav l (p : Int)) <;> simp
theorem own_ctx {l : List Nod} (hT : Tre (psOf l)) {k j : Nat} (hk : tb tLines (qav l (k : Int)) = true) (h : Own2 (psOf l) (bxL l) k j) : ctx l j = k := by
 induction h with
 | kid h1 =>
   obtain ⟨_, h2⟩ := qu2 h1
   rw [ctx_step hT h2, if_pos hk]
 | deep _ hb h1 ih =>
   rename_i m j' _
   obtain ⟨_, h2⟩ := qu2 h1
   have h3 : qav l (m : Int) = 2 := by
    unfold bxL at hb
    unfold qav
    rw [Int.toNat_natCast]
    exact of_decide_eq_true hb
   rw [ctx_step hT h2, h3, if_neg (by decide)]
   exact ih
open Ar
open Wh (Cr)
open Fo (Fnt)
def Tw (x y : Nod) : Prop := y = x \/ (x.k = 1 /\ ∃ t, y = { x with t := t })
inductive F2 : List Nod -> List Nod -> Prop
 | nil : F2 [] []
 | cons {x y : Nod} {l m : List Nod} : Tw x y -> F2 l m -> F2 (x :: l) (y :: m)
theorem Tw.same {x y : Nod} (h : Tw x y) : y.k = x.k /\ y.p = x.p /\ y.d = x.d /\ y.st = x.st /\ y.en = x.en := by
 rcases h with rfl | ⟨_, t, rfl⟩ <;> exact ⟨rfl, rfl, rfl, rfl, rfl⟩
theorem F2.len {l m : List Nod} (h : F2 l m) : m.length = l.length := by
 induction h with
 | nil => rfl
 | cons _ _ ih => simp [ih]
theorem F2.ps {l m : List Nod} (h : F2 l m) : psOf m = psOf l := by
 induction h with
 | nil => rfl
 | cons hx _ ih => show _ :: psOf _ = _ :: psOf _; rw [ih, hx.same.2.1]
theorem F2.app {l m l' m' : List Nod} (h : F2 l m) (h' : F2 l' m') : F2 (l ++ l') (m ++ m') := by
 induction h with
 | nil => exact h'
 | cons hx _ ih => exact .cons hx ih
theorem F2.get {l m : List Nod} (h : F2 l m) : ∀ i, Tw (l.getD i .zero) (m.getD i .zero) := by
 induction h with
 | nil => exact fun i => .inl (by simp)
 | cons hx _ ih =>
   intro i
   cases i with
   | zero => simpa using hx
   | succ i => simpa using ih i
theorem F2.kind {l m : List Nod} (h : F2 l m) (p : Int) : qav m p = qav l p := (h.get p.toNat).same.1
theorem F2.refl : ∀ l : List Nod, F2 l l
 | [] => .nil
 | _ :: l => .cons (.inl rfl) (F2.refl l)
theorem Tw.fields {x y : Nod} (h : Tw x y) (item : Bool) : qas y item = qas x item := by
 rcases h with rfl | ⟨hk, t, rfl⟩
 ·rfl
 ·unfold qas
  rw [qzm, qzm]
  have ht : tb tText x.k = true := by rw [hk]; rfl
  simp [alw, ht]
theorem Tw.err {x y : Nod} (h : Tw x y) {l m : List Nod} (hl : F2 l m) (last : Int) : nodeErr m y last = nodeErr l x last := by
 unfold nodeErr
 obtain ⟨h1, h2, h3, _, _⟩ := h.same
 rw [hl.ps, h1, h2, h3, hl.kind, hl.len, h.fields]
theorem F2.run {l m : List Nod} (h : F2 l m) : ∀ {pre qre : List Nod} (last : Int), F2 pre qre -> Ar.run qre last m = Ar.run pre last l := by
 induction h with
 | nil => intro pre qre last _; rfl
 | cons hx _ ih =>
   intro pre qre last hp
   unfold Ar.run
   rw [hx.err hp, ih _ (hp.app (.cons hx .nil))]
theorem F2.chk {l m : List Nod} (h : F2 l m) (hg : chkT l = 0) (hs : sumT m <= 1048576) : chkT m = 0 := by
 have hG := (qci l).1 hg
 unfold chkT
 rw [h.len, h.run (-1) .nil, if_neg (by have := hG.pos; have := hG.most; omega), if_pos hG.err]
 unfold qcw
 rw [if_neg (by omega)]
theorem F2.set : ∀ {l : List Nod} {n : Nat} {x : Nod}, l[n]? = some x -> x.k = 1 -> ∀ t, F2 l (l.set n { x with t := t })
 | [], _, _, h, _, _ => by simp at h
 | y :: l, 0, x, h, hk, t => by
   simp at h
   subst h
   exact .cons (.inr ⟨hk, t, rfl⟩) (F2.refl l)
 | y :: l, n + 1, x, h, hk, t => .cons (.inl rfl) (F2.set (by simpa using h) hk t)
theorem F2.bx {l m : List Nod} (h : F2 l m) : bxL m = bxL l := by
 funext k
 unfold bxL
 rw [(h.get k).same.1]
theorem chV_cong {l m : List Nod} : ∀ pre : List (Nat × Bool), (∀ j ∈ ins pre, m.getD j .zero = l.getD j .zero) -> chV m pre = chV l pre
 | [], _ => rfl
 | (n, b) :: pre, h => by
   have e : ∀ l : List Nod, chV l ((n, b) :: pre) = (if b then ownC (l.getD n .zero) n else []) ++ chV l pre := fun _ => rfl
   rw [e, e]
   cases b with
   | true =>
     rw [h n (by rw [qxn]; exact List.mem_cons_self ..), chV_cong pre fun j hj => h j (by rw [qxn]; exact List.mem_cons_of_mem _ hj)]
   | false => rw [chV_cong pre fun j hj => h j (by rw [qz2]; exact hj)]; rfl
section
variable {ss : List Sty} {fs : List Fnt} {at_ : List Int} {l : List Nod} {k n : Nat} {x : Nod}
theorem all_turn (hT : Tre (psOf l)) (hx : l[n]? = some x) (h1 : x.k = 1) (t : ByteArray) (hn : ¬ Own2 (psOf l) (bxL l) k n) : qo7 (l.set n { x with t := t }) k = qo7 l k := by
 have hF := F2.set hx h1 t
 unfold qo7
 rw [hF.ps, hF.bx]
 refine chV_cong _ fun j hj => ?_
 have hjn : j ≠ n := fun e => hn (e ▸ (ins_iff hT (bxL l) k j).1 hj)
 rw [List.getD_eq_getElem?_getD, List.getElem?_set_ne (Ne.symm hjn), <- List.getD_eq_getElem?_getD]
theorem cs_turn (hT : Tre (psOf l)) (hx : l[n]? = some x) (h1 : x.k = 1) (t : ByteArray) (hn : ¬ Own2 (psOf l) (bxL l) k n) : csL ss (l.set n { x with t := t }) k = csL ss l k := by
 unfold csL
 rw [all_turn hT hx h1 t hn]
theorem cell_turn (hT : Tre (psOf l)) (hx : l[n]? = some x) (h1 : x.k = 1) (t : ByteArray) (hn : ¬ Own2 (psOf l) (bxL l) k n) : cellL ss fs at_ (l.set n { x with t := t }) k = cellL ss fs at_ l k := by
 have hF := F2.set hx h1 t
 have e1 := cs_turn (ss := ss) hT hx h1 t hn
 unfold cellL givL hsL
 rw [e1, hF.ps, hF.bx]
 have e2 : (fun j => ((l.set n { x with t := t }).getD j .zero).st) = fun j => (l.getD j .zero).st := funext fun j => (hF.get j).same.2.2.2.1
 have e3 : (fun j => ((l.set n { x with t := t }).getD j .zero).en) = fun j => (l.getD j .zero).en := funext fun j => (hF.get j).same.2.2.2.2
 rw [e2, e3]
theorem okc_turn (hx : l[n]? = some x) (h1 : x.k = 1) (t : ByteArray) : Okc (l.set n { x with t := t }) k ss fs at_ ↔ Okc l k ss fs at_ := by
 have hF := F2.set hx h1 t
 constructor
 ·rintro ⟨a, b, c⟩
  rw [hF.len] at a c
  rw [(hF.get k).same.1] at b
  exact ⟨a, b, c⟩
 ·rintro ⟨a, b, c⟩
  exact ⟨by rw [hF.len]; exact a, by rw [(hF.get k).same.1]; exact b, by rw [hF.len]; exact c⟩
theorem sum_turn : ∀ {l : List Nod} {n : Nat} {x : Nod} (t : ByteArray), l[n]? = some x -> sumT (l.set n { x with t := t }) + x.t.size = sumT l + t.size
 | [], _, _, _, h => by simp at h
 | y :: l, 0, x, t, h => by
   simp at h
   subst h
   simp [sumT]
   omega
 | y :: l, n + 1, x, t, h => by
   have := sum_turn (l := l) (n := n) (x := x) t (by simpa using h)
   simp [sumT] at this |-
   omega
theorem small_turn {na : Nat} (hx : l[n]? = some x) (t : ByteArray) (ht : t.size <= 7) (hS : Small l ss fs na) (hs : sumT l <= 1048576) : sumT (l.set n { x with t := t }) <= 157 := by
 have := sum_turn t hx
 have := hS.2.1 hs
 omega
end
open Go.ChangeShapes Go.WideShapes Go.ChangeAt Go.RowKit Go.Shelf
open Ar
theorem flatN_set : ∀ {l : List Nod} {n : Nat} {x : Nod} (t : ByteArray), l[n]? = some x -> (qiq l).set (n * 22 + 2) (.string t) = qiq (l.set n { x with t := t })
 | [], _, _, _, h => by simp at h
 | y :: l, 0, x, t, h => by
   simp at h
   subst h
   show (y.cells.toList ++ qiq l).set 2 (.string t) = _
   rw [List.set_append_left _ _ (by show 2 < 22; decide)]
   rfl
 | y :: l, n + 1, x, t, h => by
   show (y.cells.toList ++ qiq l).set ((n + 1) * 22 + 2) (.string t) = y.cells.toList ++ qiq (l.set n _)
   rw [List.set_append_right _ _ (by show 22 <= _; omega), <- flatN_set t (by simpa using h)]
   congr 2
   show (n + 1) * 22 + 2 - 22 = _
   omega
theorem own_ns {w : World} {base n : Nat} {v : Value} {l : List Nod} (h : w.ownsRow base 50 22 v n (qiq l)) (hn : l.length = n) : Ns w v l := by
 have h2 : qa5 22 (fun b => b < base) w v (l.map fun s => s.cells.toList) := qa5.of_own h rfl (by rw [List.length_map]; exact hn) (fun x hx => by
  obtain ⟨s, _, rfl⟩ := List.mem_map.1 hx
  rfl)
 exact qa5.mono (T := fun _ => False) h2 fun _ _ h => h.elim
theorem own_text {w : World} {base : Nat} {v : Value} {l : List Nod} (hO : w.ownsRow base 50 22 v l.length (qiq l)) {n : Nat} {x : Nod} (hx : l[n]? = some x) :
 ∃ g c cur, v = .slice (some ⟨g, 0, none⟩) l.length c /\ base <= g /\ Blk w g 50 cur /\ n * 22 + 2 < cur.size /\ ∀ (t : ByteArray) (w' : World), Blk w' g 50 (cur.setIfInBounds (n * 22 + 2) (.string t)) -> Ns w' v (l.set n { x with t := t }) := by
 have hn := (List.getElem?_eq_some_iff.1 hx).1
 obtain ⟨_, ⟨_, h0⟩ | ⟨g, cap, cur, hv, hb, hB, hc, hm, hs, ht⟩⟩ := hO
 ·omega
 ·refine ⟨g, cap, cur, hv, hb, hB, by omega, fun t w' hB' => ?_⟩
  refine own_ns (base := base) (n := l.length) ⟨?_, .inr ⟨g, cap, _, hv, hb, hB', hc, hm, by rw [Array.size_setIfInBounds]; exact hs, ?_⟩⟩ (by rw [List.length_set])
  ·rw [qr5, List.length_set]
  ·rw [Array.toList_setIfInBounds, List.take_set, ht, flatN_set t hx]
theorem wfL_set {l : List Nod} (hW : WfL l) {n : Nat} {x : Nod} (hx : l[n]? = some x) {t : ByteArray} (ht : t.size <= 9223372036854775807) : WfL (l.set n { x with t := t }) := fun i y hy => by
 by_cases e : i = n
 ·subst e
  have h := hW i x hx
  rw [List.getElem?_set_self (List.getElem?_eq_some_iff.1 hx).1] at hy
  injection hy with hy
  subst hy
  exact ⟨h.k0, h.k1, h.d, ht, h.vk⟩
 ·rw [List.getElem?_set_ne (Ne.symm e)] at hy
  exact hW i y hy
set_option maxRecDepth 100000
set_option maxHeartbeats 4000000
open Go.ChangeShapes Go.WideShapes Go.ChangeAt Go.RowKit Go.Shelf
open Ar
open Wh (Cr)
theorem good8 {l : List Nod} (h : Ar.Good l) (hW : WfL l) : ∀ (i : Nat) (x : Nod), l[i]? = some x -> 0 <= x.k /\ x.k <= 8 := fun i x hx => ⟨(hW i x hx).k0, (h.pre.all i x hx).kind⟩
theorem lines_iffC {k : Int} (h0 : 0 <= k) (h8 : k <= 8) : tb tLines k = (decide (k = 0) || decide (4 <= k)) := by
 have : k = 0 \/ k = 1 \/ k = 2 \/ k = 3 \/ k = 4 \/ k = 5 \/ k = 6 \/ k = 7 \/ k = 8 := by omega
 rcases this with rfl | rfl | rfl | rfl | rfl | rfl | rfl | rfl | rfl <;> rfl
theorem cctx_any (l : List Nod) (v : Value) (b : Nat) (w : World) (hR : Ns w v l) (hT : Tre (psOf l)) (_hn : l.length <= 1000) (hb : b < l.length) (hk8 : ∀ (i : Nat) (x : Nod), l[i]? = some x -> 0 <= x.k /\ x.k <= 8) :
 Calls Tryz.prog 11 #[v, .int .i64 (b : Int)] w fun e w' => e = .returned (.int .i64 (ctx l b : Nat)) /\ w = w' := by
 have HR := Lib.hid hR
 have HT := Lib.hid hT
 have H8 := Lib.hid hk8
 obtain ⟨A, cap, rfl⟩ := hR.form
 obtain ⟨n, hl⟩ : ∃ n, l.length = n := ⟨_, rfl⟩
 have HL := Lib.hid hl
 obtain ⟨D, hD⟩ : ∃ D, ctx l b = D := ⟨_, rfl⟩
 have HD := Lib.hid hD
 rw [hl] at hb HR |-
 rw [hD]
 clear hR hT hl hD hk8
 go_enter Tryz.func11, Tryz.ntmps11
 go_wp2_with fail
 go_loopg [1] (b + 1) (fun kx s1 wr => w = wr /\ ∃ c : Nat, s1 = .int .i64 c /\ c < n /\ kx = c + 1 /\ Hid (ctx l c = D))
 case atStart => exact ⟨rfl, b, rfl, hb, rfl, HD⟩
 case round =>
  obtain ⟨rfl, c, rfl, h1, rfl, HI⟩ := hrel
  clear HD
  have hkl : c < l.length := by rw [HL.out]; omega
  obtain ⟨x, hx⟩ := qex hkl
  have HPR := Lib.hid (qk1 hx)
  obtain ⟨ad, cap2, o, hv, _, ha, hLi⟩ := HR.out.get (Below.refl _ _) hx
  injection hv with hv1 hv2 hv3
  subst hv1 hv3
  have hc := hLi.p
  by_cases h0 : 0 < c
  ·obtain ⟨q1, q2, _⟩ := HT.out.par c h0 (by rw [qad]; exact hkl)
   rw [HPR.out] at q1 q2
   obtain ⟨p, hp⟩ : ∃ p, x.p = p := ⟨_, rfl⟩
   rw [hp] at q1 q2 hc HPR
   obtain ⟨k, rfl⟩ : ∃ k : Nat, p = k := ⟨p.toNat, by omega⟩
   have hkl2 : k < l.length := by omega
   obtain ⟨y, hy⟩ := qex hkl2
   obtain ⟨ad2, cap3, o2, hv, _, ha2, hLi2⟩ := HR.out.get (Below.refl _ _) hy
   injection hv with hv1 hv4 hv3
   injection hv1 with hv1
   subst hv1 hv3
   have hc2 := hLi2.k
   have hst := ctx_step HT.out HPR.out
   have hky : qav l (k : Int) = y.k := by unfold qav; rw [List.getD_eq_getElem?_getD, Int.toNat_natCast, hy]; rfl
   obtain ⟨k0, k8⟩ := H8.out k y hy
   have hln := lines_iffC k0 k8
   rw [hky, hln] at hst
   rw [HI.out] at hst
   obtain ⟨z, hz⟩ : ∃ z, y.k = z := ⟨_, rfl⟩
   rw [hz] at hc2 hst k0 k8
   have hcz : (0 : Int) < c := by omega
   have HST := Lib.hid hst
   clear hst HI hv2 hv4 hLi hLi2 HPR hx hy hp hky hln hz
   by_cases hz0 : z = 0
   ·subst hz0
    have := HST.out
    simp at this
    subst this
    clear HST
    go_wp2_with fail
    go_ret
    exact ⟨rfl, rfl⟩
   ·by_cases hz4 : 4 <= z
    ·have := HST.out
     simp [hz4] at this
     subst this
     clear HST
     go_wp2_with fail
     go_ret
     exact ⟨rfl, rfl⟩
    ·have HI' : Hid (ctx l k = D) := by
      have := HST.out
      simp [hz4, hz0] at this
      exact Lib.hid this.symm
     clear HST
     go_wp2_with fail
     go_roundg (k + 1)
     case measure => omega
     case rel => exact ⟨rfl, k, rfl, by omega, rfl, HI'⟩
  ·obtain rfl : c = 0 := by omega
   have hD0 : D = 0 := by
    rw [<- HI.out]
    unfold ctx
    rw [qh2 (by rw [HT.out.root]; omega)]
    rfl
   subst hD0
   clear HI HPR hv2 hLi hx hc
   go_wp2_with fail
   go_ret
   exact ⟨rfl, rfl⟩
theorem neC8 (c : Cr) : ∀ w, (binOp .neq 52 (.agg (chA c)) (.agg (chA c))).run Tryz.prog w = .ok (.bool false) w := fun w => by
 have u1 := Tryz.underlying5
 have u2 := Tryz.underlying3
 have u3 := Tryz.underlying21
 unfold chA
 rw [run_neq_struct, show (10000 : Nat) = 9999 + 1 from rfl, run_equalIn_agg w 9999 52 _ _ uC (by kernel_rfl)]
 simp only [Program.fieldsOf, Tryz.underlying52]
 go_simp
theorem same8_refl (v1 v2 : Value) (l : List Cr) (w : World) (h1 : RwC w v1 l) (h2 : RwC w v2 l) (hn : l.length <= 1048576) :
 Calls Tryz.prog 15 #[v1, v2] w fun e w' => e = .returned (.bool true) /\ Below w.heap.size w w' := by
 have H1 := Lib.hid h1
 have H2 := Lib.hid h2
 obtain ⟨A, c, rfl⟩ := RwC.form h1
 obtain ⟨B, c2, rfl⟩ := RwC.form h2
 obtain ⟨n, hl⟩ : ∃ n, l.length = n := ⟨_, rfl⟩
 have HL := Lib.hid hl
 rw [hl] at hn H1 H2 |-
 clear h1 h2 hl
 go_enter Tryz.func15, Tryz.ntmps15
 go_wp2_with fail
 go_loopg [5] n (fun kx s5 wr => ∃ k : Nat, s5 = .int .i64 k /\ k <= n /\ kx = n - k /\ Below w.heap.size w wr)
 case atStart => exact ⟨0, rfl, by omega, rfl, Below.refl _ _⟩
 case round =>
  obtain ⟨k, rfl, hk, rfl, bel⟩ := hrel
  by_cases hlt : k < n
  ·have hz : (k : Int) < n := by omega
   obtain ⟨x, hx⟩ : ∃ x, l[k]? = some x := ⟨_, List.getElem?_eq_getElem (by rw [HL.out]; exact hlt)⟩
   obtain ⟨a1, cap1, o1, hv, _, ha1, hL1⟩ := H1.out.get bel hx
   rw [HL.out] at hv
   injection hv with hv1 hv2 hv3
   subst hv1 hv3
   obtain ⟨a2, cap2, o2, hv, _, ha2, hL2⟩ := H2.out.get bel hx
   rw [HL.out] at hv
   injection hv with hv1 hv4 hv3
   subst hv1 hv3
   have hne := neC8 x
   clear hv2 hv4 hx
   go_wp2_with fail
   refine qax (by kernel_rfl) (fun W => Below wr.heap.size wr W) (below_drewN (Below.refl _ _) 1) (fun R hR => ?_)
   refine AllS.start ?_
   iterate 3 refine AllS.t ?_
   refine AllS.r (.agg (chA x)) (fun W hSw => rdC (.tmp 19) rfl _ rfl x (ha1 ▸ hL1.below hSw)) ?_
   iterate 3 refine AllS.t ?_
   refine AllS.r (.agg (chA x)) (fun W hSw => rdC (.tmp 23) rfl _ rfl x (ha2 ▸ hL2.below hSw)) ?_
   refine AllS.t ?_
   refine AllS.done (by kernel_rfl) (hR.out _ ?_) _
   clear hR R hL1 hL2 ha1 ha2
   intro w2 b2
   go_wp2_with fail
   go_roundg (n - (k + 1))
   case measure => omega
   case rel => exact ⟨k + 1, by go_num, by omega, rfl, bel.trans (b2.mono bel.size)⟩
  ·obtain rfl : k = n := by omega
   go_wp2_with fail
   go_ret
   exact ⟨rfl, bel⟩
open Go.ChangeShapes Go.WideShapes Go.ChangeAt Go.RowKit Go.Shelf
open Ar
open Wh (Cr)
open Fo (Fnt W64)
def errV (n : Nat) (z : Int) : Int := if 0 <= z /\ z < (n : Int) then 2 else fndE n z
theorem errV_ne (n : Nat) (z : Int) : errV n z ≠ 0 := by
 unfold errV fndE
 split
 ·decide
 ·split
  ·decide
  ·split
   ·decide
   ·omega
def CellsGen (l : List Nod) (z : Int) (ss : List Sty) (fs : List Fnt) (at_ : List Int) (w : World) (e : Ending) (w' : World) : Prop :=
 ((∃ k : Nat, z = (k : Int) /\ Okc l k ss fs at_ /\ ∃ u1 u2, e = .returned (.tuple #[u1, u2, .int .i64 0]) /\ RwC w' u1 (csL ss l k) /\ qkj w' u2 (cellL ss fs at_ l k)) ∨
  (¬ (∃ k : Nat, z = (k : Int) /\ Okc l k ss fs at_)) /\ e = .returned (.tuple #[.slice none 0 0, .slice none 0 0, .int .i64 (errV l.length z)])) /\ Below w.heap.size w w'
theorem ccells_gen (V : Value) (l : List Nod) (z : Int) (A1 A2 A3 : Option Addr) (c1 c2 c3 : Nat) (ss : List Sty) (fs : List Fnt) (at_ : List Int) (w : World) (h : Tr w V l) (hg : chkT l = 0) (hn40 : l.length <= 40) (hss : ss.length <= 60) (hmt : ∀ x ∈ l, x.t.size <= 160) (hT : Tbs w) (hM : Ms w (.slice A1 ss.length c1) (.slice A2 fs.length c2) (.slice A3 at_.length c3) ss fs at_) (h64 : ∀ s ∈ ss, W64 s.a6) :
 Calls Tryz.prog 10 #[V, .int .i64 z, .slice A1 ss.length c1, .slice A2 fs.length c2, .slice A3 at_.length c3] w (CellsGen l z ss fs at_ w) := by
 have hG := (qci l).1 hg
 by_cases hz : ∃ k : Nat, z = (k : Int) /\ k < l.length
 ·obtain ⟨k, rfl, hk⟩ := hz
  obtain ⟨x, hx⟩ : ∃ x, l[k]? = some x := ⟨_, List.getElem?_eq_getElem hk⟩
  have hgx : l.getD k .zero = x := by rw [List.getD_eq_getElem?_getD, hx]; rfl
  have he : errV l.length (k : Int) = 2 := if_pos ⟨by omega, by omega⟩
  by_cases hi : inl x.k = true
  ·by_cases hv : validB ss fs.length at_.length l.length = true
   ·exact (qkh V l k x 160 A1 A2 A3 c1 c2 c3 ss fs at_ w h hG.tre (by omega) hmt (by omega) (by omega) hx hi hT.ut hT.cl hM hv h64).mono fun e w' ⟨u1, u2, q1, q2, q3, q4⟩ => ⟨.inl ⟨k, rfl, ⟨hk, by rw [hgx]; exact hi, hv⟩, u1, u2, q1, q2, q3⟩, q4⟩
   ·refine (qox V l k A1 A2 A3 ss.length fs.length at_.length c1 c2 c3 ss w h.len hM.s (by omega) ?_ (by simpa using hv)).mono fun e w' ⟨q1, q2⟩ => ⟨.inr ⟨?_, by rw [he]; exact q1⟩, q2⟩
    ·exact (qhu V l k x 160 w h hG.tre (by omega) hmt (by omega) (by omega) hx hi hT.ut).mono fun e w' ⟨u, q1, _, q2⟩ => ⟨u, q1, q2⟩
    ·rintro ⟨k', he, hO⟩
     exact hv hO.v
  ·refine (qgo V (k : Int) _ _ _ 2 (by decide) w (qht V l k x w h hx (by simpa using hi))).mono fun e w' ⟨q1, q2⟩ => ⟨.inr ⟨?_, by rw [he]; exact q1⟩, q2⟩
   rintro ⟨k', he, hO⟩
   obtain rfl : k = k' := by omega
   have := hO.inl
   rw [hgx] at this
   exact hi this
 ·have hz2 : ¬ (0 <= z /\ z < (l.length : Int)) := fun h => hz ⟨z.toNat, by omega, by omega⟩
  have he : errV l.length z = fndE l.length z := if_neg hz2
  have hf : fndE l.length z ≠ 0 := he ▸ errV_ne _ _
  refine (qgo V z _ _ _ (fndE l.length z) hf w (qkg V l.length z w h.len hf)).mono fun e w' ⟨q1, q2⟩ => ⟨.inr ⟨?_, by rw [he]; exact q1⟩, q2⟩
  rintro ⟨k', he, hO⟩
  exact hz ⟨k', he, hO.lt⟩
theorem crules_nil (w : World) : Calls Tryz.prog 14 #[.pointer none, .slice none 0 0] w fun e w' => e = .returned (.tuple #[.slice none 0 0, .int .i64 1]) /\ w = w' := by
 have CL := Lib.hid (qfo (.pointer none) 0 w (.inl ⟨rfl, rfl⟩))
 go_enter Tryz.func14, Tryz.ntmps14
 go_wp2_with fail
 refine CL.out.mono ?_
 rintro e w1 ⟨rfl, rfl⟩
 go_wp2_with fail
 go_ret2
 exact ⟨rfl, rfl⟩
theorem cchars_nil (w : World) : Calls Tryz.prog 13 #[.pointer none, .int .i64 0] w fun e w' => e = .returned (.tuple #[.slice none 0 0, .int .i64 1]) /\ Below w.heap.size w w' :=
 qkg (.pointer none) 0 0 w (.inl ⟨rfl, rfl⟩) (by decide)
set_option maxRecDepth 100000
set_option maxHeartbeats 4000000
open Go.ChangeShapes Go.WideShapes Go.ChangeAt Go.RowKit Go.Shelf
open Ar
open Wh (Cr)
open Fo (Fnt W64)
def wsumT (l : List Nod) : Int := l.foldl (fun z x => IntKind.i64.wrap (z + (x.t.size : Nat))) 0
theorem wsumT_one {l : List Nod} {k : Nat} {x : Nod} (h : l[k]? = some x) : wsumT (l.take (k + 1)) = IntKind.i64.wrap (wsumT (l.take k) + (x.t.size : Nat)) := by
 unfold wsumT
 rw [qh6 h, List.foldl_append]
 rfl
theorem wsumT_is : ∀ l : List Nod, sumT l <= 1048576 -> wsumT l = (sumT l : Nat) := by
 intro l hs
 have key : ∀ k, k <= l.length -> wsumT (l.take k) = (sumT (l.take k) : Nat) := by
  intro k
  induction k with
  | zero => exact fun _ => rfl
  | succ k ih =>
    intro hk
    obtain ⟨x, hx⟩ := qex (l := l) (i := k) (by omega)
    have h3 := qkt l (k + 1)
    have h2 := qh7 hx
    rw [wsumT_one hx, ih (by omega), IntWalk.i64_in _ (by omega), h2]
    omega
 have := key l.length (Nat.le_refl _)
 rwa [List.take_length] at this
def greatV (l : List Nod) (q : Nat) (fs : List Fnt) (na : Nat) : Bool := (fs.any fun F => decide (20 < F.rs.length)) || (decide (40 < l.length) || (decide (150 < wsumT l) || (decide (60 < q) || (decide (60 < na) || decide (80 < fs.length)))))
theorem greatV_small {l : List Nod} {ss : List Sty} {fs : List Fnt} {na : Nat} (h : greatV l ss.length fs na = false) : Small l ss fs na := by
 unfold greatV at h
 simp only [Bool.or_eq_false_iff, decide_eq_false_iff_not, List.any_eq_false, decide_eq_true_eq] at h
 obtain ⟨h0, h1, h2, h3, h4, h5⟩ := h
 exact ⟨by omega, fun hs => by have := wsumT_is l hs; omega, by omega, by omega, by omega, fun F hF => by have := h0 F hF; omega⟩
theorem cgreatv_any (l : List Nod) (v : Value) (z : Int) (A1 A2 A3 : Option Addr) (n3 c1 c2 c3 : Nat) (ss : List Sty) (fs : List Fnt) (w : World) (hN : Ns w v l) (hn : l.length <= 9223372036854775807) (hF : Fs w (.slice A2 fs.length c2) fs) (hf : fs.length <= 9223372036854775807) (hs : ss.length <= 9223372036854775807) (h3 : n3 <= 9223372036854775807) :
 Calls Tryz.prog 8 #[v, .agg #[.int .i64 z, .slice A1 ss.length c1, .slice A2 fs.length c2, .slice A3 n3 c3]] w fun e w' => e = .returned (.bool (greatV l ss.length fs n3)) /\ Below w.heap.size w w' := by
 obtain ⟨gv, hgv⟩ : ∃ gv, greatV l ss.length fs n3 = gv := ⟨_, rfl⟩
 have HGV := Lib.hid hgv
 rw [hgv]
 clear hgv
 have HR := Lib.hid hN
 have HF := Lib.hid hF
 obtain ⟨A, cap, rfl⟩ := hN.form
 obtain ⟨n, hl⟩ : ∃ n, l.length = n := ⟨_, rfl⟩
 obtain ⟨m, hm⟩ : ∃ n, fs.length = n := ⟨_, rfl⟩
 obtain ⟨q, hq⟩ : ∃ n, ss.length = n := ⟨_, rfl⟩
 have HL := Lib.hid hl
 have HM := Lib.hid hm
 have HQ := Lib.hid hq
 rw [hl] at hn HR |-
 rw [hm] at hf HF |-
 rw [hq] at hs |-
 clear hN hF hl hm hq
 go_enter Tryz.func8, Tryz.ntmps8
 go_wp2_with (refine q0u rfl (.tmp 1) rfl z A1 A2 A3 q m n3 c1 c2 c3 rfl ?_; intro w1 b1 B1; refine Mk.out ?_)
 constructor
 obtain ⟨g, hg⟩ : ∃ g, w.heap.size = g := ⟨_, rfl⟩
 have hgw := Lib.hid hg
 rw [hg] at B1 |-
 have HB1 := Lib.hid b1
 have HBB := Lib.hid B1
 clear b1 B1 hg
 go_wp2_with fail
 go_loopg [5, 6] n (fun kx s5 s6 wr => w1 = wr /\ ∃ (k : Nat) (z : Int), s5 = .int .i64 z /\ s6 = .int .i64 k /\ k <= n /\ kx = n - k /\ Hid (z = wsumT (l.take k)))
 case atStart => exact ⟨rfl, 0, 0, rfl, rfl, by omega, rfl, Lib.hid rfl⟩
 case round =>
  obtain ⟨rfl, k, z, rfl, rfl, hk, rfl, HZ⟩ := hrel
  by_cases hlt : k < n
  ·have hkl : k < l.length := by rw [HL.out]; exact hlt
   have hz : (k : Int) < n := by omega
   obtain ⟨x, hx⟩ := qex hkl
   obtain ⟨ad, cap2, o, hv, _, ha, hLi⟩ := HR.out.get HB1.out hx
   rw [HL.out] at hv
   injection hv with hv1 hv2 hv3
   subst hv1 hv3
   have hc := hLi.t
   obtain ⟨z', hw⟩ : ∃ z', IntKind.i64.wrap (z + (x.t.size : Nat)) = z' := ⟨_, rfl⟩
   have HZ2 : Hid (z' = wsumT (l.take (k + 1))) := Lib.hid (by rw [<- hw, HZ.out]; exact (wsumT_one hx).symm)
   obtain ⟨t, ht⟩ : ∃ t, x.t = t := ⟨_, rfl⟩
   rw [ht] at hc hw
   clear hv2 hx ht hLi hkl HZ
   go_wp2_with fail
   go_roundg (n - (k + 1))
   case measure => omega
   case rel => exact ⟨rfl, k + 1, z', rfl, by go_num, by omega, rfl, HZ2⟩
  ·obtain rfl : k = n := by omega
   have HS : Hid (z = wsumT l) := Lib.hid (by
    have := HZ.out
    rwa [List.take_of_length_le (by rw [HL.out]; exact Nat.le_refl _)] at this)
   clear HZ
   have hcf := HBB.out.cell 2
   have hcs := HBB.out.cell 1
   have hca := HBB.out.cell 3
   simp only [List.getElem?_toArray, List.getElem?_cons_succ, List.getElem?_cons_zero] at hcf hcs hca
   go_wp2_with fail
   go_loopg [7] m (fun kx s7 wr => w1 = wr /\ ∃ j : Nat, s7 = .int .i64 j /\ j <= m /\ kx = m - j /\ Hid (∀ i F, i < j -> fs[i]? = some F -> F.rs.length <= 20))
   case atStart => exact ⟨rfl, 0, rfl, by omega, rfl, Lib.hid fun i F hi => by omega⟩
   case round =>
    obtain ⟨rfl, j, rfl, hj, rfl, HJ⟩ := hrel
    by_cases hjt : j < m
    ·have hjl : j < fs.length := by rw [HM.out]; exact hjt
     have hjz : (j : Int) < m := by omega
     obtain ⟨F, hF⟩ : ∃ F, fs[j]? = some F := ⟨_, List.getElem?_eq_getElem hjl⟩
     obtain ⟨ad, cap2, o, hv, _, ha, hLi⟩ := HF.out.get HB1.out hF
     rw [HM.out] at hv
     injection hv with hv1 hv2 hv3
     subst hv1 hv3
     obtain ⟨B, cb, hrv⟩ := qa5.form (HF.out.each F (List.mem_of_getElem? hF)).1
     rw [List.length_map] at hrv
     have hc5 : w1.cell? ⟨ad.block, o + 5, none⟩ = some F.v := hLi 5 _ rfl
     rw [hrv] at hc5
     have hw := (HF.out.each F (List.mem_of_getElem? hF)).2.len
     obtain ⟨r, hr⟩ : ∃ r, F.rs.length = r := ⟨_, rfl⟩
     have hrb : r <= 9223372036854775807 := by
      have := hw
      rw [hr] at this
      exact this
     rw [hr] at hc5
     have HFF := Lib.hid hF
     have HRR := Lib.hid hr
     clear hF hr hrv hw hLi hv2
     by_cases h20 : 20 < r
     ·have h20z : (20 : Int) < r := by omega
      go_wp2_with fail
      go_ret
      have e1 : gv = true := by
       rw [<- HGV.out]
       unfold greatV
       rw [List.any_eq_true.2 ⟨F, List.mem_of_getElem? HFF.out, by rw [HRR.out]; exact decide_eq_true h20⟩]
       rfl
      exact ⟨by rw [e1]; rfl, HB1.out⟩
     ·have h20z : (r : Int) <= 20 := by omega
      go_wp2_with fail
      go_roundg (m - (j + 1))
      case measure => omega
      case rel => exact ⟨rfl, j + 1, by go_num, by omega, rfl, Lib.hid fun i G hi hG => by
       rcases Nat.lt_or_ge i j with h | h
       ·exact HJ.out i G h hG
       ·obtain rfl : i = j := by omega
        rw [HFF.out] at hG
        injection hG with hG
        rw [<- hG, HRR.out]
        omega⟩
    ·obtain rfl : j = m := by omega
     have HJ2 : Hid (∀ F ∈ fs, F.rs.length <= 20) := Lib.hid fun F hF => by
      obtain ⟨i, hi⟩ := List.mem_iff_getElem?.1 hF
      exact HJ.out i F (by rw [<- HM.out]; exact (List.getElem?_eq_some_iff.1 hi).1) hi
     clear HJ
     have hgv2 : Hid (gv = (decide (40 < k) || (decide (150 < z) || (decide (60 < q) || (decide (60 < n3) || decide (80 < j)))))) := Lib.hid (by
      have hany : (fs.any fun F => decide (20 < F.rs.length)) = false := by
       rw [List.any_eq_false]
       intro F hF
       have := HJ2.out F hF
       simp
       omega
      rw [<- HGV.out, greatV, hany, HL.out, HM.out, HQ.out, <- HS.out]
      rfl)
     have big : ∀ b, b = gv -> Ending.returned (.bool b) = .returned (.bool gv) /\ Below w.heap.size w w1 := fun b hb => ⟨by rw [hb], HB1.out⟩
     have HBG := Lib.hid big
     clear big
     have HY : Hid (40 < k \/ 150 < z \/ 60 < q \/ 60 < n3 -> Ending.returned (.bool true) = .returned (.bool gv) /\ Below w.heap.size w w1) := Lib.hid fun h => HBG.out _ (by
      rw [hgv2.out]
      exact Eq.symm (by simp only [Bool.or_eq_true, decide_eq_true_eq]; omega))
     by_cases h1 : 40 < k
     ·have h1z : (40 : Int) < k := by omega
      go_wp2_with fail
      go_ret
      exact HY.out (by omega)
     ·have h1z : (k : Int) <= 40 := by omega
      by_cases h2 : 150 < z
      ·go_wp2_with fail
       go_ret
       exact HY.out (by omega)
      ·have h2z : z <= 150 := by omega
       by_cases h3 : 60 < q
       ·have h3z : (60 : Int) < q := by omega
        go_wp2_with fail
        go_ret
        exact HY.out (by omega)
       ·have h3z : (q : Int) <= 60 := by omega
        by_cases h4 : 60 < n3
        ·have h4z : (60 : Int) < n3 := by omega
         go_wp2_with fail
         go_ret
         exact HY.out (by omega)
        ·have h4z : (n3 : Int) <= 60 := by omega
         go_wp2_with fail
         go_ret
         exact HBG.out _ (by
          rw [hgv2.out, Bool.eq_iff_iff]
          simp only [Bool.or_eq_true, decide_eq_true_eq]
          omega)
set_option maxRecDepth 100000
set_option maxHeartbeats 4000000
open Go.ChangeShapes Go.WideShapes Go.ChangeAt Go.RowKit Go.Shelf
open Ar
open Wh (Cr)
open Fo (Fnt W64)
theorem uGn2 : Tryz.prog.underlying 27 = some (.struct (Tryz.prog.fieldsOf 27)) := by kernel_rfl
theorem iGn2 (z : Int) (A1 A2 A3 : Option Addr) (n1 n2 n3 c1 c2 c3 : Nat) : (Tryz.prog.info? 27).map (·.size) = some (#[Value.int .i64 z, .slice A1 n1 c1, .slice A2 n2 c2, .slice A3 n3 c3] : Array Value).size := by kernel_rfl
theorem rdGn {a : Act} {w : World} {o : Oper} (x : Operand) (ho : o.op = .load 27 x) (p : Addr) (hx : a.eval x = .pointer (some p)) (z : Int) (A1 A2 A3 : Option Addr) (n1 n2 n3 c1 c2 c3 : Nat) (hL : qar w p #[.int .i64 z, .slice A1 n1 c1, .slice A2 n2 c2, .slice A3 n3 c3]) : (execOp a.eval o).run Tryz.prog w = .ok (.value (.agg #[.int .i64 z, .slice A1 n1 c1, .slice A2 n2 c2, .slice A3 n3 c3])) w :=
 qat 27 x ho p hx _ _ hL uGn2 rfl (iGn2 z A1 A2 A3 n1 n2 n3 c1 c2 c3)
structure HandsA (w : World) (l : List Nod) (v : Value) (z : Int) (A1 A2 A3 : Option Addr) (q m n3 c1 c2 c3 : Nat) (ss : List Sty) (fs : List Fnt) (at_ : List Int) : Prop where
 made : ∀ W u x, Below w.heap.size w W -> Ns W u x -> WfL x -> Calls Tryz.prog 7 #[u] W (qfp x W)
 great : ∀ W, Below w.heap.size w W -> Calls Tryz.prog 8 #[v, .agg #[.int .i64 z, .slice A1 q c1, .slice A2 m c2, .slice A3 n3 c3]] W fun e w' => e = .returned (.bool (greatV l ss.length fs n3)) /\ Below W.heap.size W w'
 head : ∀ W, Below w.heap.size w W -> Calls Tryz.prog 9 #[] W fun e w' => e = .returned (.bool true) /\ Below W.heap.size W w'
 ctx : ∀ W (b : Nat), Below w.heap.size w W -> chkT l = 0 -> l.length <= 40 -> b < l.length -> Calls Tryz.prog 11 #[v, .int .i64 (b : Int)] W fun e w' => e = .returned (.int .i64 (Ar.ctx l b : Nat)) /\ W = w'
 cells : ∀ W p x, Below w.heap.size w W -> Tr W p x -> chkT x = 0 -> x.length <= 40 -> ss.length <= 60 -> (∀ y ∈ x, y.t.size <= 160) -> Calls Tryz.prog 10 #[p, .int .i64 z, .slice A1 q c1, .slice A2 m c2, .slice A3 n3 c3] W (CellsGen x z ss fs at_ W)
theorem handsA_any (l : List Nod) (v : Value) (z : Int) (A1 A2 A3 : Option Addr) (c1 c2 c3 : Nat) (ss : List Sty) (fs : List Fnt) (at_ : List Int) (w : World) (hN : Ns w v l) (hW : WfL l) (hn : l.length <= 9223372036854775807) (hM : Ms w (.slice A1 ss.length c1) (.slice A2 fs.length c2) (.slice A3 at_.length c3) ss fs at_) (h64 : ∀ s ∈ ss, W64 s.a6)
 (hs : ss.length <= 9223372036854775807) (hf : fs.length <= 9223372036854775807) (ha : at_.length <= 9223372036854775807) (hT : Tbs w) : HandsA w l v z A1 A2 A3 ss.length fs.length at_.length c1 c2 c3 ss fs at_ where
 made W u x b hu hx := qse x u W hu hx (hT.below b).ar
 great W b := cgreatv_any l v z A1 A2 A3 at_.length c1 c2 c3 ss fs W (hN.below b) hn (hM.f.below b) hf hs ha
 head W b := qsl W (hT.below b)
 ctx W b hb hg h40 hlt := cctx_any l v b W (hN.below hb) ((qci l).1 hg).tre (by omega) hlt (good8 ((qci l).1 hg) hW)
 cells W p x b h hg h40 hss hmt := ccells_gen p x z A1 A2 A3 c1 c2 c3 ss fs at_ W h hg h40 hss hmt (hT.below b) (hM.below b) h64
theorem rgA {P : Program} {ops : Array Oper} {Q : Exit -> Act -> World -> Prop} {id : Nat} {a : Act} {w : World} (hm : P.follows .mixedOrders = true) (h : ∀ R : Act -> Prop, Hid (∀ a', (∀ w', Below w.heap.size w w' -> Q .normal a' w') -> R a') -> AllS P .any ops (fun W => Below w.heap.size w W) R ops.size (lst ops.size 0) a) : (Code.region id ops true).wp P Q a w :=
 qax hm _ (below_drewN (Below.refl _ _) 1) fun R hR => AllS.start (h R hR)
theorem tup3_inj {a b a' b' : Value} {f f' : Int} (h : Ending.returned (.tuple #[a, b, .int .i64 f]) = .returned (.tuple #[a', b', .int .i64 f'])) : a = a' /\ b = b' /\ f = f' := by
 injection h with h
 injection h with h
 simpa using h
theorem inl_lines {k : Int} (h : inl k = true) : tb tLines k = true := by
 unfold inl at h
 simp only [Bool.or_eq_true, decide_eq_true_eq] at h
 rcases h with (((h | h) | h) | h) | h <;> subst h <;> rfl
theorem apart_same {l : List Nod} {ss : List Sty} {fs : List Fnt} {at_ : List Int} {z : Int} {n : Nat} {x : Nod} (hG : Ar.Good l) (hx : l[n]? = some x) (h1 : x.k = 1) (t : ByteArray) (hc : ((Ar.ctx l n : Nat) : Int) ≠ z) {e e' : Ending} {w1 w1' w2 w2' : World} (h : CellsGen l z ss fs at_ w1 e w1') (h' : CellsGen (l.set n { x with t := t }) z ss fs at_ w2 e' w2') :
 ∃ u1 u2 v1 v2 f, e = .returned (.tuple #[u1, u2, .int .i64 f]) /\ e' = .returned (.tuple #[v1, v2, .int .i64 f]) /\ ∃ cs cl, RwC w1' u1 cs /\ qkj w1' u2 cl /\ RwC w2' v1 cs /\ qkj w2' v2 cl /\ ((∃ k : Nat, k < l.length /\ cs = csL ss l k /\ cl = cellL ss fs at_ l k) \/ cs = [] /\ cl = []) := by
 have hF := F2.set hx h1 t
 rcases h with ⟨⟨k, rfl, hO, u1, u2, rfl, hC, hU⟩ | ⟨hno, rfl⟩, _⟩ <;> rcases h' with ⟨⟨k', hk', hO', v1, v2, rfl, hC', hU'⟩ | ⟨hno', rfl⟩, _⟩
 ·obtain rfl : k = k' := by omega
  have hinl := hO.inl
  have hn : ¬ Own2 (psOf l) (bxL l) k n := fun hown => hc (by
   rw [own_ctx hG.tre ?_ hown]
   unfold qav
   rw [Int.toNat_natCast]
   exact inl_lines hinl)
  rw [cs_turn hG.tre hx h1 t hn] at hC'
  rw [cell_turn hG.tre hx h1 t hn] at hU'
  exact ⟨_, _, _, _, _, rfl, rfl, _, _, hC, hU, hC', hU', .inl ⟨k, hO.lt, rfl, rfl⟩⟩
 ·exact absurd ⟨k, rfl, (okc_turn hx h1 t).2 hO⟩ hno'
 ·exact absurd ⟨k', hk', (okc_turn hx h1 t).1 hO'⟩ hno
 ·rw [hF.len]
  exact ⟨_, _, _, _, _, rfl, rfl, [], [], .inl ⟨rfl, rfl⟩, .inl ⟨rfl, rfl⟩, .inl ⟨rfl, rfl⟩, .inl ⟨rfl, rfl⟩, .inr ⟨rfl, rfl⟩⟩
theorem lawApart_any (l : List Nod) (nn : Nat) (nz : Int) (nl c0 : Nat) (A0 : Option Addr) (z : Int) (A1 A2 A3 : Option Addr) (q m n3 c1 c2 c3 : Nat) (ss : List Sty) (fs : List Fnt) (at_ : List Int) (w : World) (hN : Ns w (.slice A0 nl c0) l) (hnl : l.length = nl) (hWf : WfL l) (hnz : 0 <= nz -> nz = nn) (hH : HandsA w l (.slice A0 nl c0) z A1 A2 A3 q m n3 c1 c2 c3 ss fs at_) :
 Calls Tryz.prog 5 #[.slice A0 nl c0, .agg #[.int .i64 z, .slice A1 q c1, .slice A2 m c2, .slice A3 n3 c3], .int .i64 nz] w fun e w' => e = .returned (.bool true) /\ Below w.heap.size w w' := by
 have HH := Lib.hid hH
 have HNS := Lib.hid hN
 have HNL := Lib.hid hnl
 have HWF := Lib.hid hWf
 clear hH hN hnl hWf
 go_enter Tryz.func5, Tryz.ntmps5
 go_wp2_with (refine q0u rfl (.tmp 1) rfl z A1 A2 A3 q m n3 c1 c2 c3 rfl ?_; intro w1 b1 B1; refine Mk.out ?_)
 constructor
 obtain ⟨g, hg⟩ : ∃ g, w.heap.size = g := ⟨_, rfl⟩
 rw [hg] at B1 |-
 have HB1 := Lib.hid b1
 have HBB := Lib.hid B1
 have HG := Lib.hid hg
 clear b1 B1 hg
 go_wp2_with fail
 refine (HH.out.made _ _ l HB1.out (HNS.out.below HB1.out) HWF.out).mono ?_
 rintro e w2 ⟨hmade, b2⟩
 have HB2 := Lib.hid (below_seq HB1.out b2)
 have B2 := HBB.out.keep (S := fun _ => False) (Mod.of_below b2) id
 have HBB2 := Lib.hid B2
 clear b2 B2
 have tl : ∀ W, Below w.heap.size w W -> Calls Tryz.prog 9 #[] W fun e w' => e = .returned (.bool true) /\ Below w.heap.size w w' := fun W b => (HH.out.head W b).mono fun e w' ⟨q1, q2⟩ => ⟨q1, below_seq b q2⟩
 have TL := Lib.hid tl
 clear tl
 obtain ⟨pt, hpt⟩ : ∃ pt, e = .returned (.pointer pt) := by
  rcases hmade with ⟨_, p, rfl, _⟩ | ⟨_, rfl⟩ <;> exact ⟨_, rfl⟩
 subst hpt
 have HM := Lib.hid hmade
 clear hmade
 obtain ⟨gv, hgv⟩ : ∃ gv, greatV l ss.length fs n3 = gv := ⟨_, rfl⟩
 have HGV := Lib.hid hgv
 have CG : Hid (∀ W, Below w2.heap.size w2 W -> Calls Tryz.prog 8 #[.slice A0 nl c0, .agg #[.int .i64 z, .slice A1 q c1, .slice A2 m c2, .slice A3 n3 c3]] W fun e w' => e = .returned (.bool gv) /\ Below w2.heap.size w2 w') := Lib.hid fun W b => (HH.out.great W (below_seq HB2.out b)).mono fun e w' ⟨q1, q2⟩ => ⟨by rw [q1, hgv], below_seq b q2⟩
 have HLG : Hid (∀ W, Below w2.heap.size w2 W -> qar W ⟨g, 0, none⟩ #[.int .i64 z, .slice A1 q c1, .slice A2 m c2, .slice A3 n3 c3]) := Lib.hid fun W b => (HBB2.out.keep (S := fun _ => False) (Mod.of_below b) id).lies
 clear hgv
 go_wp2_with fail
 refine rgA (by kernel_rfl) fun R hR => ?_
 refine AllS.t ?_
 refine AllS.r (.agg #[.int .i64 z, .slice A1 q c1, .slice A2 m c2, .slice A3 n3 c3]) (fun W hSw => ?_) ?_
 ·exact rdGn (.tmp 4) rfl _ rfl z A1 A2 A3 q m n3 c1 c2 c3 (HLG.out W hSw)
 refine AllS.c (.bool gv) 8 _ (fun W hSw => CG.out W hSw) ?_
 refine AllS.t ?_
 cases gv with
 | true =>
   iterate 2 refine AllS.u ?_
   iterate 2 refine AllS.t ?_
   iterate 2 refine AllS.u ?_
   iterate 2 refine AllS.t ?_
   iterate 4 refine AllS.u ?_
   iterate 2 refine AllS.t ?_
   iterate 6 refine AllS.u ?_
   iterate 2 refine AllS.t ?_
   iterate 6 refine AllS.u ?_
   refine AllS.t ?_
   refine AllS.done (by kernel_rfl) (hR.out _ fun w3 hb3 => ?_) _
   clear hR R
   have HB3 := Lib.hid (below_seq HB2.out hb3)
   clear hb3
   go_wp2_with fail
   refine (TL.out _ HB3.out).mono ?_
   rintro e w4 ⟨rfl, b4⟩
   go_wp2_with fail
   go_ret
   exact ⟨rfl, b4⟩
 | false =>
   cases pt with
   | none =>
     iterate 4 refine AllS.t ?_
     iterate 2 refine AllS.u ?_
     iterate 2 refine AllS.t ?_
     iterate 4 refine AllS.u ?_
     iterate 2 refine AllS.t ?_
     iterate 6 refine AllS.u ?_
     iterate 2 refine AllS.t ?_
     iterate 6 refine AllS.u ?_
     refine AllS.t ?_
     refine AllS.done (by kernel_rfl) (hR.out _ fun w3 hb3 => ?_) _
     clear hR R
     have HB3 := Lib.hid (below_seq HB2.out hb3)
     clear hb3
     go_wp2_with fail
     refine (TL.out _ HB3.out).mono ?_
     rintro e w4 ⟨rfl, b4⟩
     go_wp2_with fail
     go_ret
     exact ⟨rfl, b4⟩
   | some p =>
     have hsm := greatV_small HGV.out
     obtain ⟨hch, htr⟩ : chkT l = 0 /\ Tr w2 (.pointer (some p)) l := by
      rcases HM.out with ⟨h0, p', he, h2⟩ | ⟨_, he⟩
      ·injection he with he
       injection he with he
       injection he with he
       subst he
       exact ⟨h0, h2⟩
      ·injection he with he
       injection he with he
       cases he
     have HCH := Lib.hid hch
     have HTR := Lib.hid htr
     have HSM := Lib.hid hsm
     clear hsm hch htr HM HGV
     iterate 4 refine AllS.t ?_
     by_cases hz0 : nz < 0
     ·have hd1 : decide (nz < 0) = true := decide_eq_true hz0
      refine AllS.t ?_
      refine AllS.r (.bool true) (fun W hSw => ?_) ?_
      ·have hq := hd1; go_simp
      iterate 2 refine AllS.t ?_
      iterate 4 refine AllS.u ?_
      iterate 2 refine AllS.t ?_
      iterate 6 refine AllS.u ?_
      iterate 2 refine AllS.t ?_
      iterate 6 refine AllS.u ?_
      refine AllS.t ?_
      refine AllS.done (by kernel_rfl) (hR.out _ fun w3 hb3 => ?_) _
      clear hR R
      have HB3 := Lib.hid (below_seq HB2.out hb3)
      clear hb3
      go_wp2_with fail
      refine (TL.out _ HB3.out).mono ?_
      rintro e w4 ⟨rfl, b4⟩
      go_wp2_with fail
      go_ret
      exact ⟨rfl, b4⟩
     obtain rfl := hnz (by omega)
     have hd1 : decide ((nn : Int) < 0) = false := decide_eq_false (by omega)
     have hn0 : (0 : Int) <= nn := by omega
     clear hnz hz0
     refine AllS.t ?_
     refine AllS.r (.bool false) (fun W hSw => ?_) ?_
     ·have hq := hd1; go_simp
     iterate 2 refine AllS.t ?_
     by_cases hlt : nl <= nn
     ·have hd2 : decide ((nl : Int) <= (nn : Int)) = true := decide_eq_true (by omega)
      iterate 3 refine AllS.t ?_
      refine AllS.r (.bool true) (fun W hSw => ?_) ?_
      ·have hq := hd2; go_simp
      iterate 2 refine AllS.t ?_
      iterate 6 refine AllS.u ?_
      iterate 2 refine AllS.t ?_
      iterate 6 refine AllS.u ?_
      refine AllS.t ?_
      refine AllS.done (by kernel_rfl) (hR.out _ fun w3 hb3 => ?_) _
      clear hR R
      have HB3 := Lib.hid (below_seq HB2.out hb3)
      clear hb3
      go_wp2_with fail
      refine (TL.out _ HB3.out).mono ?_
      rintro e w4 ⟨rfl, b4⟩
      go_wp2_with fail
      go_ret
      exact ⟨rfl, b4⟩
     have hd2 : decide ((nl : Int) <= (nn : Int)) = false := decide_eq_false (by omega)
     have hnlt : nn < nl := by omega
     have hnz2 : (nn : Int) < nl := by omega
     clear hlt
     iterate 3 refine AllS.t ?_
     refine AllS.r (.bool false) (fun W hSw => ?_) ?_
     ·have hq := hd2; go_simp
     iterate 2 refine AllS.t ?_
     obtain ⟨x, hx⟩ := qex (l := l) (i := nn) (by rw [HNL.out]; exact hnlt)
     obtain ⟨aN, capN, oN, hvN, _, haN, hLN⟩ := HNS.out.get HB2.out hx
     rw [HNL.out] at hvN
     injection hvN with e1 _ e2
     subst e1 e2
     have HX := Lib.hid hx
     obtain ⟨xk, hxk⟩ : ∃ xk, x.k = xk := ⟨_, rfl⟩
     have HXK := Lib.hid hxk
     have CC : Hid (∀ W, Below w2.heap.size w2 W -> Calls Tryz.prog 11 #[.slice (some aN) nl c0, .int .i64 (nn : Int)] W fun e w' => e = .returned (.int .i64 (ctx l nn : Nat)) /\ Below w2.heap.size w2 w') := Lib.hid fun W b => (HH.out.ctx W nn (below_seq HB2.out b) HCH.out HSM.out.1 (by rw [HNL.out]; exact hnlt)).mono fun e w' ⟨q1, q2⟩ => ⟨q1, by rw [<- q2]; exact b⟩
     have KC : Hid (∀ W, Below w2.heap.size w2 W -> W.cell? ⟨aN.block, oN, none⟩ = some (.int .u8 xk) /\ W.cell? ⟨g, 0, none⟩ = some (.int .i64 z)) := Lib.hid fun W hW => by
      refine ⟨?_, (HBB2.out.keep (S := fun _ => False) (Mod.of_below hW) id).cell 0⟩
      have := (hLN.below hW).at_ 0 rfl
      rw [<- hxk]; exact this
     clear hx hLN hxk
     by_cases hk1 : xk = 1
     rotate_left
     ·have hd3 : (!(xk == 1)) = true := by simpa using hk1
      iterate 4 refine AllS.t ?_
      refine AllS.f KC.out ?_
      refine AllS.r (.bool true) (fun W hSw => ?_) ?_
      ·have hq := hd3; go_simp
      iterate 2 refine AllS.t ?_
      iterate 6 refine AllS.u ?_
      refine AllS.t ?_
      refine AllS.done (by kernel_rfl) (hR.out _ fun w3 hb3 => ?_) _
      clear hR R
      have HB3 := Lib.hid (below_seq HB2.out hb3)
      clear hb3
      go_wp2_with fail
      refine (TL.out _ HB3.out).mono ?_
      rintro e w4 ⟨rfl, b4⟩
      go_wp2_with fail
      go_ret
      exact ⟨rfl, b4⟩
     subst hk1
     have hd3 : (!((1 : Int) == 1)) = false := rfl
     iterate 4 refine AllS.t ?_
     refine AllS.f KC.out ?_
     refine AllS.r (.bool false) (fun W hSw => ?_) ?_
     ·have hq := hd3; go_simp
     iterate 2 refine AllS.t ?_
     by_cases hcz : ((ctx l nn : Nat) : Int) = z
     ·have hd4 : (((ctx l nn : Nat) : Int) == z) = true := by simpa using hcz
      iterate 2 refine AllS.t ?_
      refine AllS.c (.int .i64 (ctx l nn : Nat)) 11 _ (fun W hSw => CC.out W hSw) ?_
      refine AllS.t ?_
      refine AllS.f KC.out ?_
      refine AllS.r (.bool true) (fun W hSw => ?_) ?_
      ·have hq := hd4; go_simp
      refine AllS.t ?_
      refine AllS.done (by kernel_rfl) (hR.out _ fun w3 hb3 => ?_) _
      clear hR R
      have HB3 := Lib.hid (below_seq HB2.out hb3)
      clear hb3
      go_wp2_with fail
      refine (TL.out _ HB3.out).mono ?_
      rintro e w4 ⟨rfl, b4⟩
      go_wp2_with fail
      go_ret
      exact ⟨rfl, b4⟩
     have hd4 : (((ctx l nn : Nat) : Int) == z) = false := by simpa using hcz
     have HCZ := Lib.hid hcz
     clear hcz
     iterate 2 refine AllS.t ?_
     refine AllS.c (.int .i64 (ctx l nn : Nat)) 11 _ (fun W hSw => CC.out W hSw) ?_
     refine AllS.t ?_
     refine AllS.f KC.out ?_
     refine AllS.r (.bool false) (fun W hSw => ?_) ?_
     ·have hq := hd4; go_simp
     refine AllS.t ?_
     refine AllS.done (by kernel_rfl) (hR.out _ fun w3 hb3 => ?_) _
     clear hR R
     have HB3 := Lib.hid (below_seq HB2.out hb3)
     clear CG CC KC HLG hd1 hd2 hd3 hd4
     have HTR3 := Lib.hid (HTR.out.below hb3)
     have B3 := HBB2.out.keep (S := fun _ => False) (Mod.of_below hb3) id
     have HBB3 := Lib.hid B3
     obtain ⟨hm1, hm2⟩ := qtr HCH.out HSM.out
     have hq60 := HSM.out.2.2.1
     have HSS := Lib.hid hq60
     have H40 := Lib.hid hm1
     have HMT := Lib.hid hm2
     clear hb3 HTR HBB2 hm1 hm2 hq60
     have h0 := B3.cell 0
     have h1 := B3.cell 1
     have h2 := B3.cell 2
     have h3 := B3.cell 3
     simp only [List.getElem?_toArray, List.getElem?_cons_succ, List.getElem?_cons_zero] at h0 h1 h2 h3
     clear B3
     go_wp2_with fail
     refine (HH.out.cells _ _ l HB3.out HTR3.out HCH.out H40.out HSS.out (fun y hy => by have := HMT.out y hy; omega)).mono ?_
     clear h0 h1 h2 h3
     rintro e w4 hgen
     have HGEN := Lib.hid hgen
     have HB4 := Lib.hid (below_seq HB3.out hgen.2)
     have B4 := HBB3.out.keep (S := fun _ => False) (Mod.of_below hgen.2) id
     have HBB4 := Lib.hid B4
     obtain ⟨u1, u2, f, rfl⟩ : ∃ u1 u2 f, e = .returned (.tuple #[u1, u2, .int .i64 f]) := by
      rcases hgen.1 with ⟨k, _, _, u1, u2, rfl, _⟩ | ⟨_, rfl⟩ <;> exact ⟨_, _, _, rfl⟩
     clear hgen B4
     obtain ⟨i0, hi, hz0, hz1, hz2⟩ := qbl infoN
     have hfl := qr5 l
     rw [HNL.out] at hfl
     have hbs := bsN0 w4
     have hnl40 : nl <= 40 := by have := H40.out; rw [HNL.out] at this; exact this
     have HN4 := Lib.hid (HNS.out.below HB4.out)
     go_wp2_with (refine wpList_append_own _ rfl (.tmp 70) (.tmp 71) 22 rfl w4.heap.size 50 i0 (.agg Nod.zero.cells) 22 160 Tryz.underlying22 hi hz0 hz1 hz2 rfl (by decide) _ 0 [] rfl (qn8 w4 w4.heap.size (Nat.le_refl _)) aN nl c0 (qiq l) rfl hfl (fun j u hu => (HN4.out.below (below_alloc w4 _)).flat j u hu) (qr4 l) (by unfold maxLen; omega) (by omega) (by simp) ?_; intro v6 w6 O6 hgrow _; refine Mk.out ?_)
     constructor
     have b6 := (below_alloc w4 _).trans (below_grown hgrow (by simp) (fun g hg => by cases hg; exact Nat.le_refl _))
     rw [Nat.zero_add, List.nil_append, <- HNL.out] at O6
     have HB6 : Hid (Below w4.heap.size w4 w6) := Lib.hid b6
     obtain ⟨g6, c6, cur, hv6, hgb, HBL, hsz, HST⟩ := own_text O6 HX.out
     rw [HNL.out] at hv6
     subst hv6
     have HBL := Lib.hid HBL
     have HST := Lib.hid HST
     clear O6 b6 hgrow hfl hbs hi hz0 hz1 hz2
     go_wp2_with (refine qbr rfl 9 (.tmp 76) _ rfl rfl g6 (nn * 22 + 2) (by first | rfl | (simp [go_sem])) (.string ⟨#[116, 117, 114, 110, 101, 100, 32]⟩) rfl rfl rfl (by kernel_rfl) _ _ HBL.out hsz ?_; intro w7 m7 B7; refine Mk.out ?_)
     constructor
     have HBA : Hid (Below w4.heap.size w4 w7) := Lib.hid (HB6.out.trans (m7.below HB6.out.size fun k hk => by rw [hk]; exact hgb))
     have HN7 := Lib.hid (HST.out ⟨#[116, 117, 114, 110, 101, 100, 32]⟩ w7 B7)
     have HB7 := Lib.hid (below_seq HB4.out HBA.out)
     have B7g := HBB4.out.keep (S := fun _ => False) (Mod.of_below HBA.out) id
     have HBB7 := Lib.hid B7g
     clear m7 B7 HBL HST hsz hgb B7g HB6
     go_wp2_with fail
     refine (HH.out.made _ _ _ HB7.out HN7.out (wfL_set HWF.out HX.out (by decide))).mono ?_
     rintro e w8 ⟨hm8, b8⟩
     have hG := (qci l).1 HCH.out
     have hF := F2.set HX.out HXK.out ⟨#[116, 117, 114, 110, 101, 100, 32]⟩
     have hsum := small_turn HX.out ⟨#[116, 117, 114, 110, 101, 100, 32]⟩ (by decide) HSM.out hG.sum
     have hch := hF.chk HCH.out (by omega)
     obtain ⟨p8, rfl, htr⟩ : ∃ p8, e = .returned (.pointer (some p8)) /\ Tr w8 (.pointer (some p8)) (l.set nn { x with t := ⟨#[116, 117, 114, 110, 101, 100, 32]⟩ }) := by
      rcases hm8 with ⟨_, p8, rfl, htr⟩ | ⟨hne, _⟩
      ·exact ⟨_, rfl, htr⟩
      ·exact absurd hch hne
     have HTR8 := Lib.hid htr
     have HCH8 := Lib.hid hch
     have HMT8 : Hid (∀ y ∈ l.set nn { x with t := ⟨#[116, 117, 114, 110, 101, 100, 32]⟩ }, y.t.size <= 160) := Lib.hid fun y hy => by
      obtain ⟨i, hi⟩ := List.mem_iff_getElem?.1 hy
      exact Nat.le_trans (qku hi) (by omega)
     have HL8 := Lib.hid hF.len
     have B8 := HBB7.out.keep (S := fun _ => False) (Mod.of_below b8) id
     have HB8 := Lib.hid (below_seq HB7.out b8)
     have HBF := Lib.hid (HBA.out.trans (b8.mono HBA.out.size))
     clear hm8 b8 hG hF hsum hch htr
     have h0 := B8.cell 0
     have h1 := B8.cell 1
     have h2 := B8.cell 2
     have h3 := B8.cell 3
     simp only [List.getElem?_toArray, List.getElem?_cons_succ, List.getElem?_cons_zero] at h0 h1 h2 h3
     clear B8
     go_wp2_with fail
     refine (HH.out.cells _ _ _ HB8.out HTR8.out HCH8.out (by rw [HL8.out]; exact H40.out) HSS.out HMT8.out).mono ?_
     clear h0 h1 h2 h3
     rintro e w9 hgen
     have HB9 := Lib.hid (below_seq HB8.out hgen.2)
     have HBE := Lib.hid (HBF.out.trans (hgen.2.mono HBF.out.size))
     obtain ⟨u1', u2', v1, v2, f', he, rfl, cs, cl, hC, hU, hC', hU', hcs⟩ := apart_same ((qci l).1 HCH.out) HX.out HXK.out _ HCZ.out HGEN.out hgen
     obtain ⟨rfl, rfl, rfl⟩ := tup3_inj he
     have hlen : cs.length <= 1048576 /\ cl.length <= 1048576 := by
      rcases hcs with ⟨k, hk, rfl, rfl⟩ | ⟨rfl, rfl⟩
      ·obtain ⟨g1, g2⟩ := qwf (ss := ss) (fs := fs) (at_ := at_) ((qci l).1 HCH.out).tre hk H40.out HMT.out
       exact ⟨by omega, by omega⟩
      ·exact ⟨Nat.zero_le _, Nat.zero_le _⟩
     have CS : Hid (∀ W, Below w9.heap.size w9 W -> Calls Tryz.prog 15 #[u1, v1] W fun e w' => e = .returned (.bool true) /\ Below W.heap.size W w') := Lib.hid fun W b => same8_refl u1 v1 cs W (hC.below (HBE.out.trans (b.mono HBE.out.size))) (hC'.below b) hlen.1
     have CU : Hid (∀ W, Below w9.heap.size w9 W -> Calls Tryz.prog 16 #[u2, v2] W fun e w' => e = .returned (.bool true) /\ Below W.heap.size W w') := Lib.hid fun W b => (qsc u2 v2 cl cl W (hU.below (HBE.out.trans (b.mono HBE.out.size))) (hU'.below b) hlen.2).mono fun e w' h => ⟨by rw [h.1, decide_eq_true rfl], h.2⟩
     clear hgen he hC hU hC' hU' hcs hlen HGEN
     have hff : (f == f) = true := beq_self_eq_true f
     go_wp2_with fail
     refine (cchars_nil _).mono ?_
     rintro e w10 ⟨rfl, b10⟩
     have HBX := Lib.hid b10
     clear b10
     go_wp2_with fail
     refine (crules_nil _).mono ?_
     rintro e w11 ⟨rfl, rfl⟩
     go_wp2_with fail
     refine (CS.out _ HBX.out).mono ?_
     rintro e w12 ⟨rfl, b12⟩
     have HBX := Lib.hid (below_seq HBX.out b12)
     clear b12
     go_wp2_with fail
     refine (CU.out _ HBX.out).mono ?_
     rintro e w13 ⟨rfl, b13⟩
     have HBX := Lib.hid (below_seq HBX.out b13)
     clear b13
     go_wp2_with fail
     refine (TL.out _ (below_seq HB9.out HBX.out)).mono ?_
     rintro e w14 ⟨rfl, b14⟩
     have HB14 := Lib.hid b14
     clear b14
     go_wp2_with fail
     go_ret
     exact ⟨rfl, HB14.out⟩
end Go.Proofs.YtmceblkjbpbcoaaGreatDoor.Ce
