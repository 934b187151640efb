/- Contracts of layers below. -/
import Derived.Test.YtmceblkjbpbcoaaGreatDoorPBase
import Derived.Test.YtmceblkjbpbcoaaGreatDoorPYLaws
import Derived.Test.YtmceblkjbpbcoaaGreatDoorPY5
namespace Go.Proofs.YtmceblkjbpbcoaaGreatDoor
set_option maxRecDepth 100000
set_option maxHeartbeats 1000000
open Go.ChangeShapes Go.WideShapes Go.ChangeAt Go.RowKit
namespace Ar
def pr (ps : List Int) (i : Nat) : Int := ps.getD i (-1)
inductive Abv (ps : List Int) (a : Nat) : Nat -> Prop
 | refl : Abv ps a a
 | up {b : Nat} : 0 <= pr ps b -> Abv ps a (pr ps b).toNat -> Abv ps a b
structure Tre (ps : List Int) : Prop where
 pos : 0 < ps.length
 root : pr ps 0 = -1
 par : ∀ i, 0 < i -> i < ps.length -> 0 <= pr ps i /\ pr ps i < i /\ Abv ps (pr ps i).toNat (i - 1)
theorem pr_out (ps : List Int) (i : Nat) (h : ps.length <= i) : pr ps i = -1 := by
 unfold pr
 rw [xal, List.getElem?_eq_none h]
 rfl
section
variable {ps : List Int}
theorem Tre.lt (h : Tre ps) (i : Nat) (h0 : 0 <= pr ps i) : (pr ps i).toNat < i /\ i < ps.length /\ 0 < i := by
 have hi : i < ps.length := by
  rcases Nat.lt_or_ge i ps.length with h1 | h1
  ·exact h1
  ·rw [pr_out ps i h1] at h0; omega
 have hp : 0 < i := by
  rcases Nat.eq_zero_or_pos i with rfl | h1
  ·rw [h.root] at h0; omega
  ·exact h1
 have := h.par i hp hi
 omega
theorem Abv.trans {a b c : Nat} (h1 : Abv ps a b) (h2 : Abv ps b c) : Abv ps a c := by
 induction h2 with
 | refl => exact h1
 | up h0 _ ih => exact .up h0 ih
theorem Abv.le (h : Tre ps) {a b : Nat} (h1 : Abv ps a b) : a <= b := by
 induction h1 with
 | refl => exact xat
 | up h0 _ ih => have := h.lt _ h0; omega
theorem Abv.parent {a b : Nat} (h1 : Abv ps a b) (hne : a ≠ b) : 0 <= pr ps b /\ Abv ps a (pr ps b).toNat := by
 cases h1 with
 | refl => exact absurd rfl hne
 | up h0 h2 => exact ⟨h0, h2⟩
theorem Abv.qiy (h : Tre ps) {a b : Nat} (h1 : Abv ps a b) (h2 : Abv ps b a) : a = b := Nat.le_antisymm (h1.le h) (h2.le h)
theorem Abv.total {a b c : Nat} (h1 : Abv ps a c) (h2 : Abv ps b c) : Abv ps a b \/ Abv ps b a := by
 induction h1 with
 | refl => exact .inr h2
 | up h0 h3 ih =>
   rename_i c
   by_cases e : b = c
   ·subst e
    exact .inl (.up h0 h3)
   ·exact ih (h2.parent e).2
theorem Abv.root (h : Tre ps) : ∀ b, b < ps.length -> Abv ps 0 b := by
 intro b
 induction b using Nat.strongRecOn with
 | ind b ih =>
   intro hb
   rcases Nat.eq_zero_or_pos b with rfl | hp
   ·exact .refl
   ·obtain ⟨h1, h2, _⟩ := h.par b hp hb
    exact .up h1 (ih _ (by omega) (by omega))
theorem Abv.between (h : Tre ps) {a : Nat} : ∀ c, c < ps.length -> Abv ps a c -> ∀ b, a <= b -> b <= c -> Abv ps a b := by
 intro c
 induction c with
 | zero =>
   intro _ h1 b hb hc
   have : a = 0 := by have := h1.le h; omega
   have : b = 0 := by omega
   subst this
   exact h1
 | succ c ih =>
   intro hcl h1 b hb hc
   by_cases e : b = c + 1
   ·rw [e]; exact h1
   ·by_cases ea : a = c + 1
    ·omega
    ·obtain ⟨h0, h2⟩ := h1.parent ea
     obtain ⟨_, _, h3⟩ := h.par (c + 1) (by omega) hcl
     exact ih (by omega) (h2.trans h3) b hb (by omega)
structure EndOf (ps : List Int) (a e : Nat) : Prop where
 lt : a < e
 le : e <= ps.length
 all : ∀ b, a <= b -> b < e -> Abv ps a b
 non : e < ps.length -> ¬ Abv ps a e
theorem EndOf.out (h : Tre ps) {a e : Nat} (he : EndOf ps a e) {b : Nat} (hb : b < ps.length) : Abv ps a b ↔ a <= b /\ b < e := by
 constructor
 ·intro h1
  refine ⟨h1.le h, ?_⟩
  rcases Nat.lt_or_ge b e with h2 | h2
  ·exact h2
  ·have hel : e < ps.length := by omega
   exact absurd (Abv.between h b hb h1 e (Nat.le_of_lt he.lt) h2) (he.non hel)
 ·intro ⟨h1, h2⟩
  exact he.all b h1 h2
theorem EndOf.uniq {a e e' : Nat} (h1 : EndOf ps a e) (h2 : EndOf ps a e') : e = e' := by
 rcases Nat.lt_trichotomy e e' with h3 | h3 | h3
 ·have hl : e < ps.length := by have := h2.le; omega
  exact absurd (h2.all e (Nat.le_of_lt h1.lt) h3) (h1.non hl)
 ·exact h3
 ·have hl : e' < ps.length := by have := h1.le; omega
  exact absurd (h1.all e' (Nat.le_of_lt h2.lt) h3) (h2.non hl)
theorem EndOf.qlc (a : Nat) (ha : a < ps.length) : ∃ e, EndOf ps a e := by
 have key : ∀ n e, a < e -> e + n = ps.length -> (∀ b, a <= b -> b < e -> Abv ps a b) -> ∃ e', EndOf ps a e' := by
  intro n
  induction n with
  | zero =>
    intro e h1 h2 h3
    exact ⟨e, h1, by omega, h3, fun h => by omega⟩
  | succ n ih =>
    intro e h1 h2 h3
    by_cases h4 : Abv ps a e
    ·exact ih (e + 1) (by omega) (by omega) fun b hb1 hb2 => by
      by_cases e1 : b = e
      ·rw [e1]; exact h4
      ·exact h3 b hb1 (by omega)
    ·exact ⟨e, h1, by omega, h3, fun _ => h4⟩
 exact key (ps.length - (a + 1)) (a + 1) (by omega) (by omega) fun b hb1 hb2 => by
  have : b = a := by omega
  rw [this]; exact .refl
theorem EndOf.mono (h : Tre ps) {a b e f : Nat} (hab : Abv ps a b) (ha : EndOf ps a e) (hb : EndOf ps b f) : f <= e := by
 rcases Nat.lt_or_ge e f with h1 | h1
 ·have hl : e < ps.length := by have := hb.le; omega
  have hbe : b < e := by
   have hbl : b < ps.length := by have := hb.lt; have := hb.le; omega
   exact ((ha.out h hbl).1 hab).2
  exact absurd (hab.trans (hb.all e (Nat.le_of_lt hbe) h1)) (ha.non hl)
 ·exact h1
theorem qro (h : Tre ps) {a e : Nat} (ha : EndOf ps a e) (h1 : a + 1 < e) : pr ps (a + 1) = a := by
 have hl : a + 1 < ps.length := by have := ha.le; omega
 have h2 := ha.all (a + 1) (by omega) h1
 obtain ⟨h0, h3⟩ := h2.parent (by omega)
 obtain ⟨_, _, h4⟩ := h.par (a + 1) (by omega) hl
 have := Abv.qiy h h4 h3
 omega
theorem qvb (h : Tre ps) {a e k f : Nat} (ha : EndOf ps a e) (hk : pr ps k = a) (hf : EndOf ps k f) (h1 : f < e) : pr ps f = a := by
 have hl : f < ps.length := by have := ha.le; omega
 have hkl : k < ps.length := by have := hf.lt; omega
 have hka : a < k := by have := h.lt k (by omega); omega
 have hfk := hf.lt
 have haf := ha.all f (by omega) h1
 obtain ⟨h0, h3⟩ := haf.parent (by omega)
 obtain ⟨_, h5, h4⟩ := h.par f (by omega) hl
 have hkf := hf.all (f - 1) (by omega) (by omega)
 rcases hkf.total h4 with h6 | h6
 ·exact absurd (Abv.up h0 h6) (hf.non hl)
 ·by_cases e1 : (pr ps f).toNat = k
  ·exact absurd (Abv.up h0 (by rw [e1]; exact .refl)) (hf.non hl)
  ·obtain ⟨_, h7⟩ := h6.parent e1
   rw [hk, xax] at h7
   have := Abv.qiy h h3 h7
   omega
theorem qxk (h : Tre ps) {a e k : Nat} (ha : EndOf ps a e) (hk : pr ps k = a) : a < k /\ k < e /\ k < ps.length := by
 obtain ⟨h1, h2, _⟩ := h.lt k (by omega)
 have h3 : Abv ps a k := .up (by omega) (by rw [hk, xax]; exact .refl)
 have := (ha.out h h2).1 h3
 exact ⟨by rw [hk] at h1; simpa using h1, this.2, h2⟩
inductive Chn (ps : List Int) (e : Nat) : Nat -> List Nat -> Prop
 | nil : Chn ps e e []
 | cons {n f : Nat} {l : List Nat} : EndOf ps n f -> Chn ps e f l -> Chn ps e n (n :: l)
def kidsL (ps : List Int) (a : Nat) : List Nat := (List.range ps.length).filter fun k => decide (pr ps k = a)
theorem qgd {a at_ n : Nat} (h : ∀ k, at_ <= k -> k < at_ + n -> pr ps k ≠ a) : (List.range' at_ n).filter (fun k => decide (pr ps k = a)) = [] := by
 rw [List.filter_eq_nil_iff]
 intro k hk
 rw [List.mem_range'_1] at hk
 simp [h k hk.1 hk.2]
theorem qrn (h : Tre ps) {a e : Nat} (ha : EndOf ps a e) : ∀ (n at_ : Nat), at_ + n = e -> a < at_ -> (0 < n -> pr ps at_ = a) -> Chn ps e at_ ((List.range' at_ n).filter fun k => decide (pr ps k = a)) := by
 intro n
 induction n using Nat.strongRecOn with
 | ind n ih =>
   intro at_ he hlt hp
   rcases Nat.eq_zero_or_pos n with rfl | hn
   ·have : at_ = e := by omega
    subst this
    exact .nil
   ·have hpa := hp hn
    have hle := ha.le
    obtain ⟨f, hf⟩ := EndOf.qlc (ps := ps) at_ (by omega)
    have haa : Abv ps a at_ := ha.all at_ (by omega) (by omega)
    have hfe := EndOf.mono h haa ha hf
    have hfl := hf.lt
    have e1 : List.range' at_ n = at_ :: (List.range' (at_ + 1) (f - at_ - 1) ++ List.range' f (e - f)) := by
     have h1 : n = (f - at_ - 1) + (e - f) + 1 := by omega
     rw [h1, List.range'_succ, <- List.range'_append_1]
     rw [show at_ + 1 + (f - at_ - 1) = f by omega]
    have h2 := qgd (ps := ps) (a := a) (at_ := at_ + 1) (n := f - at_ - 1) (fun k hk1 hk2 hk3 => by
     obtain ⟨h3, h4⟩ := (hf.all k (by omega) (by omega)).parent (by omega)
     have := h4.le h
     rw [hk3, xax] at this
     omega)
    rw [e1, List.filter_cons, if_pos (by simp [hpa]), List.filter_append, h2, List.nil_append]
    exact .cons hf (ih (e - f) (by omega) f (by omega) (by omega) fun h5 => qvb h ha hpa hf (by omega))
theorem qhm (h : Tre ps) {a e : Nat} (ha : EndOf ps a e) : Chn ps e (a + 1) (kidsL ps a) := by
 have hlt := ha.lt
 have hle := ha.le
 have e1 : List.range ps.length = List.range' 0 (a + 1) ++ (List.range' (a + 1) (e - (a + 1)) ++ List.range' e (ps.length - e)) := by
  rw [List.range_eq_range']
  have h1 : ps.length = (a + 1) + ((e - (a + 1)) + (ps.length - e)) := by omega
  have h2 := List.range'_append_1 (s := a + 1) (m := e - (a + 1)) (n := ps.length - e)
  have h3 := List.range'_append_1 (s := 0) (m := a + 1) (n := (e - (a + 1)) + (ps.length - e))
  rw [show a + 1 + (e - (a + 1)) = e by omega] at h2
  rw [Nat.zero_add, <- h2] at h3
  rw [h3, <- h1]
 unfold kidsL
 rw [e1, List.filter_append, List.filter_append, qgd (n := a + 1) (fun k h1 h2 h3 => by have := (qxk h ha h3).1; omega), qgd (n := ps.length - e) (fun k h1 h2 h3 => by have := (qxk h ha h3).2.1; omega), List.nil_append, List.append_nil]
 exact qrn h ha _ _ (by omega) (by omega) fun h5 => qro h ha (by omega)
structure Com (ps : List Int) (a b c : Nat) : Prop where
 left : Abv ps c a
 right : Abv ps c b
 near : ∀ x, Abv ps x a -> Abv ps x b -> Abv ps x c
theorem Com.symm {a b c : Nat} (h : Com ps a b c) : Com ps b a c := ⟨h.right, h.left, fun x h1 h2 => h.near x h2 h1⟩
theorem Com.uniq (h : Tre ps) {a b c c' : Nat} (h1 : Com ps a b c) (h2 : Com ps a b c') : c = c' :=
 Abv.qiy h (h2.near c h1.left h1.right) (h1.near c' h2.left h2.right)
theorem Com.self {a b : Nat} (h : Abv ps a b) : Com ps a b a := ⟨.refl, h, fun _ h1 _ => h1⟩
theorem Com.up {a b c : Nat} (ha : 0 <= pr ps a) (hn : ¬ Abv ps a b) (h : Com ps (pr ps a).toNat b c) : Com ps a b c :=
 ⟨.up ha h.left, h.right, fun x h1 h2 => h.near x (h1.parent (fun e => hn (e ▸ h2))).2 h2⟩
theorem qej (ps : List Int) (p : Int) (i : Nat) (h : i < ps.length) : pr (ps ++ [p]) i = pr ps i := by
 unfold pr
 rw [xal, xal, List.getElem?_append_left h]
theorem qqt (ps : List Int) (p : Int) : pr (ps ++ [p]) ps.length = p := by
 unfold pr
 simp
theorem Abv.more (h : Tre ps) (p : Int) {a b : Nat} (hb : b < ps.length) : Abv (ps ++ [p]) a b ↔ Abv ps a b := by
 constructor
 ·intro h1
  induction h1 with
  | refl => exact .refl
  | up h0 _ ih =>
    rw [qej ps p _ hb] at h0 ih
    have := h.lt _ h0
    exact .up h0 (ih (by omega))
 ·intro h1
  induction h1 with
  | refl => exact .refl
  | up h0 _ ih =>
    have := h.lt _ h0
    exact .up (by rw [qej ps p _ hb]; exact h0) (by rw [qej ps p _ hb]; exact ih (by omega))
end
end Ar
namespace Ar
theorem qu2 {ps : List Int} {a k : Nat} (h : k ∈ kidsL ps a) : k < ps.length /\ pr ps k = a := by
 unfold kidsL at h
 rw [List.mem_filter, List.mem_range] at h
 exact ⟨h.1, of_decide_eq_true h.2⟩
theorem qe2 {α β : Type} (f g : α -> List β) : ∀ l : List α, (∀ x ∈ l, f x = g x) -> l.flatMap f = l.flatMap g
 | [], _ => rfl
 | x :: l, h => by
   rw [List.flatMap_cons, List.flatMap_cons, h x (List.mem_cons_self ..), qe2 f g l fun y hy => h y (List.mem_cons_of_mem _ hy)]
end Ar
namespace Ar
structure Nod where
 k : Int
 p : Int
 t : ByteArray
 d : Dcl
 vk : Int
 vn : Int
 st : Int
 en : Int
 tp : Int
 bt : Int
 wd : Int
 gr : Int
 sh : Int
deriving DecidableEq
def Nod.zero : Nod := ⟨0, 0, ByteArray.empty, .zero, 0, 0, 0, 0, 0, 0, 0, 0, 0⟩
def psOf (l : List Nod) : List Int := l.map Nod.p
theorem qad (l : List Nod) : (psOf l).length = l.length := by simp [psOf]
theorem qk0 (l m : List Nod) : psOf (l ++ m) = psOf l ++ psOf m := by simp [psOf]
theorem qk1 {l : List Nod} {i : Nat} {x : Nod} (h : l[i]? = some x) : pr (psOf l) i = x.p := by
 unfold pr psOf
 rw [xal, xan, h]
 rfl
def tKids : List Bool := [true, false, true, false, true, true, true, true, true]
def tText : List Bool := [false, true, false, false, false, false, false, false, false]
def tEdges : List Bool := [false, false, true, false, true, true, false, false, false]
def tSize : List Bool := [false, false, false, false, true, true, false, false, false]
def tValign : List Bool := [false, false, true, false, true, true, true, false, false]
def tRuby : List Bool := [false, false, false, false, false, false, false, true, true]
def tb (l : List Bool) (k : Int) : Bool := l.getD k.toNat false
theorem tb_at {l : List Bool} (hl : l.length = 9) {k : Nat} (h : k <= 8) : l[k]? = some (tb l (k : Int)) := by
 unfold tb
 rw [xax, xal, xac (by omega)]
 rfl
def qgx (ps : List Int) (tgt : Int) : Nat -> Int -> Int -> Int × Int
 | 0, at_, last => (at_, last)
 | f + 1, at_, last => if 0 <= at_ /\ at_ ≠ tgt then qgx ps tgt f (pr ps at_.toNat) (last - 1) else (at_, last)
def depA (ps : List Int) (tgt last : Int) : Int :=
 if (qgx ps tgt (ps.length + 1) ((ps.length : Int) - 1) last).1 = tgt /\ ((qgx ps tgt (ps.length + 1) ((ps.length : Int) - 1) last).1 < 0 ↔ ps.length = 0) then (qgx ps tgt (ps.length + 1) ((ps.length : Int) - 1) last).2 + 1 else -1
def qdk (first : Bool) (k pk : Int) : Bool :=
 if first then k == 0 else if k == 0 || decide (9 <= k) then false else if (tb tRuby k && !(pk == 6)) || (pk == 5 && !(k == 4)) then false else tb tKids pk
def qbq (z : Int) : Bool := decide (-1073741824 <= z) && decide (z <= 1073741824)
def qgz (z : Int) : Bool := decide (0 <= z) && decide (z <= 1000)
def fitW (z : Int) : Bool := decide (-1 <= z) && decide (z <= 1073741824)
def alw (x : Nod) (item : Bool) : Nod :=
 { x with
  t := if tb tText x.k then x.t else ByteArray.empty
  st := if tb tEdges x.k then x.st else 0
  en := if tb tEdges x.k then x.en else 0
  tp := if tb tSize x.k then x.tp else 0
  bt := if tb tSize x.k then x.bt else 0
  wd := if tb tSize x.k then x.wd else 0
  gr := if item then x.gr else 0
  sh := if item then x.sh else 0
  vk := if tb tValign x.k then x.vk else 0
  vn := if tb tValign x.k && (x.vk == 6 || x.vk == 7) then x.vn else 0 }
def qas (x : Nod) (item : Bool) : Bool :=
 qbq x.st && (qbq x.en && (qbq x.tp && (qbq x.bt && (qbq x.vn && (qgz x.gr && (qgz x.sh && (fitW x.wd && (decide (x.vk <= 9) && decide (x = alw x item)))))))))
def qav (l : List Nod) (p : Int) : Int := (l.getD p.toNat .zero).k
def nodeErr (pre : List Nod) (x : Nod) (last : Int) : Int × Int :=
 if depA (psOf pre) x.p last < 0 \/ qdk (decide (pre.length = 0)) x.k (qav pre x.p) = false then (70, 0)
 else if 64 < depA (psOf pre) x.p last then (71, 0)
 else if qpf x.d = false then (60, 0)
 else if qas x (decide (0 < pre.length) && qav pre x.p == 5) = false then (2, 0)
 else (0, depA (psOf pre) x.p last)
def run : List Nod -> Int -> List Nod -> Int × Int
 | _, last, [] => (0, last)
 | pre, last, x :: r => if (nodeErr pre x last).1 = 0 then run (pre ++ [x]) (nodeErr pre x last).2 r else ((nodeErr pre x last).1, 0)
def sumT (l : List Nod) : Nat := (l.map fun x => x.t.size).sum
def qcw (l : List Nod) : Int := if 1048576 < sumT l then 3 else 0
def chkT (l : List Nod) : Int :=
 if l.length = 0 \/ 1048576 < l.length then 70 else if (run [] (-1) l).1 = 0 then qcw l else (run [] (-1) l).1
def qpg (ps : List Int) : Nat -> Nat -> List Nat
 | 0, _ => []
 | f + 1, n => if pr ps n < 0 then [] else (pr ps n).toNat :: qpg ps f (pr ps n).toNat
def ups (ps : List Int) (n : Nat) : List Nat := qpg ps n n
def dep (ps : List Int) (n : Nat) : Nat := (ups ps n).length
section
variable {ps : List Int}
theorem qpz (h : Tre ps) : ∀ f g n, n <= f -> n <= g -> qpg ps f n = qpg ps g n := by
 intro f
 induction f with
 | zero =>
   intro g n hf _
   obtain rfl : n = 0 := by omega
   cases g with
   | zero => rfl
   | succ g => rw [qpg, qpg, if_pos (by rw [h.root]; omega)]
 | succ f ih =>
   intro g n hf hg
   cases g with
   | zero =>
     obtain rfl : n = 0 := by omega
     rw [qpg, qpg, if_pos (by rw [h.root]; omega)]
   | succ g =>
     rw [qpg, qpg]
     by_cases h0 : pr ps n < 0
     ·rw [if_pos h0, if_pos h0]
     ·rw [if_neg h0, if_neg h0]
      have := (h.lt n (by omega)).1
      rw [ih g _ (by omega) (by omega)]
theorem qh2 {n : Nat} (h0 : pr ps n < 0) : ups ps n = [] := by
 unfold ups
 cases n with
 | zero => rfl
 | succ n => rw [qpg, if_pos h0]
theorem qh1 (h : Tre ps) {n : Nat} (h0 : 0 <= pr ps n) : ups ps n = (pr ps n).toNat :: ups ps (pr ps n).toNat := by
 have := (h.lt n h0).1
 unfold ups
 cases n with
 | zero => omega
 | succ n =>
   rw [qpg, if_neg (by omega)]
   congr 1
   exact qpz h _ _ _ (by omega) (by omega)
theorem qit (h : Tre ps) {n : Nat} (h0 : 0 <= pr ps n) : dep ps n = dep ps (pr ps n).toNat + 1 := by
 unfold dep
 rw [qh1 h h0, List.length_cons]
theorem dep_le (h : Tre ps) (n : Nat) : dep ps n <= n := by
 induction n using Nat.strongRecOn with
 | ind n ih =>
   by_cases h0 : 0 <= pr ps n
   ·have := (h.lt n h0).1
    have := ih _ this
    rw [qit h h0]
    omega
   ·unfold dep
    rw [qh2 (by omega)]
    simp
theorem qvi (h : Tre ps) {a b : Nat} (hab : Abv ps a b) : ∀ f last, b < f -> qgx ps (a : Int) f (b : Int) last = ((a : Int), last - (dep ps b : Int) + (dep ps a : Int)) := by
 induction hab with
 | refl =>
   intro f last hf
   obtain ⟨f', rfl⟩ : ∃ f', f = f' + 1 := ⟨f - 1, by omega⟩
   rw [qgx, if_neg (by omega), Int.sub_add_cancel]
 | up h0 hp ih =>
   rename_i b
   intro f last hf
   obtain ⟨f', rfl⟩ : ∃ f', f = f' + 1 := ⟨f - 1, by omega⟩
   by_cases e : b = a
   ·subst e
    rw [qgx, if_neg (by omega), Int.sub_add_cancel]
   ·have h1 := (h.lt b h0).1
    rw [qgx, if_pos (by omega), xax]
    have := ih f' (last - 1) (by omega)
    rw [Int.toNat_of_nonneg h0] at this
    rw [this, qit h h0]
    congr 1
    omega
theorem qvh (h : Tre ps) (tgt : Int) : ∀ b f last, b < ps.length -> b < f -> (0 <= tgt -> ¬ Abv ps tgt.toNat b) -> (qgx ps tgt f (b : Int) last).1 = -1 := by
 intro b
 induction b using Nat.strongRecOn with
 | ind b ih =>
   intro f last hb hf hn
   obtain ⟨f', rfl⟩ : ∃ f', f = f' + 1 := ⟨f - 1, by omega⟩
   have hne : (b : Int) ≠ tgt := fun e => hn (by omega) (by rw [<- e, xax]; exact .refl)
   rw [qgx, if_pos ⟨by omega, hne⟩, xax]
   by_cases h0 : 0 <= pr ps b
   ·have h1 := h.lt b h0
    have := ih _ h1.1 f' (last - 1) (by omega) (by omega) fun ht ha => hn ht (.up h0 ha)
    rw [Int.toNat_of_nonneg h0] at this
    exact this
   ·have hb0 : b = 0 := by
     rcases Nat.eq_zero_or_pos b with e | e
     ·exact e
     ·have := h.par b e hb; omega
    subst hb0
    rw [h.root]
    cases f' with
    | zero => rfl
    | succ f' => rw [qgx, if_neg (by omega)]
theorem Tre.snoc (h : Tre ps) {p : Int} (h0 : 0 <= p) (ha : Abv ps p.toNat (ps.length - 1)) : Tre (ps ++ [p]) := by
 have hp := h.pos
 refine ⟨by simp, by rw [qej ps p 0 hp]; exact h.root, fun i hi hl => ?_⟩
 rw [List.length_append, List.length_singleton] at hl
 by_cases e : i = ps.length
 ·subst e
  rw [qqt]
  have := ha.le h
  exact ⟨h0, by omega, (Abv.more h p (by omega)).2 ha⟩
 ·have hil : i < ps.length := by omega
  rw [qej ps p i hil]
  obtain ⟨h1, h2, h3⟩ := h.par i hi hil
  exact ⟨h1, h2, (Abv.more h p (by omega)).2 h3⟩
theorem qtd (h : Tre ps) {p : Int} (h' : Tre (ps ++ [p])) : ∀ n, n < ps.length -> ups (ps ++ [p]) n = ups ps n := by
 intro n
 induction n using Nat.strongRecOn with
 | ind n ih =>
   intro hn
   have hpr := qej ps p n hn
   by_cases h0 : 0 <= pr ps n
   ·have h1 := (h.lt n h0).1
    rw [qh1 h' (by rw [hpr]; exact h0), qh1 h h0, hpr, ih _ h1 (by omega)]
   ·rw [qh2 (by rw [hpr]; omega), qh2 (by omega)]
theorem qiu {tgt last : Int} (h : tgt ≠ -1) : depA [] tgt last = -1 := by
 unfold depA
 rw [if_neg]
 simp [qgx]
 omega
theorem qvw (h : Tre ps) {tgt : Int} (h0 : 0 <= tgt) (ha : Abv ps tgt.toNat (ps.length - 1)) : depA ps tgt (dep ps (ps.length - 1)) = dep ps tgt.toNat + 1 := by
 have hp := h.pos
 have hg := qvi h ha (ps.length + 1) (dep ps (ps.length - 1)) (by omega)
 rw [show ((ps.length - 1 : Nat) : Int) = (ps.length : Int) - 1 by omega, Int.toNat_of_nonneg h0] at hg
 unfold depA
 rw [hg]
 rw [if_pos ⟨rfl, by constructor <;> (intro; omega)⟩]
 show (dep ps (ps.length - 1) : Int) - (dep ps (ps.length - 1) : Int) + (dep ps tgt.toNat : Int) + 1 = _
 omega
theorem qmw (h : Tre ps) {tgt last : Int} (hn : 0 <= tgt -> ¬ Abv ps tgt.toNat (ps.length - 1)) : depA ps tgt last = -1 := by
 have hp := h.pos
 have hg := qvh h tgt (ps.length - 1) (ps.length + 1) last (by omega) (by omega) hn
 rw [show ((ps.length - 1 : Nat) : Int) = (ps.length : Int) - 1 by omega] at hg
 unfold depA
 rw [hg, if_neg]
 intro ⟨_, h2⟩
 have := h2.1 (by omega)
 omega
end
structure Okn (l : List Nod) (i : Nat) (x : Nod) : Prop where
 decl : qpf x.d = true
 kind : x.k <= 8
 root : i = 0 -> x.k = 0
structure PreOk (l : List Nod) (last : Int) : Prop where
 tree : (l.length = 0 /\ last = -1) \/ (Tre (psOf l) /\ last = dep (psOf l) (l.length - 1))
 all : ∀ i x, l[i]? = some x -> Okn l i x
theorem PreOk.nil : PreOk [] (-1) := ⟨.inl ⟨rfl, rfl⟩, fun i x h => by simp at h⟩
theorem qrm {b : Bool} {k pk : Int} (h : qdk b k pk = true) : k <= 8 /\ (b = true -> k = 0) := by
 unfold qdk at h
 split at h
 ·rename_i hb
  have : k = 0 := by simpa using h
  exact ⟨by omega, fun _ => this⟩
 ·rename_i hb
  split at h
  ·cases h
  ·rename_i h2
   simp at h2
   exact ⟨by omega, fun h3 => absurd h3 (by simpa using hb)⟩
theorem Tre.one : Tre [(-1 : Int)] := ⟨by simp, rfl, fun i hi hl => by simp at hl; omega⟩
theorem qn9 {pre : List Nod} {x : Nod} {last : Int} (h : (nodeErr pre x last).1 = 0) : 0 <= depA (psOf pre) x.p last /\ qdk (decide (pre.length = 0)) x.k (qav pre x.p) = true /\ qpf x.d = true /\ nodeErr pre x last = (0, depA (psOf pre) x.p last) := by
 unfold nodeErr at h |-
 by_cases h1 : depA (psOf pre) x.p last < 0 \/ qdk (decide (pre.length = 0)) x.k (qav pre x.p) = false
 ·rw [if_pos h1] at h; simp at h
 ·rw [if_neg h1] at h |-
  by_cases h2 : 64 < depA (psOf pre) x.p last
  ·rw [if_pos h2] at h; simp at h
  ·rw [if_neg h2] at h |-
   by_cases h3 : qpf x.d = false
   ·rw [if_pos h3] at h; simp at h
   ·rw [if_neg h3] at h |-
    by_cases h4 : qas x (decide (0 < pre.length) && qav pre x.p == 5) = false
    ·rw [if_pos h4] at h; simp at h
    ·rw [if_neg h4]
     refine ⟨by omega, ?_, by simpa using h3, rfl⟩
     cases hk : qdk (decide (pre.length = 0)) x.k (qav pre x.p)
     ·exact absurd (.inr hk) h1
     ·rfl
theorem PreOk.step {pre : List Nod} {x : Nod} {last : Int} (h : PreOk pre last) (he : (nodeErr pre x last).1 = 0) : PreOk (pre ++ [x]) (nodeErr pre x last).2 := by
 obtain ⟨h1, h2, h3, h4⟩ := qn9 he
 rw [h4]
 obtain ⟨k1, k2⟩ := qrm h2
 constructor
 ·right
  rw [qk0, List.length_append]
  show Tre (psOf pre ++ [x.p]) /\ _
  rcases h.tree with ⟨h5, rfl⟩ | ⟨h5, rfl⟩
  ·have : pre = [] := List.length_eq_zero_iff.1 h5
   subst this
   have hp : x.p = -1 := by
    apply Classical.byContradiction
    intro hne
    have := qiu (last := -1) hne
    have h1' : 0 <= depA [] x.p (-1) := h1
    omega
   show Tre ([] ++ [x.p]) /\ depA [] x.p (-1) = _
   rw [hp]
   exact ⟨Tre.one, rfl⟩
  ·have hl := qad pre
   rw [<- hl] at h1 |-
   by_cases h6 : 0 <= x.p /\ Abv (psOf pre) x.p.toNat ((psOf pre).length - 1)
   ·obtain ⟨h7, h8⟩ := h6
    have ht := Tre.snoc h5 h7 h8
    refine ⟨ht, ?_⟩
    have hpl := qqt (psOf pre) x.p
    have hle := h8.le h5
    have hpos := h5.pos
    have hd := qit ht (n := (psOf pre).length) (by rw [hpl]; exact h7)
    rw [hpl] at hd
    have hu : dep (psOf pre ++ [x.p]) x.p.toNat = dep (psOf pre) x.p.toNat := by
     unfold dep
     rw [qtd h5 ht _ (by omega)]
    rw [hu] at hd
    rw [qvw h5 h7 h8]
    show _ = ((dep (psOf pre ++ [x.p]) ((psOf pre).length + 1 - 1) : Nat) : Int)
    rw [Nat.add_sub_cancel, hd]
    omega
   ·rw [qmw h5 (fun h7 h8 => h6 ⟨h7, h8⟩)] at h1
    omega
 ·intro i y hy
  by_cases hi : i < pre.length
  ·rw [List.getElem?_append_left hi] at hy
   have := h.all i y hy
   exact ⟨this.decl, this.kind, this.root⟩
  ·rw [List.getElem?_append_right (by omega)] at hy
   have hi2 : i = pre.length := by
    have := (xah hy).1
    simp at this
    omega
   subst hi2
   rw [Nat.sub_self] at hy
   injection hy with hy
   subst hy
   exact ⟨h3, k1, fun e => k2 (by simpa using e)⟩
theorem qw5 : ∀ (l pre : List Nod) (last : Int), PreOk pre last -> (run pre last l).1 = 0 -> PreOk (pre ++ l) (run pre last l).2
 | [], pre, last, h, _ => by simpa [run] using h
 | x :: l, pre, last, h, he => by
   rw [run] at he |-
   by_cases h1 : (nodeErr pre x last).1 = 0
   ·rw [if_pos h1] at he |-
    have := qw5 l (pre ++ [x]) _ (h.step h1) he
    rwa [List.append_assoc] at this
   ·rw [if_neg h1] at he
    exact absurd he h1
structure Good (l : List Nod) : Prop where
 pos : 0 < l.length
 most : l.length <= 1048576
 pre : PreOk l (run [] (-1) l).2
 err : (run [] (-1) l).1 = 0
 sum : sumT l <= 1048576
theorem qci (l : List Nod) : chkT l = 0 ↔ Good l := by
 unfold chkT
 constructor
 ·intro h
  split at h
  ·omega
  ·rename_i h1
   split at h
   ·rename_i h2
    have h3 : sumT l <= 1048576 := by
     unfold qcw at h
     split at h <;> omega
    have := qw5 l [] (-1) PreOk.nil h2
    rw [List.nil_append] at this
    exact ⟨by omega, by omega, this, h2, h3⟩
   ·rename_i h2
    exact absurd h h2
 ·intro h
  rw [if_neg (by have := h.pos; have := h.most; omega), if_pos h.err]
  unfold qcw
  rw [if_neg (by have := h.sum; omega)]
theorem Good.tre {l : List Nod} (h : Good l) : Tre (psOf l) := by
 rcases h.pre.tree with ⟨h1, _⟩ | ⟨h1, _⟩
 ·have := h.pos; omega
 ·exact h1
end Ar
namespace Ar
def Nod.cells (x : Nod) : Array Value := #[.int .u8 x.k, .int .i64 x.p, .string x.t, .int .u16 (x.d.n : Int), .int .u8 x.d.s.a0, .int .u8 x.d.s.a1, .int .u8 x.d.s.a2, .int .u8 x.d.s.a3, .int .i64 x.d.s.a4, .int .i64 x.d.s.a5, .int .i64 x.d.s.a6, .int .u8 x.d.s.a7, .int .i64 x.d.s.a8, .int .u8 x.vk, .int .i64 x.vn, .int .i64 x.st, .int .i64 x.en, .int .i64 x.tp, .int .i64 x.bt, .int .i64 x.wd, .int .i64 x.gr, .int .i64 x.sh]
theorem uN : Tryz.prog.underlying 50 = some (.struct (Tryz.prog.fieldsOf 50)) := by kernel_rfl
theorem iN : (Tryz.prog.info? 50).map (·.size) = some 22 := by kernel_rfl
theorem alN (w : World) : (Instr.alloc 50 true (.tuple #[])).run Tryz.prog w = .ok (.pointer (some ⟨w.heap.size, 0, none⟩)) (w.alloc (.cells Nod.zero.cells 50)) := by kernel_rfl
theorem bxN (s : Nod) (w : World) : (Instr.box 50 (.agg s.cells)).run Tryz.prog w = .ok (.pointer (some ⟨w.heap.size, 0, none⟩)) (w.alloc (.cells s.cells 50)) := by kernel_rfl
theorem ba_dec (a b : ByteArray) : decide (a = b) = decide (a.toList = b.toList) := by
 rw [decide_eq_decide]
 constructor
 ·rintro rfl; rfl
 ·intro h
  rw [ByteArray.toList_eq, ByteArray.toList_eq] at h
  cases a; cases b
  congr 1
  exact Array.toList_inj.1 h
theorem uV : Tryz.prog.underlying 48 = some (.struct (Tryz.prog.fieldsOf 48)) := by kernel_rfl
theorem oneN (s : Nod) : s.cells.all (·.oneCell') = true := by kernel_rfl
theorem nod_eq (c d : Nod) : c = d ↔ c.k = d.k /\ c.p = d.p /\ c.t = d.t /\ c.d = d.d /\ c.vk = d.vk /\ c.vn = d.vn /\ c.st = d.st /\ c.en = d.en /\ c.tp = d.tp /\ c.bt = d.bt /\ c.wd = d.wd /\ c.gr = d.gr /\ c.sh = d.sh := by
 cases c; cases d; simp
theorem qzm (c d : Nod) : decide (c = d) = (decide (c.k = d.k) && (decide (c.p = d.p) && (decide (c.t = d.t) && (decide (c.d = d.d) && (decide (c.vk = d.vk) && (decide (c.vn = d.vn) && (decide (c.st = d.st) && (decide (c.en = d.en) && (decide (c.tp = d.tp) && (decide (c.bt = d.bt) && (decide (c.wd = d.wd) && (decide (c.gr = d.gr) && decide (c.sh = d.sh))))))))))))) := by
 simp only [<- qgk]
 rw [decide_eq_decide]
 exact nod_eq c d
section
variable {ops : Array Oper} {Q : Exit -> Act -> World -> Prop} {a : Act} {w : World} {rest : List Oper} {o o1 o2 : Oper}
theorem ldN (hg : o.guard = none) (x : Operand) (ho : o.op = .load 50 x) (p : Addr) (hx : a.eval x = .pointer (some p)) (s : Nod) (hL : qar w p s.cells)
 (h : wpList Tryz.prog ops Q rest (a.put o.dst (.agg s.cells)) w) : wpList Tryz.prog ops Q (o :: rest) a w := qan hg 50 x ho p hx s.cells _ hL uN rfl iN h
theorem rdN (x : Operand) (ho : o.op = .load 50 x) (p : Addr) (hx : a.eval x = .pointer (some p)) (s : Nod) (hL : qar w p s.cells) : (execOp a.eval o).run Tryz.prog w = .ok (.value (.agg s.cells)) w := qat 50 x ho p hx s.cells _ hL uN rfl iN
theorem alNV (hg : o.guard = none) (ho : o.op = .alloc 50) (h : ∀ w', Below w.heap.size w w' -> Blk w' w.heap.size 50 (Nod.zero).cells -> wpList Tryz.prog ops Q rest (a.put o.dst (.pointer (some ⟨w.heap.size, 0, none⟩))) w') : wpList Tryz.prog ops Q (o :: rest) a w :=
 qao hg 50 ho _ alN h
theorem bxNV (hg : o.guard = none) (x : Operand) (ho : o.op = .box 50 x) (s : Nod) (hx : a.eval x = .agg s.cells) (h : ∀ w', Below w.heap.size w w' -> Blk w' w.heap.size 50 s.cells -> wpList Tryz.prog ops Q rest (a.put o.dst (.pointer (some ⟨w.heap.size, 0, none⟩))) w') : wpList Tryz.prog ops Q (o :: rest) a w :=
 qaq hg 50 x ho s.cells hx (bxN s) h
theorem stN (hg : o.guard = none) (x y : Operand) (ho : o.op = .store 50 x y) (hd : o.dst = none) (g : Nat) (hx : a.eval x = .pointer (some ⟨g, 0, none⟩)) (s : Nod) (hy : a.eval y = .agg s.cells) {t : TypeId} (old : Nod) (hB : Blk w g t old.cells)
 (h : ∀ w', Mod (fun k => k = g) w w' -> Blk w' g t s.cells -> wpList Tryz.prog ops Q rest a w') : wpList Tryz.prog ops Q (o :: rest) a w :=
 qah hg 50 x y ho hd g hx s.cells hy t old.cells hB iN rfl (oneN s) h
theorem nwN (hg1 : o1.guard = none) (hg2 : o2.guard = none) (D : Tmp) (hd1 : o1.dst = some D) (ho1 : o1.op = .alloc 50) (y : Operand) (ho2 : o2.op = .store 50 (.tmp D) y) (hd2 : o2.dst = none)
 (s : Nod) (hx : ∀ v, (a.put (some D) v).eval (.tmp D) = v) (hy : ∀ v, (a.put (some D) v).eval y = .agg s.cells)
 (h : ∀ w', Below w.heap.size w w' -> Blk w' w.heap.size 50 s.cells -> wpList Tryz.prog ops Q rest (a.put (some D) (.pointer (some ⟨w.heap.size, 0, none⟩))) w') : wpList Tryz.prog ops Q (o1 :: o2 :: rest) a w :=
 qab hg1 hg2 50 D hd1 ho1 y ho2 hd2 _ alN s.cells hx hy iN rfl (oneN s) h
end
theorem nod_d (x : Nod) : ∀ (j : Nat) (v : Value), x.d.cells[j]? = some v -> x.cells[3 + j]? = some v := fun j v hv => by
 have hj : j < 10 := (xag hv).1
 match j, hj with
 | 0, _ => exact hv
 | 1, _ => exact hv
 | 2, _ => exact hv
 | 3, _ => exact hv
 | 4, _ => exact hv
 | 5, _ => exact hv
 | 6, _ => exact hv
 | 7, _ => exact hv
 | 8, _ => exact hv
 | 9, _ => exact hv
theorem eqN (c d : Nod) (w : World) (b : Bool) (hb : decide (c = d) = b) : (binOp .eql 50 (.agg c.cells) (.agg d.cells)).run Tryz.prog w = .ok (.bool b) w := by
 subst hb
 have u1 := Tryz.underlying5
 have u2 := Tryz.underlying3
 have u3 := Tryz.underlying2
 have u4 := Tryz.underlying42
 have u5 := Tryz.underlying9
 have he := fun n xs ys => run_equalIn_agg (P := Tryz.prog) w n 44 xs ys uS (by kernel_rfl)
 simp only [Program.fieldsOf, Tryz.underlying44] at he
 have hd := fun n xs ys => run_equalIn_agg (P := Tryz.prog) w n 46 xs ys uD (by kernel_rfl)
 simp only [Program.fieldsOf, Tryz.underlying46] at hd
 have hv := fun n xs ys => run_equalIn_agg (P := Tryz.prog) w n 48 xs ys uV (by kernel_rfl)
 simp only [Program.fieldsOf, Tryz.underlying48] at hv
 rw [qzm, q0j, qp8]
 unfold Nod.cells
 rw [run_eql_struct, show (10000 : Nat) = 9999 + 1 from rfl, run_equalIn_agg w 9999 50 _ _ uN (by kernel_rfl)]
 simp only [Program.fieldsOf, Tryz.underlying50]
 go_simp
 simp only [qz1, Bool.and_true, Bool.and_assoc, ba_dec]
end Ar
namespace Ar
def Ns (w : World) (v : Value) (l : List Nod) : Prop := qa5 22 (fun _ => False) w v (l.map fun s => s.cells.toList)
theorem Ns.below {w w' : World} {v : Value} {l : List Nod} (h : Ns w v l) (b : Below w.heap.size w w') : Ns w' v l := qa5.below h b
theorem Ns.form {w : World} {v : Value} {l : List Nod} (h : Ns w v l) : ∃ A c, v = .slice A l.length c := by
 have := qa5.form h
 rwa [xao] at this
theorem Ns.get {w wx : World} {v : Value} {l : List Nod} (h : Ns w v l) (b : Below w.heap.size w wx) {i : Nat} {s : Nod} (hi : l[i]? = some s) :
 ∃ a cap o, v = .slice (some a) l.length cap /\ a.block < w.heap.size /\ a.add (i * 22) = ⟨a.block, o, none⟩ /\ qar wx ⟨a.block, o, none⟩ s.cells := by
 obtain ⟨a, cap, o, hv, hb, _, ha, hc⟩ := qa5.get h b (x := s.cells.toList) (by rw [xan, hi]; rfl) (by simp [Nod.cells])
 rw [xao] at hv
 exact ⟨a, cap, o, hv, hb, ha, qdq rfl hc⟩
theorem _root_.Go.Proofs.YtmceblkjbpbcoaaGreatDoor.qar.at_ {w : World} {g o : Nat} {cs : Array Value} (h : qar w ⟨g, o, none⟩ cs) (j : Nat) {v : Value} (hv : cs[j]? = some v) : w.cell? ⟨g, o + j, none⟩ = some v := by
 have := h j v hv
 rwa [show (⟨g, o, none⟩ : Addr).add j = ⟨g, o + j, none⟩ by unfold Addr.add; split <;> simp_all] at this
theorem _root_.Go.Proofs.YtmceblkjbpbcoaaGreatDoor.qar.p {w : World} {g o : Nat} {x : Nod} (h : qar w ⟨g, o, none⟩ x.cells) : w.cell? ⟨g, o + 1, none⟩ = some (.int .i64 x.p) := h.at_ 1 rfl
theorem _root_.Go.Proofs.YtmceblkjbpbcoaaGreatDoor.qar.k {w : World} {g o : Nat} {x : Nod} (h : qar w ⟨g, o, none⟩ x.cells) : w.cell? ⟨g, o, none⟩ = some (.int .u8 x.k) := h.at_ 0 rfl
theorem _root_.Go.Proofs.YtmceblkjbpbcoaaGreatDoor.qar.t {w : World} {g o : Nat} {x : Nod} (h : qar w ⟨g, o, none⟩ x.cells) : w.cell? ⟨g, o + 2, none⟩ = some (.string x.t) := h.at_ 2 rfl
theorem _root_.Go.Proofs.YtmceblkjbpbcoaaGreatDoor.qar.d {w : World} {g o : Nat} {x : Nod} (h : qar w ⟨g, o, none⟩ x.cells) : qar w ⟨g, o + 3, none⟩ x.d.cells := fun j v hv => by
 rw [show (⟨g, o + 3, none⟩ : Addr).add j = ⟨g, o + (3 + j), none⟩ by unfold Addr.add; split <;> simp_all; omega]
 exact h.at_ (3 + j) (nod_d x j v hv)
theorem qex {l : List Nod} {i : Nat} (h : i < l.length) : ∃ x, l[i]? = some x := ⟨_, xac h⟩
theorem qjo {l : List Nod} (h : Tre (psOf l)) {i : Nat} {x : Nod} (hi : l[i]? = some x) : -1 <= x.p /\ x.p < i := by
 have hil : i < (psOf l).length := by rw [qad]; exact (xah hi).1
 have hp := qk1 hi
 rcases Nat.eq_zero_or_pos i with rfl | h0
 ·have := h.root; omega
 ·have := h.par i h0 hil; omega
end Ar
end Go.Proofs.YtmceblkjbpbcoaaGreatDoor
