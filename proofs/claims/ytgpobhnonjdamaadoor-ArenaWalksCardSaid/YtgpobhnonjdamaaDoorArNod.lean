/- Plain facts on nodes as values: what Check says of a list of them, and that what it lets by is a tree; who is above a node, how deep it is, its context; a node's end. No walk of code. -/
import Derived.Test.YtgpobhnonjdamaaDoorArWalk
import Derived.Test.YtgpobhnonjdamaaDoorYMath
namespace Go.Proofs.YtgpobhnonjdamaaDoor

/-- a node's fields, in their order -/
structure Nod where
  k : Int
  p : Int
  t : ByteArray
  d : Dcl
  vk : Int
  vn : Int
  st : Int
  en : Int
  tp : Int
  bt : Int
  wd : Int
  gr : Int
  sh : Int
deriving DecidableEq
def Nod.zero : Nod := ⟨0, 0, ByteArray.empty, .zero, 0, 0, 0, 0, 0, 0, 0, 0, 0⟩
def psOf (l : List Nod) : List Int := l.map Nod.p
theorem psOf_len (l : List Nod) : (psOf l).length = l.length := by simp [psOf]
theorem psOf_append (l m : List Nod) : psOf (l ++ m) = psOf l ++ psOf m := by simp [psOf]
theorem pr_of {l : List Nod} {i : Nat} {x : Nod} (h : l[i]? = some x) : pr (psOf l) i = x.p := by
  unfold pr psOf
  rw [List.getD_eq_getElem?_getD, List.getElem?_map, h]
  rfl
/-! ### the tables -/
def tKids : List Bool := [true, false, true, false, true, true, true, true, true]
def tLines : List Bool := [true, false, false, false, true, true, true, true, true]
def tText : List Bool := [false, true, false, false, false, false, false, false, false]
def tEdges : List Bool := [false, false, true, false, true, true, false, false, false]
def tSize : List Bool := [false, false, false, false, true, true, false, false, false]
def tValign : List Bool := [false, false, true, false, true, true, true, false, false]
def tRuby : List Bool := [false, false, false, false, false, false, false, true, true]
def tb (l : List Bool) (k : Int) : Bool := l.getD k.toNat false
theorem tb_at {l : List Bool} (hl : l.length = 9) {k : Nat} (h : k ≤ 8) : l[k]? = some (tb l (k : Int)) := by
  unfold tb
  rw [Int.toNat_natCast, List.getD_eq_getElem?_getD, List.getElem?_eq_getElem (by omega)]
  rfl

/-! ### what Check says -/
def goUp (ps : List Int) (tgt : Int) : Nat → Int → Int → Int × Int
  | 0, at_, last => (at_, last)
  | f + 1, at_, last => if 0 ≤ at_ ∧ at_ ≠ tgt then goUp ps tgt f (pr ps at_.toNat) (last - 1) else (at_, last)
def depA (ps : List Int) (tgt last : Int) : Int :=
  if (goUp ps tgt (ps.length + 1) ((ps.length : Int) - 1) last).1 = tgt ∧ ((goUp ps tgt (ps.length + 1) ((ps.length : Int) - 1) last).1 < 0 ↔ ps.length = 0) then (goUp ps tgt (ps.length + 1) ((ps.length : Int) - 1) last).2 + 1 else -1
def vKind (first : Bool) (k pk : Int) : Bool :=
  if first then k == 0 else if k == 0 || decide (9 ≤ k) then false else if (tb tRuby k && !(pk == 6)) || (pk == 5 && !(k == 4)) then false else tb tKids pk
def fit30 (z : Int) : Bool := decide (-1073741824 ≤ z) && decide (z ≤ 1073741824)
def fit1k (z : Int) : Bool := decide (0 ≤ z) && decide (z ≤ 1000)
def fitW (z : Int) : Bool := decide (-1 ≤ z) && decide (z ≤ 1073741824)
/-- a node without what its kind must not have -/
def alw (x : Nod) (item : Bool) : Nod :=
  { x with
    t := if tb tText x.k then x.t else ByteArray.empty
    st := if tb tEdges x.k then x.st else 0
    en := if tb tEdges x.k then x.en else 0
    tp := if tb tSize x.k then x.tp else 0
    bt := if tb tSize x.k then x.bt else 0
    wd := if tb tSize x.k then x.wd else 0
    gr := if item then x.gr else 0
    sh := if item then x.sh else 0
    vk := if tb tValign x.k then x.vk else 0
    vn := if tb tValign x.k && (x.vk == 6 || x.vk == 7) then x.vn else 0 }
def vFields (x : Nod) (item : Bool) : Bool :=
  fit30 x.st && (fit30 x.en && (fit30 x.tp && (fit30 x.bt && (fit30 x.vn && (fit1k x.gr && (fit1k x.sh && (fitW x.wd && (decide (x.vk ≤ 9) && decide (x = alw x item)))))))))
def kindAt (l : List Nod) (p : Int) : Int := (l.getD p.toNat .zero).k
/-- a node's error and its depth, behind the nodes pre, of which the last one is at the depth last -/
def nodeErr (pre : List Nod) (x : Nod) (last : Int) : Int × Int :=
  if depA (psOf pre) x.p last < 0 ∨ vKind (decide (pre.length = 0)) x.k (kindAt pre x.p) = false then (70, 0)
  else if 64 < depA (psOf pre) x.p last then (71, 0)
  else if vldD x.d = false then (60, 0)
  else if vFields x (decide (0 < pre.length) && kindAt pre x.p == 5) = false then (2, 0)
  else (0, depA (psOf pre) x.p last)
def run : List Nod → Int → List Nod → Int × Int
  | _, last, [] => (0, last)
  | pre, last, x :: r => if (nodeErr pre x last).1 = 0 then run (pre ++ [x]) (nodeErr pre x last).2 r else ((nodeErr pre x last).1, 0)
def sumT (l : List Nod) : Nat := (l.map fun x => x.t.size).sum
def lenErr (l : List Nod) : Int := if 1048576 < sumT l then 3 else 0
def chkT (l : List Nod) : Int :=
  if l.length = 0 ∨ 1048576 < l.length then 70 else if (run [] (-1) l).1 = 0 then lenErr l else (run [] (-1) l).1

theorem run_append : ∀ (l m pre : List Nod) (last : Int), run pre last (l ++ m) = if (run pre last l).1 = 0 then run (pre ++ l) (run pre last l).2 m else run pre last l
  | [], m, pre, last => by simp [run]
  | x :: l, m, pre, last => by
    rw [List.cons_append, run, run]
    by_cases h : (nodeErr pre x last).1 = 0
    · rw [if_pos h, if_pos h, run_append l m]
      simp
    · rw [if_neg h, if_neg h, if_neg h]

/-! ### who is above -/
def upsL (ps : List Int) : Nat → Nat → List Nat
  | 0, _ => []
  | f + 1, n => if pr ps n < 0 then [] else (pr ps n).toNat :: upsL ps f (pr ps n).toNat
/-- the nodes above n, the nearest one first -/
def ups (ps : List Int) (n : Nat) : List Nat := upsL ps n n
def dep (ps : List Int) (n : Nat) : Nat := (ups ps n).length
section
variable {ps : List Int}
theorem upsL_fuel (h : Tre ps) : ∀ f g n, n ≤ f → n ≤ g → upsL ps f n = upsL ps g n := by
  intro f
  induction f with
  | zero =>
    intro g n hf _
    obtain rfl : n = 0 := by omega
    cases g with
    | zero => rfl
    | succ g => rw [upsL, upsL, if_pos (by rw [h.root]; omega)]
  | succ f ih =>
    intro g n hf hg
    cases g with
    | zero =>
      obtain rfl : n = 0 := by omega
      rw [upsL, upsL, if_pos (by rw [h.root]; omega)]
    | succ g =>
      rw [upsL, upsL]
      by_cases h0 : pr ps n < 0
      · rw [if_pos h0, if_pos h0]
      · rw [if_neg h0, if_neg h0]
        have := (h.lt n (by omega)).1
        rw [ih g _ (by omega) (by omega)]
theorem ups_root {n : Nat} (h0 : pr ps n < 0) : ups ps n = [] := by
  unfold ups
  cases n with
  | zero => rfl
  | succ n => rw [upsL, if_pos h0]
theorem ups_step (h : Tre ps) {n : Nat} (h0 : 0 ≤ pr ps n) : ups ps n = (pr ps n).toNat :: ups ps (pr ps n).toNat := by
  have := (h.lt n h0).1
  unfold ups
  cases n with
  | zero => omega
  | succ n =>
    rw [upsL, if_neg (by omega)]
    congr 1
    exact upsL_fuel h _ _ _ (by omega) (by omega)
theorem dep_root (h : Tre ps) : dep ps 0 = 0 := by
  unfold dep
  rw [ups_root (by rw [h.root]; omega)]
  rfl
theorem dep_step (h : Tre ps) {n : Nat} (h0 : 0 ≤ pr ps n) : dep ps n = dep ps (pr ps n).toNat + 1 := by
  unfold dep
  rw [ups_step h h0, List.length_cons]
theorem dep_le (h : Tre ps) (n : Nat) : dep ps n ≤ n := by
  induction n using Nat.strongRecOn with
  | ind n ih =>
    by_cases h0 : 0 ≤ pr ps n
    · have := (h.lt n h0).1
      have := ih _ this
      rw [dep_step h h0]
      omega
    · unfold dep
      rw [ups_root (by omega)]
      simp
theorem ups_lt (h : Tre ps) (n : Nat) : ∀ u ∈ ups ps n, u < n ∧ u < ps.length := by
  induction n using Nat.strongRecOn with
  | ind n ih =>
    intro u hu
    by_cases h0 : 0 ≤ pr ps n
    · obtain ⟨h1, h2, _⟩ := h.lt n h0
      rw [ups_step h h0] at hu
      rcases List.mem_cons.1 hu with rfl | hu
      · exact ⟨h1, by omega⟩
      · have := ih _ h1 u hu
        omega
    · rw [ups_root (by omega)] at hu
      cases hu
theorem ups_has_root (h : Tre ps) : ∀ n, n < ps.length → 0 < n → 0 ∈ ups ps n := by
  intro n
  induction n using Nat.strongRecOn with
  | ind n ih =>
    intro hn hp
    obtain ⟨h1, h2, _⟩ := h.par n hp hn
    rw [ups_step h h1]
    by_cases e : (pr ps n).toNat = 0
    · rw [e]; exact List.mem_cons_self ..
    · exact List.mem_cons_of_mem _ (ih _ (by omega) (by omega) (by omega))
theorem goUp_abv (h : Tre ps) {a b : Nat} (hab : Abv ps a b) : ∀ f last, b < f → goUp ps (a : Int) f (b : Int) last = ((a : Int), last - (dep ps b : Int) + (dep ps a : Int)) := by
  induction hab with
  | refl =>
    intro f last hf
    obtain ⟨f', rfl⟩ : ∃ f', f = f' + 1 := ⟨f - 1, by omega⟩
    rw [goUp, if_neg (by omega), Int.sub_add_cancel]
  | up h0 hp ih =>
    rename_i b
    intro f last hf
    obtain ⟨f', rfl⟩ : ∃ f', f = f' + 1 := ⟨f - 1, by omega⟩
    by_cases e : b = a
    · subst e
      rw [goUp, if_neg (by omega), Int.sub_add_cancel]
    · have h1 := (h.lt b h0).1
      rw [goUp, if_pos (by omega), Int.toNat_natCast]
      have := ih f' (last - 1) (by omega)
      rw [Int.toNat_of_nonneg h0] at this
      rw [this, dep_step h h0]
      congr 1
      omega
theorem goUp_non (h : Tre ps) (tgt : Int) : ∀ b f last, b < ps.length → b < f → (0 ≤ tgt → ¬ Abv ps tgt.toNat b) → (goUp ps tgt f (b : Int) last).1 = -1 := by
  intro b
  induction b using Nat.strongRecOn with
  | ind b ih =>
    intro f last hb hf hn
    obtain ⟨f', rfl⟩ : ∃ f', f = f' + 1 := ⟨f - 1, by omega⟩
    have hne : (b : Int) ≠ tgt := fun e => hn (by omega) (by rw [← e, Int.toNat_natCast]; exact .refl)
    rw [goUp, if_pos ⟨by omega, hne⟩, Int.toNat_natCast]
    by_cases h0 : 0 ≤ pr ps b
    · have h1 := h.lt b h0
      have := ih _ h1.1 f' (last - 1) (by omega) (by omega) fun ht ha => hn ht (.up h0 ha)
      rw [Int.toNat_of_nonneg h0] at this
      exact this
    · have hb0 : b = 0 := by
        rcases Nat.eq_zero_or_pos b with e | e
        · exact e
        · have := h.par b e hb; omega
      subst hb0
      rw [h.root]
      cases f' with
      | zero => rfl
      | succ f' => rw [goUp, if_neg (by omega)]
theorem Tre.snoc (h : Tre ps) {p : Int} (h0 : 0 ≤ p) (ha : Abv ps p.toNat (ps.length - 1)) : Tre (ps ++ [p]) := by
  have hp := h.pos
  refine ⟨by simp, by rw [pr_more ps p 0 hp]; exact h.root, fun i hi hl => ?_⟩
  rw [List.length_append, List.length_singleton] at hl
  by_cases e : i = ps.length
  · subst e
    rw [pr_last]
    have := ha.le h
    exact ⟨h0, by omega, (Abv.more h p (by omega)).2 ha⟩
  · have hil : i < ps.length := by omega
    rw [pr_more ps p i hil]
    obtain ⟨h1, h2, h3⟩ := h.par i hi hil
    exact ⟨h1, h2, (Abv.more h p (by omega)).2 h3⟩
theorem ups_more (h : Tre ps) {p : Int} (h' : Tre (ps ++ [p])) : ∀ n, n < ps.length → ups (ps ++ [p]) n = ups ps n := by
  intro n
  induction n using Nat.strongRecOn with
  | ind n ih =>
    intro hn
    have hpr := pr_more ps p n hn
    by_cases h0 : 0 ≤ pr ps n
    · have h1 := (h.lt n h0).1
      rw [ups_step h' (by rw [hpr]; exact h0), ups_step h h0, hpr, ih _ h1 (by omega)]
    · rw [ups_root (by rw [hpr]; omega), ups_root (by omega)]
theorem depA_first (last : Int) : depA [] (-1) last = last + 1 := by simp [depA, goUp]
theorem depA_first_no {tgt last : Int} (h : tgt ≠ -1) : depA [] tgt last = -1 := by
  unfold depA
  rw [if_neg]
  simp [goUp]
  omega
theorem depA_abv (h : Tre ps) {tgt : Int} (h0 : 0 ≤ tgt) (ha : Abv ps tgt.toNat (ps.length - 1)) : depA ps tgt (dep ps (ps.length - 1)) = dep ps tgt.toNat + 1 := by
  have hp := h.pos
  have hg := goUp_abv h ha (ps.length + 1) (dep ps (ps.length - 1)) (by omega)
  rw [show ((ps.length - 1 : Nat) : Int) = (ps.length : Int) - 1 by omega, Int.toNat_of_nonneg h0] at hg
  unfold depA
  rw [hg]
  rw [if_pos ⟨rfl, by constructor <;> (intro; omega)⟩]
  show (dep ps (ps.length - 1) : Int) - (dep ps (ps.length - 1) : Int) + (dep ps tgt.toNat : Int) + 1 = _
  omega
theorem depA_non (h : Tre ps) {tgt last : Int} (hn : 0 ≤ tgt → ¬ Abv ps tgt.toNat (ps.length - 1)) : depA ps tgt last = -1 := by
  have hp := h.pos
  have hg := goUp_non h tgt (ps.length - 1) (ps.length + 1) last (by omega) (by omega) hn
  rw [show ((ps.length - 1 : Nat) : Int) = (ps.length : Int) - 1 by omega] at hg
  unfold depA
  rw [hg, if_neg]
  intro ⟨_, h2⟩
  have := h2.1 (by omega)
  omega
end

/-! ### what Check lets by -/
structure Okn (l : List Nod) (i : Nat) (x : Nod) : Prop where
  decl : vldD x.d = true
  kind : x.k ≤ 8
  root : i = 0 → x.k = 0
structure PreOk (l : List Nod) (last : Int) : Prop where
  tree : (l.length = 0 ∧ last = -1) ∨ (Tre (psOf l) ∧ last = dep (psOf l) (l.length - 1))
  all : ∀ i x, l[i]? = some x → Okn l i x
theorem PreOk.nil : PreOk [] (-1) := ⟨.inl ⟨rfl, rfl⟩, fun i x h => by simp at h⟩
theorem kind_le {b : Bool} {k pk : Int} (h : vKind b k pk = true) : k ≤ 8 ∧ (b = true → k = 0) := by
  unfold vKind at h
  split at h
  · rename_i hb
    have : k = 0 := by simpa using h
    exact ⟨by omega, fun _ => this⟩
  · rename_i hb
    split at h
    · cases h
    · rename_i h2
      simp at h2
      exact ⟨by omega, fun h3 => absurd h3 (by simpa using hb)⟩
theorem Tre.one : Tre [(-1 : Int)] := ⟨by simp, rfl, fun i hi hl => by simp at hl; omega⟩
theorem nodeErr_ok {pre : List Nod} {x : Nod} {last : Int} (h : (nodeErr pre x last).1 = 0) : 0 ≤ depA (psOf pre) x.p last ∧ vKind (decide (pre.length = 0)) x.k (kindAt pre x.p) = true ∧ vldD x.d = true ∧ nodeErr pre x last = (0, depA (psOf pre) x.p last) := by
  unfold nodeErr at h ⊢
  by_cases h1 : depA (psOf pre) x.p last < 0 ∨ vKind (decide (pre.length = 0)) x.k (kindAt pre x.p) = false
  · rw [if_pos h1] at h; simp at h
  · rw [if_neg h1] at h ⊢
    by_cases h2 : 64 < depA (psOf pre) x.p last
    · rw [if_pos h2] at h; simp at h
    · rw [if_neg h2] at h ⊢
      by_cases h3 : vldD x.d = false
      · rw [if_pos h3] at h; simp at h
      · rw [if_neg h3] at h ⊢
        by_cases h4 : vFields x (decide (0 < pre.length) && kindAt pre x.p == 5) = false
        · rw [if_pos h4] at h; simp at h
        · rw [if_neg h4]
          refine ⟨by omega, ?_, by simpa using h3, rfl⟩
          cases hk : vKind (decide (pre.length = 0)) x.k (kindAt pre x.p)
          · exact absurd (.inr hk) h1
          · rfl
theorem PreOk.step {pre : List Nod} {x : Nod} {last : Int} (h : PreOk pre last) (he : (nodeErr pre x last).1 = 0) : PreOk (pre ++ [x]) (nodeErr pre x last).2 := by
  obtain ⟨h1, h2, h3, h4⟩ := nodeErr_ok he
  rw [h4]
  obtain ⟨k1, k2⟩ := kind_le h2
  constructor
  · right
    rw [psOf_append, List.length_append]
    show Tre (psOf pre ++ [x.p]) ∧ _
    rcases h.tree with ⟨h5, rfl⟩ | ⟨h5, rfl⟩
    · have : pre = [] := List.length_eq_zero_iff.1 h5
      subst this
      have hp : x.p = -1 := by
        apply Classical.byContradiction
        intro hne
        have := depA_first_no (last := -1) hne
        have h1' : 0 ≤ depA [] x.p (-1) := h1
        omega
      show Tre ([] ++ [x.p]) ∧ depA [] x.p (-1) = _
      rw [hp]
      exact ⟨Tre.one, rfl⟩
    · have hl := psOf_len pre
      rw [← hl] at h1 ⊢
      by_cases h6 : 0 ≤ x.p ∧ Abv (psOf pre) x.p.toNat ((psOf pre).length - 1)
      · obtain ⟨h7, h8⟩ := h6
        have ht := Tre.snoc h5 h7 h8
        refine ⟨ht, ?_⟩
        have hpl := pr_last (psOf pre) x.p
        have hle := h8.le h5
        have hpos := h5.pos
        have hd := dep_step ht (n := (psOf pre).length) (by rw [hpl]; exact h7)
        rw [hpl] at hd
        have hu : dep (psOf pre ++ [x.p]) x.p.toNat = dep (psOf pre) x.p.toNat := by
          unfold dep
          rw [ups_more h5 ht _ (by omega)]
        rw [hu] at hd
        rw [depA_abv h5 h7 h8]
        show _ = ((dep (psOf pre ++ [x.p]) ((psOf pre).length + 1 - 1) : Nat) : Int)
        rw [Nat.add_sub_cancel, hd]
        omega
      · rw [depA_non h5 (fun h7 h8 => h6 ⟨h7, h8⟩)] at h1
        omega
  · intro i y hy
    by_cases hi : i < pre.length
    · rw [List.getElem?_append_left hi] at hy
      have := h.all i y hy
      exact ⟨this.decl, this.kind, this.root⟩
    · rw [List.getElem?_append_right (by omega)] at hy
      have hi2 : i = pre.length := by
        have := (List.getElem?_eq_some_iff.1 hy).1
        simp at this
        omega
      subst hi2
      rw [Nat.sub_self] at hy
      injection hy with hy
      subst hy
      exact ⟨h3, k1, fun e => k2 (by simpa using e)⟩
theorem run_ok : ∀ (l pre : List Nod) (last : Int), PreOk pre last → (run pre last l).1 = 0 → PreOk (pre ++ l) (run pre last l).2
  | [], pre, last, h, _ => by simpa [run] using h
  | x :: l, pre, last, h, he => by
    rw [run] at he ⊢
    by_cases h1 : (nodeErr pre x last).1 = 0
    · rw [if_pos h1] at he ⊢
      have := run_ok l (pre ++ [x]) _ (h.step h1) he
      rwa [List.append_assoc] at this
    · rw [if_neg h1] at he
      exact absurd he h1
/-- what New makes a tree of -/
structure Good (l : List Nod) : Prop where
  pos : 0 < l.length
  most : l.length ≤ 1048576
  pre : PreOk l (run [] (-1) l).2
  err : (run [] (-1) l).1 = 0
  sum : sumT l ≤ 1048576
theorem good_iff (l : List Nod) : chkT l = 0 ↔ Good l := by
  unfold chkT
  constructor
  · intro h
    split at h
    · omega
    · rename_i h1
      split at h
      · rename_i h2
        have h3 : sumT l ≤ 1048576 := by
          unfold lenErr at h
          split at h <;> omega
        have := run_ok l [] (-1) PreOk.nil h2
        rw [List.nil_append] at this
        exact ⟨by omega, by omega, this, h2, h3⟩
      · rename_i h2
        exact absurd h h2
  · intro h
    rw [if_neg (by have := h.pos; have := h.most; omega), if_pos h.err]
    unfold lenErr
    rw [if_neg (by have := h.sum; omega)]
theorem Good.tre {l : List Nod} (h : Good l) : Tre (psOf l) := by
  rcases h.pre.tree with ⟨h1, _⟩ | ⟨h1, _⟩
  · have := h.pos; omega
  · exact h1
theorem Good.last {l : List Nod} (h : Good l) : (run [] (-1) l).2 = dep (psOf l) (l.length - 1) := by
  rcases h.pre.tree with ⟨h1, _⟩ | ⟨_, h1⟩
  · have := h.pos; omega
  · exact h1
/-- another text, below the root -/
def txt1 (t : ByteArray) : Nod := { Nod.zero with k := 1, t := t }
theorem Good.more {l : List Nod} (h : Good l) (t : ByteArray) (hl : l.length < 1048576) (hs : sumT l + t.size ≤ 1048576) : Good (l ++ [txt1 t]) := by
  have hT := h.tre
  have hpos := h.pos
  have hlen := psOf_len l
  have e0 : (nodeErr l (txt1 t) (run [] (-1) l).2).1 = 0 := by
    have hd : depA (psOf l) 0 (run [] (-1) l).2 = 1 := by
      have ha := Abv.root hT ((psOf l).length - 1) (by omega)
      have := depA_abv hT (tgt := 0) (by omega) ha
      rw [h.last, ← hlen, this]
      show ((dep (psOf l) 0 : Nat) : Int) + 1 = 1
      rw [dep_root hT]
      rfl
    have hk : kindAt l 0 = 0 := by
      unfold kindAt
      obtain ⟨x, hx⟩ : ∃ x, l[0]? = some x := ⟨_, List.getElem?_eq_getElem hpos⟩
      have := (h.pre.all 0 x hx).root rfl
      rw [List.getD_eq_getElem?_getD, show (0 : Int).toNat = 0 from rfl, hx]
      exact this
    have hv : vKind (decide (l.length = 0)) 1 0 = true := by
      rw [decide_eq_false (by omega)]
      rfl
    have hf : vFields (txt1 t) (decide (0 < l.length) && (0 : Int) == 5) = true := by
      rw [show (decide (0 < l.length) && (0 : Int) == 5) = false by simp]
      simp [vFields, txt1, Nod.zero, alw, fit30, fit1k, fitW, tb, tText, tEdges, tSize, tValign]
    have hz : vldD Dcl.zero = true := by decide
    unfold nodeErr
    simp only [show (txt1 t).p = 0 from rfl, show (txt1 t).k = 1 from rfl, show (txt1 t).d = Dcl.zero from rfl, hd, hk, hv, hf, hz]
    simp
  have e1 : (run [] (-1) (l ++ [txt1 t])).1 = 0 := by
    rw [run_append, if_pos h.err, List.nil_append, run, if_pos e0]
    rfl
  have := run_ok (l ++ [txt1 t]) [] (-1) PreOk.nil e1
  rw [List.nil_append] at this
  refine ⟨by simp, by simp; omega, this, e1, ?_⟩
  simp only [sumT, List.map_append, List.map_cons, List.map_nil, List.sum_append, List.sum_cons, List.sum_nil] at hs ⊢
  exact hs

/-! ### context -/
def ctxF (l : List Nod) (us : List Nat) : Nat := (us.find? fun (u : Nat) => tb tLines (kindAt l (u : Int))).getD 0
def ctx (l : List Nod) (n : Nat) : Nat := ctxF l (ups (psOf l) n)
theorem lines_iff {k : Int} (h0 : 0 ≤ k) (h8 : k ≤ 8) : tb tLines k = (decide (k = 0) || decide (4 ≤ k)) := by
  have : k = 0 ∨ k = 1 ∨ k = 2 ∨ k = 3 ∨ k = 4 ∨ k = 5 ∨ k = 6 ∨ k = 7 ∨ k = 8 := by omega
  rcases this with rfl | rfl | rfl | rfl | rfl | rfl | rfl | rfl | rfl <;> rfl
end Go.Proofs.YtgpobhnonjdamaaDoor
