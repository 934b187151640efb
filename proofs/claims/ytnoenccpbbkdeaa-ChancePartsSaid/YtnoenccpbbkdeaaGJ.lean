/- Plain facts on where lines may be broken, by characters and styles: classes, letters, marks; what is at each place, with what stands ahead as a state; the laws' maths. No walk of code. -/
import Derived.Test.YtnoenccpbbkdeaaGA
import Derived.Test.YtnoenccpbbkdeaaGC
import Derived.Test.YtnoenccpbbkdeaaGG
import Derived.Test.YtnoenccpbbkdeaaGI
namespace Go.Proofs.Ytnoenccpbbkdeaa.Ch
open Wh (Cr)
open Pr (St nx s0 plcAt)

def lett (c : Cr) : Bool := c.kind == 0 && (clsOf c.r == 0 || clsOf c.r == 22 || clsOf c.r == 25 || clsOf c.r == 20 || clsOf c.r == 19)
def markC (c : Cr) : Bool := c.kind == 0 && clsOf c.r == 9
/-- the class of a text's number, in a style: a3 is Line, a1 is Word -/
def clsT (k : Int) (s : Sty) : Int :=
  if s.a1 = 1 ∧ ((if k = 20 ∧ s.a3 = 2 then 19 else if k = 20 ∨ (k = 19 ∧ s.a3 = 1) then 25 else k) = 0 ∨ (if k = 20 ∧ s.a3 = 2 then 19 else if k = 20 ∨ (k = 19 ∧ s.a3 = 1) then 25 else k) = 22) then 25
  else if k = 20 ∧ s.a3 = 2 then 19 else if k = 20 ∨ (k = 19 ∧ s.a3 = 1) then 25 else k
def clsC (c : Cr) (s : Sty) : Int :=
  if 1 ≤ c.kind ∧ c.kind ≤ 4 then 5 else if c.kind = 6 then 26 else if c.kind ≠ 0 then 1 else clsT (clsOf c.r) s
theorem clsT_bd {k : Int} (s : Sty) (h0 : 0 ≤ k) (h1 : k ≤ 26) : 0 ≤ clsT k s ∧ clsT k s ≤ 26 := by
  unfold clsT
  split
  · omega
  · split
    · omega
    · split <;> omega
theorem clsC_bd (c : Cr) (s : Sty) : 0 ≤ clsC c s ∧ clsC c s ≤ 26 := by
  unfold clsC
  split
  · omega
  · split
    · omega
    · split
      · omega
      · exact clsT_bd s (clsOf_bd c.r).1 (clsOf_bd c.r).2
/-- the style of a node -/
def stl (ss : List Sty) (n : Int) : Sty := ss.getD n.toNat .zero
/-- may the list be? -/
def okC (n : Nat) (c : Cr) : Bool := decide (0 ≤ c.node) && decide (c.node < (n : Int)) && decide (c.kind ≤ 6)
def okR (n : Nat) (r : Int) : Bool := decide (0 ≤ r) && decide (r < (n : Int))
def mayC (l : List Cr) (n : Nat) (rs : List Int) : Bool := decide (l.length = rs.length) && l.all (okC n) && (rs.drop 1).all (okR n)

/-- what is at a place behind a and ahead of b, that the style r rules; sa: a's own; q: layer 9 has a break there -/
def oneC (a b : Cr) (r sa : Sty) (q : Bool) : Int :=
  if a.kind = 5 ∨ b.kind = 5 ∨ r.a0 = 1 ∨ r.a0 = 2 then 0
  else if (a.kind = 3 ∨ a.kind = 4) ∧ sa.a0 = 5 then 1
  else if b.kind = 1 ∨ b.kind = 2 then 0
  else if r.a3 = 3 then (if markC b then 0 else 1)
  else if q && !(decide (r.a1 = 2) && lett a && lett b) then 1
  else if r.a2 = 1 ∧ markC b = false then 2
  else 0
/-- the state of layer 9 behind a character, and what it says in front of one: a forced break begins anew -/
def nxC (ss : List Sty) (s : St) (c : Cr) : St := if c.kind = 5 then s0 else nx s (clsC c (stl ss c.node))
def brkC (ss : List Sty) (s : St) (c : Cr) : Bool := if c.kind = 5 then false else (plcAt s (clsC c (stl ss c.node))).2
/-- what stands ahead: the state, and the character -/
abbrev Sc := St × Option Cr
def z0 : Sc := (s0, none)
def nxS (ss : List Sty) (s : Sc) (c : Cr) : Sc := (nxC ss s.1 c, some c)
def atC (ss : List Sty) (s : Sc) (c : Cr) (r : Int) : Int := match s.2 with | none => 0 | some a => oneC a c (stl ss r) (stl ss a.node) (brkC ss s.1 c)
def chn (ss : List Sty) : Sc → List Cr → List Int → List Int
  | s, c :: t, r :: rt => atC ss s c r :: chn ss (nxS ss s c) t rt
  | _, _, _ => []
def stC (ss : List Sty) (s : Sc) (l : List Cr) : Sc := l.foldl (nxS ss) s
theorem chn_len (ss : List Sty) : ∀ (l : List Cr) (rs : List Int) (s : Sc), l.length = rs.length → (chn ss s l rs).length = l.length
  | [], _, _, _ => rfl
  | _ :: _, [], _, h => by simp at h
  | c :: t, r :: rt, s, h => by
    show (chn ss (nxS ss s c) t rt).length + 1 = t.length + 1
    rw [chn_len ss t rt _ (by simpa using h)]
theorem chn_app (ss : List Sty) : ∀ (l : List Cr) (rs : List Int) (s : Sc) (m : List Cr) (qs : List Int), l.length = rs.length → chn ss s (l ++ m) (rs ++ qs) = chn ss s l rs ++ chn ss (stC ss s l) m qs
  | [], [], _, _, _, _ => rfl
  | [], _ :: _, _, _, _, h => by simp at h
  | _ :: _, [], _, _, _, h => by simp at h
  | c :: t, r :: rt, s, m, qs, h => by
    show atC ss s c r :: chn ss (nxS ss s c) (t ++ m) (rt ++ qs) = _
    rw [chn_app ss t rt _ m qs (by simpa using h)]
    rfl
theorem chn_get (ss : List Sty) : ∀ (l : List Cr) (rs : List Int) (s : Sc) (i : Nat) {c : Cr} {r : Int}, l[i]? = some c → rs[i]? = some r → (chn ss s l rs)[i]? = some (atC ss (stC ss s (l.take i)) c r)
  | [], _, _, _, _, _, h, _ => by simp at h
  | _ :: _, [], _, _, _, _, _, h => by simp at h
  | c :: t, r :: rt, s, 0, _, _, h1, h2 => by
    simp at h1 h2
    subst h1 h2
    rfl
  | c :: t, r :: rt, s, i + 1, _, _, h1, h2 => chn_get ss t rt (nxS ss s c) i (by simpa using h1) (by simpa using h2)
theorem stC_prev (ss : List Sty) (l : List Cr) (s : Sc) (i : Nat) {c : Cr} (h : l[i]? = some c) : (stC ss s (l.take (i + 1))).2 = some c := by
  unfold stC
  rw [List.take_add_one, h, List.foldl_append]
  rfl
theorem stC_succ (ss : List Sty) (l : List Cr) (s : Sc) (i : Nat) {c : Cr} (h : l[i]? = some c) : stC ss s (l.take (i + 1)) = nxS ss (stC ss s (l.take i)) c := by
  unfold stC
  rw [List.take_add_one, h, List.foldl_append]
  rfl
/-- the first style alone does not matter at the place 0 -/
theorem chn_first (ss : List Sty) (c : Cr) (t : List Cr) (r r' : Int) (rt : List Int) : chn ss z0 (c :: t) (r :: rt) = chn ss z0 (c :: t) (r' :: rt) := rfl

/-! ### at one place -/
theorem oneC_bd (a b : Cr) (r sa : Sty) (q : Bool) : 0 ≤ oneC a b r sa q ∧ oneC a b r sa q ≤ 2 := by
  unfold oneC
  repeat' split
  all_goals omega
theorem oneC_forced {a b : Cr} (r sa : Sty) (q : Bool) (h : a.kind = 5 ∨ b.kind = 5) : oneC a b r sa q = 0 := by
  unfold oneC
  rw [if_pos (by rcases h with h | h <;> simp [h])]
theorem oneC_space {a b : Cr} (r sa : Sty) (q : Bool) (h : b.kind = 1 ∨ b.kind = 2) (h2 : ¬ a.kind = 3) (h3 : ¬ a.kind = 4) : oneC a b r sa q = 0 := by
  unfold oneC
  by_cases c1 : a.kind = 5 ∨ b.kind = 5 ∨ r.a0 = 1 ∨ r.a0 = 2
  · rw [if_pos c1]
  · rw [if_neg c1, if_neg (fun h => by rcases h.1 with h | h <;> contradiction), if_pos h]
theorem oneC_none {a b : Cr} {r : Sty} (sa : Sty) (q : Bool) (h : r.a0 = 1 ∨ r.a0 = 2) : oneC a b r sa q = 0 := by
  unfold oneC
  rw [if_pos (.inr (.inr h))]
/-- with Line LnAnywhere and White WhNormal -/
theorem oneC_any {a b : Cr} {r sa : Sty} (q : Bool) (h0 : r.a0 = 0) (h1 : sa.a0 = 0) (h3 : r.a3 = 3) : oneC a b r sa q = if a.kind = 5 ∨ b.kind = 5 ∨ b.kind = 1 ∨ b.kind = 2 ∨ markC b = true then 0 else 1 := by
  unfold oneC
  by_cases e : a.kind = 5 ∨ b.kind = 5
  · rw [if_pos (by rcases e with e | e <;> simp [e]), if_pos (by rcases e with e | e <;> simp [e])]
  · have e1 : ¬ a.kind = 5 := fun h => e (.inl h)
    have e2 : ¬ b.kind = 5 := fun h => e (.inr h)
    rw [if_neg (by simp [e1, e2, h0]), if_neg (by simp [h1])]
    by_cases f : b.kind = 1 ∨ b.kind = 2
    · rw [if_pos f, if_pos (by rcases f with f | f <;> simp [f])]
    · rw [if_neg f, if_pos h3]
      cases hm : markC b with
      | true => simp
      | false =>
        have f1 : ¬ b.kind = 1 := fun h => f (.inl h)
        have f2 : ¬ b.kind = 2 := fun h => f (.inr h)
        simp [e1, e2, f1, f2]
/-- what another Wrap changes -/
theorem oneC_wrap {a b : Cr} {r r' sa sa' : Sty} (q : Bool) (h0 : r'.a0 = r.a0) (h1 : r'.a1 = r.a1) (h3 : r'.a3 = r.a3) (hs : sa'.a0 = sa.a0) :
    (oneC a b r sa q = 1 ↔ oneC a b r' sa' q = 1) ∧ (r'.a2 = 1 → oneC a b r sa q = 2 → oneC a b r' sa' q = 2) ∧ (¬ r'.a2 = 1 → ¬ oneC a b r' sa' q = 2) := by
  unfold oneC
  rw [h0, h1, h3, hs]
  by_cases c1 : a.kind = 5 ∨ b.kind = 5 ∨ r.a0 = 1 ∨ r.a0 = 2
  · simp only [if_pos c1]
    simp
  simp only [if_neg c1]
  by_cases c2 : (a.kind = 3 ∨ a.kind = 4) ∧ sa.a0 = 5
  · simp only [if_pos c2]
    simp
  simp only [if_neg c2]
  by_cases c3 : b.kind = 1 ∨ b.kind = 2
  · simp only [if_pos c3]
    simp
  simp only [if_neg c3]
  by_cases c4 : r.a3 = 3
  · simp only [if_pos c4]
    cases markC b <;> simp
  simp only [if_neg c4]
  cases q && !(decide (r.a1 = 2) && lett a && lett b) with
  | true => simp
  | false =>
    by_cases m : markC b = false
    · by_cases c5 : r.a2 = 1 <;> by_cases c6 : r'.a2 = 1 <;> simp [m, c5, c6]
    · simp [m]

/-! ### other styles -/
/-- classes hang on Line and Word alone -/
theorem clsC_same {c : Cr} {s s' : Sty} (h1 : s'.a1 = s.a1) (h3 : s'.a3 = s.a3) : clsC c s' = clsC c s := by
  unfold clsC clsT
  rw [h1, h3]
theorem stl_at {ss : List Sty} {n : Int} {k : Nat} {s : Sty} (h : ss[k]? = some s) (hn : n = (k : Int)) : stl ss n = s := by
  subst hn
  unfold stl
  rw [List.getD_eq_getElem?_getD, Int.toNat_natCast, h]
  rfl
theorem stl_map {ss : List Sty} (f : Sty → Sty) {n : Int} (h0 : 0 ≤ n) (h1 : n < (ss.length : Int)) : stl (ss.map f) n = f (stl ss n) := by
  obtain ⟨k, rfl⟩ : ∃ k : Nat, n = (k : Int) := ⟨n.toNat, by omega⟩
  obtain ⟨s, hs⟩ : ∃ s, ss[k]? = some s := ⟨_, List.getElem?_eq_getElem (by omega)⟩
  rw [stl_at hs rfl, stl_at (s := f s) (by rw [List.getElem?_map, hs]; rfl) rfl]
theorem stl_app1 {ss ts : List Sty} {n : Int} (h0 : 0 ≤ n) (h1 : n < (ss.length : Int)) : stl (ss ++ ts) n = stl ss n := by
  obtain ⟨k, rfl⟩ : ∃ k : Nat, n = (k : Int) := ⟨n.toNat, by omega⟩
  obtain ⟨s, hs⟩ : ∃ s, ss[k]? = some s := ⟨_, List.getElem?_eq_getElem (by omega)⟩
  rw [stl_at hs rfl, stl_at (s := s) (by rw [List.getElem?_append_left (by omega), hs]) rfl]
theorem stl_app2 {ss ts : List Sty} {n : Int} (h0 : 0 ≤ n) (h1 : n < (ts.length : Int)) : stl (ss ++ ts) (n + (ss.length : Int)) = stl ts n := by
  obtain ⟨k, rfl⟩ : ∃ k : Nat, n = (k : Int) := ⟨n.toNat, by omega⟩
  obtain ⟨s, hs⟩ : ∃ s, ts[k]? = some s := ⟨_, List.getElem?_eq_getElem (by omega)⟩
  rw [stl_at hs rfl, stl_at (k := k + ss.length) (s := s) (by rw [List.getElem?_append_right (by omega), Nat.add_sub_cancel, hs]) (by omega)]

/-- two lists that tell the same, character by character and place by place -/
structure Like (ss ts : List Sty) (f : Cr → Cr) (g : Int → Int) (l : List Cr) (rs : List Int) : Prop where
  kind : ∀ c ∈ l, (f c).kind = c.kind
  num : ∀ c ∈ l, (f c).r = c.r
  node : ∀ c ∈ l, stl ts (f c).node = stl ss c.node
  rule : ∀ r ∈ rs, stl ts (g r) = stl ss r
theorem markC_like {c d : Cr} (h1 : d.kind = c.kind) (h2 : d.r = c.r) : markC d = markC c := by unfold markC; rw [h1, h2]
theorem lett_like {c d : Cr} (h1 : d.kind = c.kind) (h2 : d.r = c.r) : lett d = lett c := by unfold lett; rw [h1, h2]
theorem clsC_like {c d : Cr} (s : Sty) (h1 : d.kind = c.kind) (h2 : d.r = c.r) : clsC d s = clsC c s := by unfold clsC; rw [h1, h2]
theorem oneC_like {a a' b b' : Cr} (r sa : Sty) (q : Bool) (h1 : a'.kind = a.kind) (h2 : a'.r = a.r) (h3 : b'.kind = b.kind) (h4 : b'.r = b.r) : oneC a' b' r sa q = oneC a b r sa q := by
  unfold oneC
  rw [markC_like h3 h4, lett_like h1 h2, lett_like h3 h4, h1, h3]
/-- what stands ahead, moved -/
def mvS (f : Cr → Cr) (s : Sc) : Sc := (s.1, s.2.map f)
theorem chn_like {ss ts : List Sty} {f : Cr → Cr} {g : Int → Int} : ∀ (l : List Cr) (rs : List Int) (s : Sc), Like ss ts f g l rs → (∀ a, s.2 = some a → (f a).kind = a.kind ∧ (f a).r = a.r ∧ stl ts (f a).node = stl ss a.node) → chn ts (mvS f s) (l.map f) (rs.map g) = chn ss s l rs
  | [], _, _, _, _ => rfl
  | _ :: _, [], _, _, _ => rfl
  | c :: t, r :: rt, s, h, hs => by
    have k1 := h.kind c (by simp)
    have k2 := h.num c (by simp)
    have k3 := h.node c (by simp)
    have k4 := h.rule r (by simp)
    have ec : clsC (f c) (stl ts (f c).node) = clsC c (stl ss c.node) := by rw [k3, clsC_like _ k1 k2]
    have eb : brkC ts (mvS f s).1 (f c) = brkC ss s.1 c := by unfold brkC mvS; rw [ec, k1]
    have en : nxS ts (mvS f s) (f c) = mvS f (nxS ss s c) := by
      unfold nxS mvS nxC
      rw [ec, k1]
      rfl
    show atC ts (mvS f s) (f c) (g r) :: chn ts (nxS ts (mvS f s) (f c)) (t.map f) (rt.map g) = _
    rw [en, chn_like t rt (nxS ss s c) ⟨fun c hc => h.kind c (by simp [hc]), fun c hc => h.num c (by simp [hc]), fun c hc => h.node c (by simp [hc]), fun r hr => h.rule r (by simp [hr])⟩ (fun a ha => by
      injection ha with ha
      subst ha
      exact ⟨k1, k2, k3⟩)]
    show _ = atC ss s c r :: _
    congr 1
    unfold atC
    rw [eb, k4]
    cases h2 : s.2 with
    | none => simp [mvS, h2]
    | some a =>
      obtain ⟨a1, a2, a3⟩ := hs a h2
      simp only [mvS, h2, Option.map_some]
      rw [a3, oneC_like _ _ _ a1 a2 k1 k2]

/-- P10.4: behind a forced break all is as if the list began there -/
theorem behind {ss : List Sty} (s : Sc) {c : Cr} (hc : c.kind = 5) : ∀ (m : List Cr) (qs : List Int), chn ss (nxS ss s c) m qs = chn ss z0 m qs
  | [], _ => rfl
  | _ :: _, [] => rfl
  | d :: t, r :: rt => by
    have e1 : (nxS ss s c).1 = s0 := by unfold nxS nxC; rw [if_pos hc]
    have e2 : atC ss (nxS ss s c) d r = 0 := oneC_forced _ _ _ (.inl hc)
    have e3 : nxS ss (nxS ss s c) d = nxS ss z0 d := by
      show ((nxC ss (nxS ss s c).1 d, some d) : Sc) = (nxC ss s0 d, some d)
      rw [e1]
    show atC ss (nxS ss s c) d r :: chn ss (nxS ss (nxS ss s c) d) t rt = _
    rw [e2, e3]
    rfl
/-- a list, a forced break, another -/
theorem parted {ss : List Sty} {l m : List Cr} {rs qs : List Int} {c : Cr} (q : Int) (h : l.length = rs.length) (hc : c.kind = 5) (_ : c.kind = 5) :
    chn ss z0 (l ++ c :: m) (rs ++ q :: qs) = chn ss z0 l rs ++ 0 :: chn ss z0 m qs := by
  rw [chn_app ss l rs z0 _ _ h]
  show _ ++ atC ss (stC ss z0 l) c q :: chn ss (nxS ss (stC ss z0 l) c) m qs = _
  rw [behind _ hc]
  congr 2
  unfold atC
  split
  · rfl
  · exact oneC_forced _ _ _ (.inr hc)

/-! ### the reference's way: the part that the place lies in -/
/-- the classes of a part -/
def prt (ss : List Sty) (l : List Cr) : List Int := (l.takeWhile fun c => decide (c.kind ≠ 5)).map fun c => clsC c (stl ss c.node)
theorem chn_at {ss : List Sty} {l : List Cr} {rs : List Int} {i : Nat} {a c : Cr} {r : Int} (ha : l[i]? = some a) (hc : l[i + 1]? = some c) (hr : rs[i + 1]? = some r) :
    (chn ss z0 l rs)[i + 1]? = some (oneC a c (stl ss r) (stl ss a.node) (brkC ss (stC ss z0 (l.take (i + 1))).1 c)) := by
  rw [chn_get ss l rs z0 (i + 1) hc hr]
  unfold atC
  rw [stC_prev ss l z0 i ha]
theorem chn_zero {ss : List Sty} {l : List Cr} {rs : List Int} {c : Cr} {r : Int} (hc : l[0]? = some c) (hr : rs[0]? = some r) : (chn ss z0 l rs)[0]? = some 0 := by
  rw [chn_get ss l rs z0 0 hc hr]
  rfl
theorem take_while {α : Type} (p : α → Bool) : ∀ (k : Nat) (m : List α) {c : α}, (∀ j d, j < k → m[j]? = some d → p d = true) → m[k]? = some c → (m.takeWhile p)[k]? = (if p c then some c else none) ∧ (m.takeWhile p).take k = m.take k
  | _, [], _, _, h => by simp at h
  | 0, x :: t, c, _, h => by
    simp at h
    subst h
    rw [List.takeWhile_cons]
    cases hp : p x <;> simp
  | k + 1, x :: t, c, h0, h => by
    have hx : p x = true := h0 0 x (by omega) rfl
    obtain ⟨i1, i2⟩ := take_while p k t (c := c) (fun j d hj hd => h0 (j + 1) d (by omega) (by simpa using hd)) (by simpa using h)
    rw [List.takeWhile_cons, if_pos hx]
    exact ⟨by simpa using i1, by simp [i2]⟩
theorem stC_app (ss : List Sty) (s : Sc) (l m : List Cr) : stC ss s (l ++ m) = stC ss (stC ss s l) m := List.foldl_append
theorem stC_plain (ss : List Sty) : ∀ (m : List Cr) (s : Sc), (∀ c ∈ m, c.kind ≠ 5) → (stC ss s m).1 = Pr.st s.1 (m.map fun c => clsC c (stl ss c.node))
  | [], _, _ => rfl
  | c :: t, s, h => by
    show (stC ss (nxS ss s c) t).1 = Pr.st (nx s.1 (clsC c (stl ss c.node))) (t.map _)
    rw [stC_plain ss t _ fun d hd => h d (by simp [hd])]
    show Pr.st (nxC ss s.1 c) _ = _
    unfold nxC
    rw [if_neg (h c (by simp))]
theorem stC_begin {ss : List Sty} {l : List Cr} {j : Nat} (h : j = 0 ∨ ∃ i c, j = i + 1 ∧ l[i]? = some c ∧ c.kind = 5) : (stC ss z0 (l.take j)).1 = s0 := by
  rcases h with rfl | ⟨i, c, rfl, hc, h5⟩
  · rfl
  · rw [stC_succ ss l z0 i hc]
    show nxC ss _ c = s0
    unfold nxC
    rw [if_pos h5]
/-- what layer 9 says of the part is what the state says -/
theorem part_brk {ss : List Sty} {l : List Cr} {j i : Nat} {c : Cr} (hji : j ≤ i) (hc : l[i]? = some c) (hb : j = 0 ∨ ∃ i c, j = i + 1 ∧ l[i]? = some c ∧ c.kind = 5) (hn : ∀ k d, j ≤ k → k < i → l[k]? = some d → d.kind ≠ 5) :
    ((((Pr.plc s0 (prt ss (l.drop j))).map (·.2))[i - j]?).getD false) = brkC ss (stC ss z0 (l.take i)).1 c := by
  have hil := (List.getElem?_eq_some_iff.1 hc).1
  have hm : (l.drop j)[i - j]? = some c := by rw [List.getElem?_drop, show j + (i - j) = i by omega, hc]
  obtain ⟨t1, t2⟩ := take_while (fun c : Cr => decide (c.kind ≠ 5)) (i - j) (l.drop j) (c := c) (fun k d hk hd => by
    rw [List.getElem?_drop] at hd
    simpa using hn (j + k) d (by omega) (by omega) hd) hm
  have e1 : l.take i = l.take j ++ (l.drop j).take (i - j) := by
    rw [← List.take_append_drop j (l.take i), List.take_take, Nat.min_eq_left hji, List.drop_take]
  have e2 : (stC ss z0 (l.take i)).1 = Pr.st s0 (((l.drop j).take (i - j)).map fun c => clsC c (stl ss c.node)) := by
    rw [e1, stC_app, stC_plain ss _ _ fun d hd => by
      obtain ⟨k, hk⟩ := List.getElem?_of_mem hd
      rw [List.getElem?_take] at hk
      split at hk
      · next hki =>
        rw [List.getElem?_drop] at hk
        exact hn (j + k) d (by omega) (by omega) hk
      · cases hk]
    rw [stC_begin hb]
  unfold prt
  by_cases h5 : c.kind = 5
  · rw [if_neg (by simp [h5])] at t1
    have hl : ((l.drop j).takeWhile fun c => decide (c.kind ≠ 5)).length ≤ i - j := List.getElem?_eq_none_iff.1 t1
    rw [List.getElem?_eq_none_iff.2 (by rw [List.length_map, Pr.plc_len, List.length_map]; exact hl)]
    unfold brkC
    rw [if_pos h5]
    rfl
  · rw [if_pos (by simpa using h5)] at t1
    have hp : (((l.drop j).takeWhile fun c => decide (c.kind ≠ 5)).map fun c => clsC c (stl ss c.node))[i - j]? = some (clsC c (stl ss c.node)) := by rw [List.getElem?_map, t1]; rfl
    rw [List.getElem?_map, Pr.plc_get _ s0 (i - j) hp, ← List.map_take, t2, e2]
    unfold brkC
    rw [if_neg h5]
    rfl
end Go.Proofs.Ytnoenccpbbkdeaa.Ch

/- The laws' maths of chance: other Wraps, other Whites, lines that may be broken anywhere, a forced break between two lists. No walk of code. -/
namespace Go.Proofs.Ytnoenccpbbkdeaa.Ch
open Wh (Cr)
open Pr (St nx s0 plcAt)

theorem mayC_is {l : List Cr} {n : Nat} {rs : List Int} (h : mayC l n rs = true) : l.length = rs.length ∧ (∀ c ∈ l, 0 ≤ c.node ∧ c.node < (n : Int) ∧ c.kind ≤ 6) ∧ ∀ i r, 0 < i → rs[i]? = some r → 0 ≤ r ∧ r < (n : Int) := by
  unfold mayC at h
  simp only [Bool.and_eq_true, decide_eq_true_eq] at h
  refine ⟨h.1.1, fun c hc => ?_, fun i r hi hr => ?_⟩
  · have := List.all_eq_true.1 h.1.2 c hc
    unfold okC at this
    simp only [Bool.and_eq_true, decide_eq_true_eq] at this
    exact ⟨this.1.1, this.1.2, this.2⟩
  · have := List.all_eq_true.1 h.2 r (by
      obtain ⟨j, rfl⟩ : ∃ j, i = j + 1 := ⟨i - 1, by omega⟩
      exact List.mem_of_getElem? (i := j) (by rw [List.getElem?_drop, Nat.add_comm]; exact hr))
    unfold okR at this
    simp only [Bool.and_eq_true, decide_eq_true_eq] at this
    exact this
theorem stC_same {ss ts : List Sty} : ∀ (l : List Cr) (s t : Sc), s.1 = t.1 → (∀ c ∈ l, clsC c (stl ts c.node) = clsC c (stl ss c.node)) → (stC ts t l).1 = (stC ss s l).1
  | [], _, _, h, _ => h.symm
  | c :: r, s, t, h, hc => by
    show (stC ts (nxS ts t c) r).1 = (stC ss (nxS ss s c) r).1
    refine stC_same r _ _ ?_ fun d hd => hc d (by simp [hd])
    show nxC ss s.1 c = nxC ts t.1 c
    unfold nxC
    rw [hc c (by simp), h]
theorem brkC_same {ss ts : List Sty} {s : St} {c : Cr} (h : clsC c (stl ts c.node) = clsC c (stl ss c.node)) : brkC ts s c = brkC ss s c := by
  unfold brkC
  rw [h]

/-- one list of styles in place of another: what is at a place -/
theorem chn_other {ss : List Sty} {f : Sty → Sty} {l : List Cr} {rs : List Int} (hm : mayC l ss.length rs = true) {i : Nat} {a c : Cr} {r : Int} (ha : l[i]? = some a) (hc : l[i + 1]? = some c) (hr : rs[i + 1]? = some r) (hf : ∀ s, (f s).a1 = s.a1 ∧ (f s).a3 = s.a3) :
    (chn (ss.map f) z0 l rs)[i + 1]? = some (oneC a c (f (stl ss r)) (f (stl ss a.node)) (brkC ss (stC ss z0 (l.take (i + 1))).1 c)) := by
  obtain ⟨_, h1, h2⟩ := mayC_is hm
  have hcls : ∀ d ∈ l, clsC d (stl (ss.map f) d.node) = clsC d (stl ss d.node) := fun d hd => by
    rw [stl_map f (h1 d hd).1 (h1 d hd).2.1]
    exact clsC_same (hf _).1 (hf _).2
  have ma := h1 a (List.mem_of_getElem? ha)
  have mr := h2 (i + 1) r (by omega) hr
  rw [chn_at ha hc hr, stl_map f mr.1 mr.2, stl_map f ma.1 ma.2.1, brkC_same (hcls c (List.mem_of_getElem? hc)), stC_same (l.take (i + 1)) z0 z0 rfl fun d hd => hcls d (List.mem_of_mem_take hd)]
/-- P10.3, its first half -/
theorem none_at {ss : List Sty} {l : List Cr} {rs : List Int} (hm : mayC l ss.length rs = true) (hw : ∀ s ∈ ss, s.a0 = 1 ∨ s.a0 = 2) {i : Nat} {c : Cr} {r : Int} (hc : l[i]? = some c) (hr : rs[i]? = some r) : (chn ss z0 l rs)[i]? = some 0 := by
  cases i with
  | zero => exact chn_zero hc hr
  | succ i =>
    have hl := (List.getElem?_eq_some_iff.1 hc).1
    obtain ⟨a, ha⟩ : ∃ a, l[i]? = some a := ⟨_, List.getElem?_eq_getElem (by omega)⟩
    obtain ⟨_, _, h2⟩ := mayC_is hm
    have mr := h2 (i + 1) r (by omega) hr
    rw [chn_at ha hc hr]
    congr 1
    refine oneC_none _ _ (hw _ ?_)
    unfold stl
    rw [List.getD_eq_getElem?_getD, List.getElem?_eq_getElem (by omega)]
    exact List.getElem_mem _
def wrp (v : Int) (s : Sty) : Sty := { s with a2 := v }
/-- P10.3, its second half: a, with the list's own Wraps; b with all WrAnywhere; c without -/
theorem more_at {ss : List Sty} {l : List Cr} {rs : List Int} (hm : mayC l ss.length rs = true) {i : Nat} (hi : i < l.length) :
    ∃ a b c : Int, (chn ss z0 l rs)[i]? = some a ∧ (chn (ss.map (wrp 1)) z0 l rs)[i]? = some b ∧ (chn (ss.map (wrp 0)) z0 l rs)[i]? = some c ∧ ¬ c = 2 ∧ (a = 1 ↔ b = 1) ∧ (a = 1 ↔ c = 1) ∧ (a = 2 → b = 2) := by
  have hlen := (mayC_is hm).1
  obtain ⟨c, hc⟩ : ∃ c, l[i]? = some c := ⟨_, List.getElem?_eq_getElem hi⟩
  obtain ⟨r, hr⟩ : ∃ r, rs[i]? = some r := ⟨_, List.getElem?_eq_getElem (by omega)⟩
  cases i with
  | zero => exact ⟨0, 0, 0, chn_zero hc hr, chn_zero hc hr, chn_zero hc hr, by decide, Iff.rfl, Iff.rfl, fun h => h⟩
  | succ i =>
    obtain ⟨a, ha⟩ : ∃ a, l[i]? = some a := ⟨_, List.getElem?_eq_getElem (by omega)⟩
    have w1 := oneC_wrap (a := a) (b := c) (r := stl ss r) (r' := wrp 1 (stl ss r)) (sa := stl ss a.node) (sa' := wrp 1 (stl ss a.node)) (brkC ss (stC ss z0 (l.take (i + 1))).1 c) rfl rfl rfl rfl
    have w0 := oneC_wrap (a := a) (b := c) (r := stl ss r) (r' := wrp 0 (stl ss r)) (sa := stl ss a.node) (sa' := wrp 0 (stl ss a.node)) (brkC ss (stC ss z0 (l.take (i + 1))).1 c) rfl rfl rfl rfl
    exact ⟨_, _, _, chn_at ha hc hr, chn_other hm ha hc hr (fun _ => ⟨rfl, rfl⟩), chn_other hm ha hc hr (fun _ => ⟨rfl, rfl⟩), w0.2.2 (by show ¬ (0 : Int) = 1; decide), w1.1, w0.1, w1.2.1 rfl⟩
/-- where lines may be broken anywhere -/
theorem any_at {ss : List Sty} {l : List Cr} {rs : List Int} (hm : mayC l ss.length rs = true) (hs : ∀ s ∈ ss, s.a0 = 0 ∧ s.a3 = 3) {i : Nat} {a c : Cr} {r : Int} (ha : l[i]? = some a) (hc : l[i + 1]? = some c) (hr : rs[i + 1]? = some r) :
    (chn ss z0 l rs)[i + 1]? = some (if a.kind = 5 ∨ c.kind = 5 ∨ c.kind = 1 ∨ c.kind = 2 ∨ markC c = true then 0 else 1) := by
  obtain ⟨_, h1, h2⟩ := mayC_is hm
  have ma := h1 a (List.mem_of_getElem? ha)
  have mr := h2 (i + 1) r (by omega) hr
  have hin : ∀ {n : Int}, 0 ≤ n → n < (ss.length : Int) → stl ss n ∈ ss := fun {n} h0 hn => by
    unfold stl
    rw [List.getD_eq_getElem?_getD, List.getElem?_eq_getElem (by omega)]
    exact List.getElem_mem _
  have kr := hs _ (hin mr.1 mr.2)
  have ka := hs _ (hin ma.1 ma.2.1)
  rw [chn_at ha hc hr, oneC_any _ kr.1 ka.1 kr.2]

/-! ### a forced break between two lists -/
def shN (k : Int) (c : Cr) : Cr := { c with node := c.node + k }
/-- the rules of the second list, put behind the first: the first of them is not looked at -/
def shR (n : Int) : List Int → List Int
  | [] => []
  | _ :: t => n :: t.map (· + (n + 1))
theorem stl_two {ss ts : List Sty} (z : Sty) {n : Int} (h0 : 0 ≤ n) (h1 : n < (ts.length : Int)) : stl (ss ++ z :: ts) (n + ((ss.length : Int) + 1)) = stl ts n := by
  have e : ss ++ z :: ts = (ss ++ [z]) ++ ts := by simp
  have := stl_app2 (ss := ss ++ [z]) (ts := ts) h0 h1
  rw [List.length_append, List.length_singleton] at this
  rw [e, ← this]
  congr 1
theorem parts_is {ss ts : List Sty} (z : Sty) {l m : List Cr} {rs qs : List Int} {c : Cr} (q : Int) (hl : mayC l ss.length rs = true) (hm : mayC m ts.length qs = true) (hc : c.kind = 5) :
    chn (ss ++ z :: ts) z0 (l ++ c :: m.map (shN ((ss.length : Int) + 1))) (rs ++ q :: shR (ss.length : Int) qs) = chn ss z0 l rs ++ 0 :: chn ts z0 m qs := by
  obtain ⟨a1, a2, a3⟩ := mayC_is hl
  obtain ⟨b1, b2, b3⟩ := mayC_is hm
  rw [parted q a1 hc hc]
  congr 1
  · -- the first list: its nodes and rules are the first list's
    cases l with
    | nil => rfl
    | cons d t =>
      cases rs with
      | nil => simp at a1
      | cons r rt =>
        rw [chn_first (ss ++ z :: ts) d t r 0 rt, chn_first ss d t r 0 rt]
        by_cases h0 : 0 < ss.length
        · have := chn_like (ss := ss) (ts := ss ++ z :: ts) (f := id) (g := id) (d :: t) (0 :: rt) z0 ⟨fun _ _ => rfl, fun _ _ => rfl, fun e he => stl_app1 (a2 e he).1 (a2 e he).2.1, fun e he => by
            rcases List.mem_cons.1 he with rfl | he
            · exact stl_app1 (n := 0) (by decide) (by omega)
            · obtain ⟨i, hi⟩ := List.getElem?_of_mem he
              exact stl_app1 (a3 (i + 1) e (by omega) (by simpa using hi)).1 (a3 (i + 1) e (by omega) (by simpa using hi)).2⟩ (fun a h => by cases h)
          rw [List.map_id, List.map_id] at this
          exact this
        · have := (a2 d (by simp)).1
          have := (a2 d (by simp)).2.1
          omega
  · congr 1
    cases m with
    | nil => rfl
    | cons d t =>
      cases qs with
      | nil => simp at b1
      | cons r rt =>
        show chn _ z0 (shN _ d :: t.map _) ((ss.length : Int) :: rt.map _) = _
        rw [chn_first _ _ _ (ss.length : Int) (0 + ((ss.length : Int) + 1)) _, chn_first ts d t r 0 rt]
        have h0 : 0 < ts.length := by
          have := (b2 d (by simp)).1
          have := (b2 d (by simp)).2.1
          omega
        exact chn_like (ss := ts) (ts := ss ++ z :: ts) (f := shN ((ss.length : Int) + 1)) (g := (· + ((ss.length : Int) + 1))) (d :: t) (0 :: rt) z0 ⟨fun _ _ => rfl, fun _ _ => rfl, fun e he => stl_two z (b2 e he).1 (b2 e he).2.1, fun e he => by
            rcases List.mem_cons.1 he with rfl | he
            · exact stl_two z (by omega) (by omega)
            · obtain ⟨i, hi⟩ := List.getElem?_of_mem he
              exact stl_two z (b3 (i + 1) e (by omega) (by simpa using hi)).1 (b3 (i + 1) e (by omega) (by simpa using hi)).2⟩ (fun a h => by cases h)
theorem mayC_parts {ss ts : List Sty} (z : Sty) {l m : List Cr} {rs qs : List Int} {c : Cr} (hl : mayC l ss.length rs = true) (hm : mayC m ts.length qs = true) (hc : c.kind = 5) (hn : c.node = (ss.length : Int)) :
    mayC (l ++ c :: m.map (shN ((ss.length : Int) + 1))) (ss ++ z :: ts).length (rs ++ (ss.length : Int) :: shR (ss.length : Int) qs) = true := by
  obtain ⟨a1, a2, a3⟩ := mayC_is hl
  obtain ⟨b1, b2, b3⟩ := mayC_is hm
  have hlen : (shR (ss.length : Int) qs).length = qs.length := by cases qs <;> simp [shR]
  have hs : ((ss ++ z :: ts).length : Int) = (ss.length : Int) + 1 + (ts.length : Int) := by simp; omega
  unfold mayC
  rw [Bool.and_eq_true, Bool.and_eq_true]
  refine ⟨⟨decide_eq_true (by simp [hlen]; omega), List.all_eq_true.2 fun d hd => ?_⟩, List.all_eq_true.2 fun r hr => ?_⟩
  · unfold okC
    simp only [Bool.and_eq_true, decide_eq_true_eq]
    rw [hs]
    rcases List.mem_append.1 hd with h | h
    · have := a2 d h
      omega
    · rcases List.mem_cons.1 h with rfl | h
      · omega
      · obtain ⟨e, he, rfl⟩ := List.mem_map.1 h
        have := b2 e he
        show (0 ≤ e.node + _ ∧ e.node + _ < _) ∧ e.kind ≤ 6
        omega
  · unfold okR
    simp only [Bool.and_eq_true, decide_eq_true_eq]
    rw [hs]
    obtain ⟨i, hi⟩ := List.getElem?_of_mem hr
    rw [List.getElem?_drop] at hi
    by_cases h : 1 + i < rs.length
    · rw [List.getElem?_append_left h] at hi
      have := a3 (1 + i) r (by omega) hi
      omega
    · rw [List.getElem?_append_right (by omega)] at hi
      have hm2 := List.mem_of_getElem? hi
      rcases List.mem_cons.1 hm2 with rfl | hm2
      · omega
      · cases qs with
        | nil => simp [shR] at hm2
        | cons q0 qt =>
          rcases List.mem_cons.1 hm2 with rfl | hm2
          · omega
          · obtain ⟨e, he, rfl⟩ := List.mem_map.1 hm2
            obtain ⟨k, hk⟩ := List.getElem?_of_mem he
            have := b3 (k + 1) e (by omega) (by simpa using hk)
            omega
end Go.Proofs.Ytnoenccpbbkdeaa.Ch
