/- Plain facts on the walk of a tree that is a list of parents: its stops, and what is held against them. No walk of code. -/
import Derived.Test.YtgpobhnonjdamaaDoorArMath
namespace Go.Proofs.YtgpobhnonjdamaaDoor

/-- the stops of a walk, fuel f -/
def wlk (ps : List Int) : Nat → Nat → List (Nat × Bool)
  | 0, _ => []
  | f + 1, n => (n, true) :: ((kidsL ps n).flatMap (wlk ps f) ++ [(n, false)])
theorem mem_kids {ps : List Int} {a k : Nat} (h : k ∈ kidsL ps a) : k < ps.length ∧ pr ps k = a := by
  unfold kidsL at h
  rw [List.mem_filter, List.mem_range] at h
  exact ⟨h.1, of_decide_eq_true h.2⟩
theorem flatMap_same {α β : Type} (f g : α → List β) : ∀ l : List α, (∀ x ∈ l, f x = g x) → l.flatMap f = l.flatMap g
  | [], _ => rfl
  | x :: l, h => by
    rw [List.flatMap_cons, List.flatMap_cons, h x (List.mem_cons_self ..), flatMap_same f g l fun y hy => h y (List.mem_cons_of_mem _ hy)]
theorem wlk_fuel {ps : List Int} (h : Tre ps) : ∀ f n, ps.length ≤ n + f → 0 < f → ∀ g, f ≤ g → wlk ps g n = wlk ps f n := by
  intro f
  induction f with
  | zero => intro n _ h0; omega
  | succ f ih =>
    intro n hn _ g hg
    obtain ⟨g', rfl⟩ : ∃ g', g = g' + 1 := ⟨g - 1, by omega⟩
    show (n, true) :: ((kidsL ps n).flatMap (wlk ps g') ++ [(n, false)]) = (n, true) :: ((kidsL ps n).flatMap (wlk ps f) ++ [(n, false)])
    rw [flatMap_same (wlk ps g') (wlk ps f) _ fun k hk => by
      obtain ⟨h1, h2⟩ := mem_kids hk
      have h3 := (h.lt k (by omega)).1
      rw [h2, Int.toNat_natCast] at h3
      exact ih k (by omega) (by omega) g' (by omega)]

/-- one stop, held against the nodes that are open, and the next one -/
def parOk (ps : List Int) (op : List Nat) (n : Nat) : Bool :=
  match op.getLast? with
  | none => true
  | some m => decide (pr ps n = (m : Int))
def stepW (ps : List Int) (s : List Nat × Nat) (x : Nat × Bool) : Option (List Nat × Nat) :=
  if x.2 then
    if x.1 = s.2 ∧ parOk ps s.1 s.2 = true then some (s.1 ++ [s.2], s.2 + 1) else none
  else if s.1.getLast? = some x.1 then some (s.1.dropLast, s.2) else none
def runW (ps : List Int) : List (Nat × Bool) → List Nat × Nat → Option (List Nat × Nat)
  | [], s => some s
  | x :: l, s => (stepW ps s x).bind (runW ps l)
theorem runW_append (ps : List Int) : ∀ (l m : List (Nat × Bool)) (s : List Nat × Nat), runW ps (l ++ m) s = (runW ps l s).bind (runW ps m)
  | [], _, _ => rfl
  | x :: l, m, s => by
    show (stepW ps s x).bind (runW ps (l ++ m)) = ((stepW ps s x).bind (runW ps l)).bind (runW ps m)
    cases stepW ps s x with
    | none => rfl
    | some t => exact runW_append ps l m t
theorem Chn.kids {ps : List Int} {e n : Nat} {l : List Nat} (h : Chn ps e n l) : ∀ (P : Nat → Nat → Prop), (∀ k f, k ∈ l → EndOf ps k f → P k f) →
    ∀ (run : Nat → List (Nat × Bool)) (op : List Nat), (∀ k f, P k f → runW ps (run k) (op, k) = some (op, f)) → runW ps (l.flatMap run) (op, n) = some (op, e) := by
  induction h with
  | nil => intro P _ run op _; rfl
  | cons hf _ ih =>
    rename_i n f l _
    intro P hP run op hr
    rw [List.flatMap_cons, runW_append, hr n f (hP n f (List.mem_cons_self ..) hf)]
    exact ih P (fun k f hk => hP k f (List.mem_cons_of_mem _ hk)) run op hr
/-- a walk comes to each node below n once, in order, and leaves it behind all that it is above -/
theorem wlk_runs {ps : List Int} (h : Tre ps) : ∀ f n e op, ps.length ≤ n + f → 0 < f → EndOf ps n e → parOk ps op n = true → runW ps (wlk ps f n) (op, n) = some (op, e) := by
  intro f
  induction f with
  | zero => intro n e op _ h0; omega
  | succ f ih =>
    intro n e op hn _ he hop
    show (stepW ps (op, n) (n, true)).bind (runW ps ((kidsL ps n).flatMap (wlk ps f) ++ [(n, false)])) = some (op, e)
    have e1 : stepW ps (op, n) (n, true) = some (op ++ [n], n + 1) := by
      unfold stepW
      rw [if_pos rfl, if_pos ⟨rfl, hop⟩]
    rw [e1]
    show runW ps ((kidsL ps n).flatMap (wlk ps f) ++ [(n, false)]) (op ++ [n], n + 1) = some (op, e)
    have hc := kids_chain h he
    rw [runW_append, Chn.kids hc (fun k g => pr ps k = n ∧ k < ps.length ∧ EndOf ps k g) (fun k g hk hg => ⟨(mem_kids hk).2, (mem_kids hk).1, hg⟩) (wlk ps f) (op ++ [n]) (fun k g ⟨h1, h2, h3⟩ => by
      have h4 := (h.lt k (by omega)).1
      rw [h1, Int.toNat_natCast] at h4
      exact ih k g (op ++ [n]) (by omega) (by omega) h3 (by unfold parOk; rw [List.getLast?_concat]; exact decide_eq_true h1))]
    show (stepW ps (op ++ [n], e) (n, false)).bind (runW ps []) = some (op, e)
    have e2 : stepW ps (op ++ [n], e) (n, false) = some (op, e) := by
      unfold stepW
      simp
    rw [e2]
    rfl
end Go.Proofs.YtgpobhnonjdamaaDoor
