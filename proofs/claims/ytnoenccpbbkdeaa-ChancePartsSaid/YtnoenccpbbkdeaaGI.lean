/- Plain facts on where lines may end: what a character counts as, the rules, places one by one with what stands ahead as a state; the five laws' maths. No walk of code. -/
import Derived.ProofKit
import Derived.Test.YtnoenccpbbkdeaaBase
namespace Go.Proofs.Ytnoenccpbbkdeaa.Pr

/-- what a number counts as, if it is no mark -/
def base (c : Int) : Int := if c = 20 then 19 else if 26 < c then 0 else c
/-- nothing clings to these -/
def bare (d : Int) : Bool := decide (1 ≤ d ∧ d ≤ 6)
/-- what a character counts as behind one that counts as p; and does it cling? -/
def cnt (p : Option Int) (c : Int) : Int × Bool :=
  if base c = 9 then (match p with | none => (0, false) | some d => if bare d then (0, false) else (d, true)) else (base c, false)
theorem base_of {c : Int} (h0 : 0 ≤ c) : 0 ≤ base c ∧ base c ≤ 26 := by
  unfold base
  split
  · omega
  · split <;> omega
def inside (d : Int) : Prop := 0 ≤ d ∧ d ≤ 26 ∧ d ≠ 9 ∧ d ≠ 20
theorem cnt_in {p : Option Int} {c : Int} (h0 : 0 ≤ c) (hp : ∀ d, p = some d → inside d) : inside (cnt p c).1 := by
  unfold cnt
  split
  · split
    · unfold inside; decide
    · next d =>
      split
      · unfold inside; decide
      · exact hp d rfl
  · next h =>
    have := base_of h0
    refine ⟨this.1, this.2, h, ?_⟩
    unfold base
    split
    · decide
    · next h20 => split <;> omega

def hard (d : Int) : Bool := d == 2 || d == 3 || d == 4
/-- the pairs of rules 23, 24, 25 -/
def two23 (a b : Int) : Bool := (a == 0 && b == 22) || (a == 22 && b == 0) || (a == 23 && b == 25) || (a == 25 && b == 24)
def two24 (a b : Int) : Bool := (a == 23 && b == 0) || (a == 24 && b == 0) || (a == 0 && b == 23) || (a == 0 && b == 24)
def two25 (a b : Int) : Bool := (a == 15 && b == 24) || (a == 15 && b == 23) || (a == 22 && b == 24) || (a == 22 && b == 23) || (a == 24 && b == 14) || (a == 24 && b == 22) || (a == 23 && b == 14) || (a == 23 && b == 22) || (a == 13 && b == 22) || (a == 18 && b == 22) || (a == 22 && b == 22)
def last (a b : Int) : Int × Bool :=
  if two23 a b then (23, false) else if two24 a b then (24, false) else if two25 a b then (25, false) else if a == 0 && b == 0 then (28, false) else if a == 18 && b == 0 then (29, false) else (31, true)
/-- the rules: o is the last class ahead that is no space, 'none' if there is none -/
def rule (a b : Int) (o : Option Int) (cl : Bool) : Int × Bool :=
  if a == 1 then (4, true) else
  if hard a then (5, !(a == 2 && b == 3)) else
  if b == 1 || hard b then (6, false) else
  if b == 5 || b == 6 then (7, false) else
  if o == some 6 then (8, true) else
  if cl then (9, false) else
  if a == 7 || b == 7 then (11, false) else
  if a == 8 || (b == 8 && !(a == 5 || a == 10 || a == 13)) then (12, false) else
  if b == 15 || b == 17 || b == 18 then (13, false) else
  if o == some 14 then (14, false) else
  if o == some 16 && b == 14 then (15, false) else
  if o == some 15 && b == 19 then (16, false) else
  if o == some 12 && b == 12 then (17, false) else
  if a == 5 then (18, true) else
  if a == 16 || b == 16 then (19, false) else
  if a == 26 || b == 26 then (20, true) else
  if b == 10 || b == 13 || b == 19 || a == 11 then (21, false) else
  if b == 21 then (22, false) else
  last a b

/-- what stands ahead: what the last one counts as, and the last that is no space -/
abbrev St := Option Int × Option Int
def nx (s : St) (c : Int) : St := let d := (cnt s.1 c).1; (some d, if d = 5 then s.2 else some d)
def st (s : St) (l : List Int) : St := l.foldl nx s
def s0 : St := (none, none)
def plcAt (s : St) (c : Int) : Int × Bool := match s.1 with | none => (0, false) | some a => rule a (cnt (some a) c).1 s.2 (cnt (some a) c).2
def plc (s : St) : List Int → List (Int × Bool)
  | [] => []
  | c :: t => plcAt s c :: plc (nx s c) t
/-- must a line end? -/
def mst (p : Int × Bool) : Bool := p.2 && decide (4 ≤ p.1 ∧ p.1 ≤ 5)
theorem plc_len : ∀ (l : List Int) (s : St), (plc s l).length = l.length
  | [], _ => rfl
  | c :: t, s => by rw [plc, List.length_cons, List.length_cons, plc_len t]
theorem plc_app : ∀ (l m : List Int) (s : St), plc s (l ++ m) = plc s l ++ plc (st s l) m
  | [], _, _ => rfl
  | c :: t, m, s => by
    show plcAt s c :: plc (nx s c) (t ++ m) = _
    rw [plc_app t m]
    rfl
theorem st_app (l m : List Int) (s : St) : st s (l ++ m) = st (st s l) m := List.foldl_append
theorem take_app {α : Type} (l m : List α) {k : Nat} (h : l.length = k) : (l ++ m).take k = l := by rw [← h, List.take_left]
theorem plc_take (l : List Int) (s : St) (k : Nat) : plc s (l.take k) = (plc s l).take k := by
  by_cases h : k ≤ l.length
  · conv => rhs; rw [← List.take_append_drop k l, plc_app]
    rw [take_app _ _ (by rw [plc_len, List.length_take]; omega)]
  · rw [List.take_of_length_le (by omega), List.take_of_length_le (by rw [plc_len]; omega)]
theorem plc_drop (l : List Int) (s : St) (k : Nat) (h : k ≤ l.length) : (plc s l).drop k = plc (st s (l.take k)) (l.drop k) := by
  conv => lhs; rw [← List.take_append_drop k l, plc_app]
  rw [List.drop_left' (by rw [plc_len, List.length_take]; omega)]
theorem plc_get (l : List Int) (s : St) (i : Nat) {c : Int} (h : l[i]? = some c) : (plc s l)[i]? = some (plcAt (st s (l.take i)) c) := by
  have hi := (List.getElem?_eq_some_iff.1 h).1
  have e := plc_drop l s i (by omega)
  have h2 : ((plc s l).drop i)[0]? = (plc s l)[i]? := by rw [List.getElem?_drop, Nat.add_zero]
  rw [← h2, e]
  have h3 : l.drop i = c :: l.drop (i + 1) := by
    obtain ⟨_, he⟩ := List.getElem?_eq_some_iff.1 h
    rw [List.drop_eq_getElem_cons hi, he]
  rw [h3]
  rfl
theorem st_succ (l : List Int) (s : St) (i : Nat) {c : Int} (h : l[i]? = some c) : st s (l.take (i + 1)) = nx (st s (l.take i)) c := by
  rw [List.take_add_one, h]
  show st s (l.take i ++ [c]) = _
  rw [st_app]
  rfl
theorem plc_take_succ (l : List Int) (s : St) (i : Nat) {c : Int} (h : l[i]? = some c) : plc s (l.take (i + 1)) = plc s (l.take i) ++ [plcAt (st s (l.take i)) c] := by
  rw [List.take_add_one, h]
  show plc s (l.take i ++ [c]) = _
  rw [plc_app]
  rfl

/-- all that stands in a state is a class, no mark -/
def StIn (s : St) : Prop := (∀ d, s.1 = some d → inside d) ∧ ∀ d, s.2 = some d → inside d
theorem StIn.zero : StIn s0 := ⟨fun d h => (by cases h), fun d h => (by cases h)⟩
theorem StIn.nx {s : St} {c : Int} (h : StIn s) (h0 : 0 ≤ c) : StIn (nx s c) := by
  have h1 := cnt_in (p := s.1) h0 h.1
  refine ⟨fun d hd => ?_, fun d hd => ?_⟩
  · injection hd with hd
    exact hd ▸ h1
  · unfold Pr.nx at hd
    dsimp only at hd
    split at hd
    · exact h.2 d hd
    · injection hd with hd
      exact hd ▸ h1
theorem StIn.st : ∀ (l : List Int) {s : St}, StIn s → (∀ c ∈ l, 0 ≤ c) → StIn (st s l)
  | [], _, h, _ => h
  | c :: t, s, h, hl => StIn.st t (h.nx (hl c (by simp))) (fun d hd => hl d (by simp [hd]))

/-! ### the table, decided -/
def classes : List Int := [0, 1, 2, 3, 4, 5, 6, 7, 8, 10, 11, 12, 13, 14, 15, 16, 17, 18, 19, 21, 22, 23, 24, 25, 26]
theorem mem_classes {d : Int} (h : inside d) : d ∈ classes := by
  obtain ⟨h0, h1, h2, h3⟩ := h
  unfold classes
  simp only [List.mem_cons, List.not_mem_nil, or_false]
  omega

/-- a line must end only where it may -/
theorem mst_may {p : Int × Bool} (h : mst p = true) : p.2 = true := by
  unfold mst at h
  cases h2 : p.2 with
  | true => rfl
  | false => rw [h2] at h; cases h
theorem plc_zero (c : Int) (t : List Int) : (plc s0 (c :: t))[0]? = some (0, false) := rfl

/-- P9.4: a mark behind what it clings to -/
theorem nx_mark {s : St} {d : Int} (h : s = (some d, some d)) (hb : bare d = false) : nx s 9 = s := by
  subst h
  unfold bare at hb
  have h5 : ¬ d = 5 := by rintro rfl; simp at hb
  have e : cnt (some d) 9 = (d, true) := by
    unfold cnt
    rw [if_pos (by decide)]
    show (if bare d then ((0 : Int), false) else (d, true)) = _
    unfold bare
    rw [hb]
    rfl
  unfold nx
  dsimp only
  rw [e]
  simp [h5]
/-- the state behind a character that is no space -/
theorem nx_is {s : St} {c : Int} (h : (cnt s.1 c).1 ≠ 5) : nx s c = (some (cnt s.1 c).1, some (cnt s.1 c).1) := by
  unfold nx
  dsimp only
  rw [if_neg h]
def clingAt (s : St) (c : Int) : Bool := (cnt s.1 c).2
theorem cling_nine {s : St} (h : clingAt s 9 = true) : ∃ d, s.1 = some d ∧ bare d = false := by
  unfold clingAt cnt at h
  rw [if_pos (by decide)] at h
  split at h
  · cases h
  · next d hd =>
    refine ⟨d, hd, ?_⟩
    cases hb : bare d with
    | false => rfl
    | true => rw [hb] at h; cases h
theorem mark_state {s : St} {c : Int} (h : clingAt (nx s c) 9 = true) : nx (nx s c) 9 = nx s c := by
  obtain ⟨d, hd, hb⟩ := cling_nine h
  have h1 : (cnt s.1 c).1 = d := by injection hd
  have h5 : (cnt s.1 c).1 ≠ 5 := by rw [h1]; rintro rfl; revert hb; decide
  have e := nx_is h5
  rw [h1] at e
  exact nx_mark e hb
theorem mark_no {s : St} {d : Int} (h : s = (some d, some d)) (hb : bare d = false) (hin : inside d) : (plcAt s 9).2 = false := by
  subst h
  have : ∀ d ∈ classes, bare d = false → (plcAt (some d, some d) 9).2 = false := by decide +kernel
  exact this d (mem_classes hin) hb
/-- the rows beside: l[:k+1], a mark, l[k+1:] -/
theorem marks {l : List Int} {k : Nat} {c : Int} (h : l[k]? = some c) (hl : ∀ c ∈ l, 0 ≤ c) (hc : clingAt (st s0 (l.take (k + 1))) 9 = true) :
    plc s0 (l.take (k + 1) ++ 9 :: l.drop (k + 1)) = (plc s0 l).take (k + 1) ++ plcAt (st s0 (l.take (k + 1))) 9 :: (plc s0 l).drop (k + 1) ∧ (plcAt (st s0 (l.take (k + 1))) 9).2 = false := by
  have hk := (List.getElem?_eq_some_iff.1 h).1
  have e := st_succ l s0 k h
  have hm : nx (st s0 (l.take (k + 1))) 9 = st s0 (l.take (k + 1)) := by rw [e] at hc ⊢; exact mark_state hc
  constructor
  · rw [plc_app, plc_take, plc_drop l s0 (k + 1) (by omega)]
    show _ ++ plcAt _ 9 :: plc (nx _ 9) _ = _
    rw [hm]
  · rw [e] at hc
    obtain ⟨d, hd, hb⟩ := cling_nine hc
    have h1 : (cnt (st s0 (l.take k)).1 c).1 = d := by injection hd
    have h5 : (cnt (st s0 (l.take k)).1 c).1 ≠ 5 := by rw [h1]; rintro rfl; revert hb; decide
    have e2 := nx_is h5
    rw [h1] at e2
    rw [e]
    have hin := (StIn.st (l.take k) StIn.zero (fun c hc => hl c (List.mem_of_mem_take hc))).nx (c := c) (hl c (List.mem_of_getElem? h))
    exact mark_no e2 hb (hin.1 d hd)

/-- one more space behind one -/
theorem nx_space (s : St) : nx s 5 = (some 5, s.2) := rfl
theorem space_rule (s : St) : plcAt (nx s 5) 5 = (7, false) := by
  rw [nx_space]
  rfl
theorem spaces {l : List Int} {k : Nat} (h : l[k]? = some 5) :
    plc s0 (l.take (k + 1) ++ 5 :: l.drop (k + 1)) = (plc s0 l).take (k + 1) ++ (7, false) :: (plc s0 l).drop (k + 1) := by
  have hk := (List.getElem?_eq_some_iff.1 h).1
  have e := st_succ l s0 k h
  rw [plc_app, plc_take, plc_drop l s0 (k + 1) (by omega)]
  show _ ++ plcAt _ 5 :: plc (nx _ 5) _ = _
  rw [e, space_rule]
  rfl

/-- rows of one class -/
theorem alike {c : Int} {r : Int × Bool} {s : St} (hs : nx s c = s) (hr : plcAt s c = r) : ∀ n, plc s (List.replicate n c) = List.replicate n r
  | 0 => rfl
  | n + 1 => by
    show plcAt s c :: plc (nx s c) (List.replicate n c) = _
    rw [hs, hr, alike hs hr n]
    rfl
theorem letters (n : Nat) : (plc s0 (List.replicate n 0)).map (·.2) = List.replicate n false := by
  cases n with
  | zero => rfl
  | succ n =>
    show (plcAt s0 0).2 :: (plc (some 0, some 0) (List.replicate n 0)).map (·.2) = _
    rw [alike (r := (28, false)) rfl rfl n, List.map_replicate]
    rfl
theorem ideographs (n : Nat) : (plc s0 (List.replicate (n + 1) 25)).map (·.2) = false :: List.replicate n true := by
  show (plcAt s0 25).2 :: (plc (some 25, some 25) (List.replicate n 25)).map (·.2) = _
  rw [alike (r := (31, true)) rfl rfl n, List.map_replicate]
  rfl
theorem open_hard : ∀ x : Int, 0 ≤ x → x < 27 → (plc s0 [14, x]).map (·.2) = [false, false] ∧ (plc s0 [1, x]).map mst = [false, true] := by
  intro x h0 h1
  have h : ∀ x ∈ ([0, 1, 2, 3, 4, 5, 6, 7, 8, 9, 10, 11, 12, 13, 14, 15, 16, 17, 18, 19, 20, 21, 22, 23, 24, 25, 26] : List Int), (plc s0 [14, x]).map (·.2) = [false, false] ∧ (plc s0 [1, x]).map mst = [false, true] := by decide +kernel
  refine h x ?_
  simp only [List.mem_cons, List.not_mem_nil, or_false]
  omega
theorem head_rows : (plc s0 [0, 9, 5, 14, 5, 0, 15]) = [(0, false), (9, false), (7, false), (18, true), (7, false), (14, false), (13, false)] ∧ (plc s0 [2, 3, 9]) = [(0, false), (5, false), (5, true)] := by decide +kernel
end Go.Proofs.Ytnoenccpbbkdeaa.Pr

/- Contracts of pair's and the reference's membership tests and of what a character counts as: in, slices.Index, slices.Contains, of, holdsMarks, counts, next. Conditions: the slice reads as the list, at most 1048576 long. -/
namespace Go.Proofs.Ytnoenccpbbkdeaa
open Go.ChangeShapes Go.WideShapes Go.ChangeAt Go.RowKit

/-- numbers of eight bits, as cells -/
def r8 (l : List Int) : List Value := l.map (Value.int .u8)
/-- bools, as cells -/
def rb (l : List Bool) : List Value := l.map Value.bool
theorem r8_len (l : List Int) : (r8 l).length = l.length := by simp [r8]
theorem rb_len (l : List Bool) : (rb l).length = l.length := by simp [rb]
abbrev R8 (w : World) (v : Value) (l : List Int) : Prop := Row (fun _ => False) w v (r8 l)
abbrev RB (w : World) (v : Value) (l : List Bool) : Prop := Row (fun _ => False) w v (rb l)
theorem r8_at {l : List Int} {k : Nat} {x : Int} (h : l[k]? = some x) : (r8 l)[k]? = some (.int .u8 x) := by simp [r8, h]
theorem rb_at {l : List Bool} {k : Nat} {x : Bool} (h : l[k]? = some x) : (rb l)[k]? = some (.bool x) := by simp [rb, h]
/-- is c one of l? -/
def has (l : List Int) (c : Int) : Bool := l.contains c
theorem has_succ {l : List Int} {k : Nat} {x c : Int} (h : l[k]? = some x) (h0 : has (l.take k) c = false) (hx : ¬ x = c) : has (l.take (k + 1)) c = false := by
  unfold has at h0 ⊢
  rw [List.take_add_one, h]
  simp only [List.contains_eq_mem, List.mem_append, decide_eq_false_iff_not, Option.toList_some, List.mem_singleton] at h0 ⊢
  rintro (h1 | h1)
  · exact h0 h1
  · exact hx h1.symm
theorem has_here {l : List Int} {k : Nat} {x : Int} (h : l[k]? = some x) : has l x = true := by
  unfold has
  simp only [List.contains_eq_mem, decide_eq_true_eq]
  exact List.mem_of_getElem? h

set_option maxRecDepth 100000 in
set_option maxHeartbeats 2000000 in
theorem pindex_any (v : Value) (l : List Int) (c : Int) (w : World) (hR : R8 w v l) (hn : l.length ≤ 1048576) :
    Calls Try.prog 95 #[v, .int .u8 c] w fun e w' => ∃ z : Int, e = .returned (.int .i64 z) ∧ w' = w ∧ decide (0 ≤ z) = has l c := by
  have HRw := Lib.hid hR
  obtain ⟨A, cap, rfl⟩ := hR.form
  rw [r8_len] at HRw ⊢
  obtain ⟨n, hl⟩ : ∃ n, l.length = n := ⟨_, rfl⟩
  have HN := Lib.hid hl
  rw [hl] at hn HRw ⊢
  clear hl hR
  go_enter Try.func95, Try.ntmps95
  go_wp2_with fail
  go_loopg [8] n (fun kx i wr => ∃ (k : Nat), i = .int .i64 k ∧ k ≤ n ∧ kx = n - k ∧ wr = w ∧ Hid (has (l.take k) c = false))
  case atStart => exact ⟨0, rfl, by omega, by omega, rfl, Lib.hid rfl⟩
  case round =>
    obtain ⟨k, rfl, hk, rfl, rfl, HC⟩ := hrel
    by_cases hlt : k < n
    · obtain ⟨x, hx⟩ : ∃ x, l[k]? = some x := ⟨_, List.getElem?_eq_getElem (by rw [HN.out]; exact hlt)⟩
      obtain ⟨a, cap2, hv, _, _, hcell⟩ := HRw.out.at_ (by rw [r8_len, HN.out]; omega)
      obtain rfl : A = some a := by injection hv
      have hcz := hcell k _ (r8_at hx)
      have hkz : (k : Int) < n := by omega
      have HX := Lib.hid hx
      clear hv hcell hx
      by_cases hxc : c = x
      · go_wp2_with fail
        go_ret
        refine ⟨_, rfl, rfl, ?_⟩
        rw [hxc, has_here HX.out]
        simp
      · go_wp2_with fail
        go_roundg (n - (k + 1))
        case measure => omega
        case rel => exact ⟨k + 1, by go_num, by omega, rfl, rfl, Lib.hid (has_succ HX.out HC.out fun e => hxc e.symm)⟩
    · have hkn : k = n := by omega
      subst hkn
      go_wp2_with fail
      go_ret
      refine ⟨_, rfl, rfl, ?_⟩
      have := HC.out
      rw [List.take_of_length_le (by rw [HN.out]; omega)] at this
      rw [this]
      rfl

set_option maxRecDepth 100000 in
set_option maxHeartbeats 2000000 in
theorem inref_any (v : Value) (l : List Int) (c : Int) (w : World) (hR : R8 w v l) (hn : l.length ≤ 1048576) :
    Calls Try.prog 93 #[.int .u8 c, v] w fun e w' => e = .returned (.bool (has l c)) ∧ w' = w := by
  have HRw := Lib.hid hR
  obtain ⟨A, cap, rfl⟩ := hR.form
  rw [r8_len] at HRw ⊢
  obtain ⟨n, hl⟩ : ∃ n, l.length = n := ⟨_, rfl⟩
  have HN := Lib.hid hl
  rw [hl] at hn HRw ⊢
  clear hl hR
  go_enter Try.func93, Try.ntmps93
  go_wp2_with fail
  go_loopg [5] n (fun kx i wr => ∃ (k : Nat), i = .int .i64 k ∧ k ≤ n ∧ kx = n - k ∧ wr = w ∧ Hid (has (l.take k) c = false))
  case atStart => exact ⟨0, rfl, by omega, by omega, rfl, Lib.hid rfl⟩
  case round =>
    obtain ⟨k, rfl, hk, rfl, rfl, HC⟩ := hrel
    by_cases hlt : k < n
    · obtain ⟨x, hx⟩ : ∃ x, l[k]? = some x := ⟨_, List.getElem?_eq_getElem (by rw [HN.out]; exact hlt)⟩
      obtain ⟨a, cap2, hv, _, _, hcell⟩ := HRw.out.at_ (by rw [r8_len, HN.out]; omega)
      obtain rfl : A = some a := by injection hv
      have hcz := hcell k _ (r8_at hx)
      have hkz : (k : Int) < n := by omega
      have HX := Lib.hid hx
      clear hv hcell hx
      by_cases hxc : x = c
      · go_wp2_with fail
        go_ret
        refine ⟨retb ?_, rfl⟩
        rw [← hxc, has_here HX.out]
      · go_wp2_with fail
        go_roundg (n - (k + 1))
        case measure => omega
        case rel => exact ⟨k + 1, by go_num, by omega, rfl, rfl, Lib.hid (has_succ HX.out HC.out hxc)⟩
    · have hkn : k = n := by omega
      subst hkn
      go_wp2_with fail
      go_ret
      refine ⟨retb ?_, rfl⟩
      have := HC.out
      rw [List.take_of_length_le (by rw [HN.out]; omega)] at this
      exact this.symm

set_option maxHeartbeats 2000000 in
theorem pcontains_any (v : Value) (l : List Int) (c : Int) (w : World) (hR : R8 w v l) (hn : l.length ≤ 1048576) :
    Calls Try.prog 90 #[v, .int .u8 c] w fun e w' => e = .returned (.bool (has l c)) ∧ w' = w := by
  have C := Lib.hid (pindex_any v l c w hR hn)
  clear hR
  go_enter Try.func90, Try.ntmps90
  go_wp2_with fail
  refine (C.out).mono ?_
  rintro e w1 ⟨z, rfl, rfl, hz⟩
  have HZ := Lib.hid hz
  clear hz C
  by_cases h0 : 0 ≤ z
  · go_wp2_with fail
    go_ret
    refine ⟨retb ?_, rfl⟩
    rw [← HZ.out]
    all_goals simp [h0]
  · go_wp2_with fail
    go_ret
    refine ⟨retb ?_, rfl⟩
    rw [← HZ.out]
    all_goals simp [h0]

set_option maxHeartbeats 2000000 in
theorem pin_any (v : Value) (l : List Int) (c : Int) (w : World) (hR : R8 w v l) (hn : l.length ≤ 1048576) :
    Calls Try.prog 63 #[.int .u8 c, v] w fun e w' => e = .returned (.bool (has l c)) ∧ w' = w := by
  have C := Lib.hid (pcontains_any v l c w hR hn)
  clear hR
  go_enter Try.func63, Try.ntmps63
  go_wp2_with fail
  refine (C.out).mono ?_
  rintro e w1 ⟨rfl, rfl⟩
  clear C
  go_wp2_with fail
  go_ret
  exact ⟨rfl, rfl⟩

/-- a place, as the program has it: a, b, o are 255 where there is none -/
def plV (a b o : Int) (cl : Bool) : Value := .agg #[.int .u8 a, .int .u8 b, .int .u8 o, .bool cl]

set_option maxHeartbeats 2000000 in
theorem pof_any (v : Value) (l : List Int) (a b o x : Int) (cl : Bool) (w : World) (hR : R8 w v l) (hn : l.length ≤ 1048576) :
    Calls Try.prog 64 #[.agg #[.int .u8 a, .int .u8 b, .int .u8 o, .bool cl], .int .u8 x, v] w fun e w' => e = .returned (.bool (decide (a = x) && has l b)) ∧ Below w.heap.size w w' := by
  have hb := below_alloc w (.cells #[.int .u8 a, .int .u8 b, .int .u8 o, .bool cl] 100)
  have C := Lib.hid (pin_any v l b _ (hR.below hb) hn)
  clear hR
  go_enter Try.func64, Try.ntmps64
  by_cases h : a = x
  · subst h
    go_wp2_with fail
    refine (C.out).mono ?_
    rintro e w1 ⟨rfl, rfl⟩
    clear C
    go_wp2_with fail
    go_ret
    exact ⟨retb (by simp), hb⟩
  · go_wp2_with fail
    go_ret
    exact ⟨retb (by simp [h]), hb⟩

/-- none, as the program has it -/
def oI (o : Option Int) : Int := o.getD 255
def hldB (c : Int) : Bool := !(c == 255 || c == 1 || c == 2 || c == 3 || c == 4 || c == 5 || c == 6)
set_option maxHeartbeats 4000000 in
theorem phold_any (c : Int) (w : World) :
    Calls Try.prog 96 #[.int .u8 c] w fun e w' => e = .returned (.bool (hldB c)) ∧ w' = w := by
  go_enter Try.func96, Try.ntmps96
  by_cases h0 : c = 255
  · go_wp2_with fail
    go_ret
    exact ⟨retb (by simp [hldB, h0]), rfl⟩
  by_cases h1 : c = 1
  · go_wp2_with fail
    go_ret
    exact ⟨retb (by simp [hldB, h1]), rfl⟩
  by_cases h2 : c = 2
  · go_wp2_with fail
    go_ret
    exact ⟨retb (by simp [hldB, h2]), rfl⟩
  by_cases h3 : c = 3
  · go_wp2_with fail
    go_ret
    exact ⟨retb (by simp [hldB, h3]), rfl⟩
  by_cases h4 : c = 4
  · go_wp2_with fail
    go_ret
    exact ⟨retb (by simp [hldB, h4]), rfl⟩
  by_cases h5 : c = 5
  · go_wp2_with fail
    go_ret
    exact ⟨retb (by simp [hldB, h5]), rfl⟩
  by_cases h6 : c = 6
  · go_wp2_with fail
    go_ret
    exact ⟨retb (by simp [hldB, h6]), rfl⟩
  · go_wp2_with fail
    go_ret
    exact ⟨retb (by simp [hldB, h0, h1, h2, h3, h4, h5, h6]), rfl⟩

/-- counts, as the program has it -/
def cntI (c p : Int) : Int × Bool := if c = 9 ∧ hldB p = true then (p, true) else if c = 9 ∨ 26 < c then (0, false) else if c = 20 then (19, false) else (c, false)
set_option maxHeartbeats 4000000 in
theorem pcounts_any (c p : Int) (w : World) :
    Calls Try.prog 91 #[.int .u8 c, .int .u8 p] w fun e w' => e = .returned (.tuple #[.int .u8 (cntI c p).1, .bool (cntI c p).2]) ∧ w' = w := by
  have C := Lib.hid (phold_any p w)
  obtain ⟨b, hb⟩ : ∃ b, hldB p = b := ⟨_, rfl⟩
  have HB := Lib.hid hb
  rw [hb] at C
  clear hb
  go_enter Try.func91, Try.ntmps91
  by_cases h9 : c = 9
  · cases b
    · go_wp2_with fail
      refine (C.out).mono ?_
      rintro e w1 ⟨rfl, rfl⟩
      clear C
      go_wp2_with fail
      go_ret2
      exact ⟨by simp [cntI, HB.out, h9], rfl⟩
    · go_wp2_with fail
      refine (C.out).mono ?_
      rintro e w1 ⟨rfl, rfl⟩
      clear C
      go_wp2_with fail
      go_ret2
      exact ⟨by simp [cntI, HB.out, h9], rfl⟩
  · by_cases h26 : 26 < c
    · go_wp2_with fail
      go_ret2
      exact ⟨by simp [cntI, h9, h26], rfl⟩
    · by_cases h20 : c = 20
      · go_wp2_with fail
        go_ret2
        exact ⟨by subst h20; rfl, rfl⟩
      · go_wp2_with fail
        go_ret2
        have e : cntI c p = (c, false) := by unfold cntI; rw [if_neg (fun h => h9 h.1), if_neg (by omega), if_neg h20]
        rw [e]
        exact ⟨rfl, rfl⟩
end Go.Proofs.Ytnoenccpbbkdeaa
