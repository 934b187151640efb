/- Plain maths of layer 4 (no program in it): the rows of the program's table and of the document's, the class of a number by either, and what is said of them. -/
import Derived.Test.YtnoenccpbbkdeaaBase
import Derived.Great.BuildSlice
import Derived.Great.Walk
import Derived.Shelf.RegionOpen
namespace Go.Proofs.Ytnoenccpbbkdeaa

abbrev CRow := Int × Int × Int
/-- the rows of the program's table, in order -/
def crows : List CRow := [(0, 8, 9), (9, 9, 10), (10, 10, 3), (11, 12, 1), (13, 13, 2), (14, 31, 9), (32, 32, 5), (33, 33, 17), (34, 34, 16), (36, 36, 23), (37, 37, 24), (39, 39, 16), (40, 40, 14), (41, 41, 15), (43, 43, 23), (44, 44, 18), (45, 45, 13), (46, 47, 18), (48, 57, 22), (58, 59, 18), (63, 63, 17), (91, 91, 14), (92, 92, 23), (93, 93, 15), (123, 123, 14), (124, 124, 10), (125, 125, 15), (127, 132, 9), (133, 133, 4), (134, 159, 9), (160, 160, 8), (161, 161, 14), (162, 162, 24), (163, 165, 23), (171, 171, 16), (173, 173, 10), (176, 176, 24), (177, 177, 23), (180, 180, 11), (187, 187, 16), (191, 191, 14), (712, 712, 11), (716, 716, 11), (768, 879, 9), (1155, 1161, 9), (1425, 1469, 9), (1552, 1562, 9), (1611, 1631, 9), (1632, 1641, 22), (2406, 2415, 22), (4352, 4607, 25), (6832, 6911, 9), (7616, 7679, 9), (8192, 8198, 10), (8199, 8199, 8), (8200, 8202, 10), (8203, 8203, 6), (8204, 8207, 9), (8208, 8208, 10), (8209, 8209, 8), (8210, 8211, 10), (8212, 8212, 12), (8216, 8217, 16), (8218, 8218, 14), (8220, 8221, 16), (8222, 8222, 14), (8228, 8230, 21), (8232, 8233, 1), (8234, 8238, 9), (8239, 8239, 8), (8240, 8247, 24), (8249, 8250, 16), (8252, 8253, 19), (8260, 8260, 18), (8261, 8261, 14), (8262, 8262, 15), (8288, 8288, 7), (8352, 8399, 23), (8400, 8447, 9), (8451, 8451, 24), (8470, 8470, 23), (8722, 8723, 23), (11904, 12287, 25), (12288, 12288, 10), (12289, 12290, 15), (12291, 12292, 25), (12293, 12293, 19), (12294, 12295, 25), (12296, 12296, 14), (12297, 12297, 15), (12298, 12298, 14), (12299, 12299, 15), (12300, 12300, 14), (12301, 12301, 15), (12302, 12302, 14), (12303, 12303, 15), (12304, 12304, 14), (12305, 12305, 15), (12306, 12307, 25), (12308, 12308, 14), (12309, 12309, 15), (12310, 12310, 14), (12311, 12311, 15), (12312, 12312, 14), (12313, 12313, 15), (12314, 12314, 14), (12315, 12315, 15), (12316, 12316, 19), (12317, 12317, 14), (12318, 12319, 15), (12320, 12329, 25), (12330, 12335, 9), (12336, 12352, 25), (12353, 12353, 20), (12354, 12354, 25), (12355, 12355, 20), (12356, 12356, 25), (12357, 12357, 20), (12358, 12358, 25), (12359, 12359, 20), (12360, 12360, 25), (12361, 12361, 20), (12362, 12386, 25), (12387, 12387, 20), (12388, 12418, 25), (12419, 12419, 20), (12420, 12420, 25), (12421, 12421, 20), (12422, 12422, 25), (12423, 12423, 20), (12424, 12429, 25), (12430, 12430, 20), (12431, 12436, 25), (12437, 12438, 20), (12439, 12440, 25), (12441, 12442, 9), (12443, 12446, 19), (12447, 12447, 25), (12448, 12448, 19), (12449, 12449, 20), (12450, 12450, 25), (12451, 12451, 20), (12452, 12452, 25), (12453, 12453, 20), (12454, 12454, 25), (12455, 12455, 20), (12456, 12456, 25), (12457, 12457, 20), (12458, 12482, 25), (12483, 12483, 20), (12484, 12514, 25), (12515, 12515, 20), (12516, 12516, 25), (12517, 12517, 20), (12518, 12518, 25), (12519, 12519, 20), (12520, 12525, 25), (12526, 12526, 20), (12527, 12532, 25), (12533, 12534, 20), (12535, 12538, 25), (12539, 12539, 19), (12540, 12540, 20), (12541, 12542, 19), (12543, 19903, 25), (19968, 42191, 25), (44032, 55203, 25), (63744, 64255, 25), (65024, 65039, 9), (65056, 65071, 9), (65279, 65279, 7), (65281, 65281, 17), (65282, 65287, 25), (65288, 65288, 14), (65289, 65289, 15), (65290, 65291, 25), (65292, 65292, 15), (65293, 65293, 25), (65294, 65294, 15), (65295, 65305, 25), (65306, 65307, 19), (65308, 65310, 25), (65311, 65311, 17), (65312, 65376, 25), (65532, 65532, 26), (126976, 129791, 25), (131072, 262141, 25), (917505, 917999, 9)]
/-- the rows of the document's answer, class by class -/
def rrows : List CRow := [(11, 12, 1), (8232, 8233, 1), (13, 13, 2), (10, 10, 3), (133, 133, 4), (32, 32, 5), (8203, 8203, 6), (8288, 8288, 7), (65279, 65279, 7), (160, 160, 8), (8199, 8199, 8), (8209, 8209, 8), (8239, 8239, 8), (0, 8, 9), (14, 31, 9), (127, 132, 9), (134, 159, 9), (768, 879, 9), (1155, 1161, 9), (1425, 1469, 9), (1552, 1562, 9), (1611, 1631, 9), (6832, 6911, 9), (7616, 7679, 9), (8204, 8207, 9), (8234, 8238, 9), (8400, 8447, 9), (12330, 12335, 9), (12441, 12442, 9), (65024, 65039, 9), (65056, 65071, 9), (917505, 917999, 9), (9, 9, 10), (124, 124, 10), (173, 173, 10), (8192, 8198, 10), (8200, 8202, 10), (8208, 8208, 10), (8210, 8211, 10), (12288, 12288, 10), (180, 180, 11), (712, 712, 11), (716, 716, 11), (8212, 8212, 12), (45, 45, 13), (40, 40, 14), (91, 91, 14), (123, 123, 14), (161, 161, 14), (191, 191, 14), (8218, 8218, 14), (8222, 8222, 14), (8261, 8261, 14), (12296, 12296, 14), (12298, 12298, 14), (12300, 12300, 14), (12302, 12302, 14), (12304, 12304, 14), (12308, 12308, 14), (12310, 12310, 14), (12312, 12312, 14), (12314, 12314, 14), (12317, 12317, 14), (65288, 65288, 14), (41, 41, 15), (93, 93, 15), (125, 125, 15), (8262, 8262, 15), (12289, 12290, 15), (12297, 12297, 15), (12299, 12299, 15), (12301, 12301, 15), (12303, 12303, 15), (12305, 12305, 15), (12309, 12309, 15), (12311, 12311, 15), (12313, 12313, 15), (12315, 12315, 15), (12318, 12319, 15), (65289, 65289, 15), (65292, 65292, 15), (65294, 65294, 15), (34, 34, 16), (39, 39, 16), (171, 171, 16), (187, 187, 16), (8216, 8217, 16), (8220, 8221, 16), (8249, 8250, 16), (33, 33, 17), (63, 63, 17), (65281, 65281, 17), (65311, 65311, 17), (44, 44, 18), (46, 47, 18), (58, 59, 18), (8260, 8260, 18), (8252, 8253, 19), (12293, 12293, 19), (12316, 12316, 19), (12443, 12446, 19), (12448, 12448, 19), (12539, 12539, 19), (12541, 12542, 19), (65306, 65307, 19), (12353, 12353, 20), (12355, 12355, 20), (12357, 12357, 20), (12359, 12359, 20), (12361, 12361, 20), (12387, 12387, 20), (12419, 12419, 20), (12421, 12421, 20), (12423, 12423, 20), (12430, 12430, 20), (12437, 12438, 20), (12449, 12449, 20), (12451, 12451, 20), (12453, 12453, 20), (12455, 12455, 20), (12457, 12457, 20), (12483, 12483, 20), (12515, 12515, 20), (12517, 12517, 20), (12519, 12519, 20), (12526, 12526, 20), (12533, 12534, 20), (12540, 12540, 20), (8228, 8230, 21), (48, 57, 22), (1632, 1641, 22), (2406, 2415, 22), (36, 36, 23), (43, 43, 23), (92, 92, 23), (163, 165, 23), (177, 177, 23), (8352, 8399, 23), (8470, 8470, 23), (8722, 8723, 23), (37, 37, 24), (162, 162, 24), (176, 176, 24), (8240, 8247, 24), (8451, 8451, 24), (4352, 4607, 25), (11904, 12287, 25), (12291, 12292, 25), (12294, 12295, 25), (12306, 12307, 25), (12320, 12329, 25), (12336, 12352, 25), (12354, 12354, 25), (12356, 12356, 25), (12358, 12358, 25), (12360, 12360, 25), (12362, 12386, 25), (12388, 12418, 25), (12420, 12420, 25), (12422, 12422, 25), (12424, 12429, 25), (12431, 12436, 25), (12439, 12440, 25), (12447, 12447, 25), (12450, 12450, 25), (12452, 12452, 25), (12454, 12454, 25), (12456, 12456, 25), (12458, 12482, 25), (12484, 12514, 25), (12516, 12516, 25), (12518, 12518, 25), (12520, 12525, 25), (12527, 12532, 25), (12535, 12538, 25), (12543, 19903, 25), (19968, 42191, 25), (44032, 55203, 25), (63744, 64255, 25), (65282, 65287, 25), (65290, 65291, 25), (65293, 65293, 25), (65295, 65305, 25), (65308, 65310, 25), (65312, 65376, 25), (126976, 129791, 25), (131072, 262141, 25), (65532, 65532, 26)]
/-- the wide ranges -/
def wrows : List (Int × Int) := [(4352, 4447), (11904, 12350), (12353, 42191), (44032, 55203), (63744, 64255), (65072, 65103), (65281, 65376), (65504, 65510), (127744, 128591), (129280, 129535), (131072, 262141)]

def hitB (r : Int) (x : CRow) : Bool := decide (x.1 ≤ r) && decide (r ≤ x.2.1)
theorem hit_iff (r : Int) (x : CRow) : hitB r x = true ↔ x.1 ≤ r ∧ r ≤ x.2.1 := by simp [hitB]
/-- the class of a number, by the document: that of the first row that has it -/
def refOf : List CRow → Int → Int
  | [], _ => 0
  | x :: t, r => if x.1 ≤ r ∧ r ≤ x.2.1 then x.2.2 else refOf t r
/-- how many rows have a number -/
def many (l : List CRow) (r : Int) : Nat := l.countP (hitB r)
/-- rows in order, which do not meet -/
def ordB : List CRow → Bool
  | [] => true
  | x :: t => t.all (fun y => decide (x.2.1 < y.1)) && ordB t
theorem ordB_cons {x : CRow} {t : List CRow} (h : ordB (x :: t) = true) : (∀ y ∈ t, x.2.1 < y.1) ∧ ordB t = true := by
  simp [ordB] at h
  exact ⟨fun y hy => h.1 y.1 y.2.1 y.2.2 hy, h.2⟩

/-- the place of the first row that does not end before r: what the search finds -/
structure Found (l : List CRow) (r : Int) (i : Nat) : Prop where
  le : i ≤ l.length
  before : ∀ j x, j < i → l[j]? = some x → ¬ r ≤ x.2.1
  here : ∀ x, l[i]? = some x → r ≤ x.2.1
/-- the class as the program tells it off that place -/
def clsAt (l : List CRow) (r : Int) (i : Nat) : Int :=
  match l[i]? with
  | some x => if x.1 ≤ r then x.2.2 else 0
  | none => 0

theorem refOf_mem : ∀ (l : List CRow) (r : Int), (∃ x ∈ l, hitB r x = true ∧ refOf l r = x.2.2) ∨ ((∀ x ∈ l, hitB r x = false) ∧ refOf l r = 0)
  | [], r => .inr ⟨by simp, rfl⟩
  | x :: t, r => by
    by_cases h : x.1 ≤ r ∧ r ≤ x.2.1
    · exact .inl ⟨x, by simp, (hit_iff r x).2 h, by simp [refOf, h]⟩
    · have hf : hitB r x = false := by
        cases hb : hitB r x
        · rfl
        · exact absurd ((hit_iff r x).1 hb) h
      have e : refOf (x :: t) r = refOf t r := if_neg h
      rcases refOf_mem t r with ⟨y, hy, h1, h2⟩ | ⟨h1, h2⟩
      · exact .inl ⟨y, by simp [hy], h1, e.trans h2⟩
      · exact .inr ⟨fun y hy => by
          rcases List.mem_cons.1 hy with rfl | hy
          · exact hf
          · exact h1 y hy, e.trans h2⟩

/-- where rows do not meet, a row that has r is the one that is found -/
theorem ord_unique : ∀ (l : List CRow), ordB l = true → (∀ x ∈ l, x.1 ≤ x.2.1) → ∀ (r : Int) (i j : Nat) (x y : CRow), l[i]? = some x → l[j]? = some y → hitB r x = true → hitB r y = true → i = j
  | [], _, _, r, i, j, x, y, hx, _, _, _ => by simp at hx
  | z :: t, ho, hw, r, i, j, x, y, hx, hy, h1, h2 => by
    obtain ⟨hz, ht⟩ := ordB_cons ho
    rw [hit_iff] at h1 h2
    cases i with
    | zero =>
      cases j with
      | zero => rfl
      | succ j =>
        simp at hx hy
        subst hx
        have := hz y (List.mem_of_getElem? hy)
        omega
    | succ i =>
      cases j with
      | zero =>
        simp at hx hy
        subst hy
        have := hz x (List.mem_of_getElem? hx)
        omega
      | succ j =>
        simp at hx hy
        rw [ord_unique t ht (fun x hx => hw x (by simp [hx])) r i j x y hx hy ((hit_iff _ _).2 h1) ((hit_iff _ _).2 h2)]

theorem cls_hit {l : List CRow} (ho : ordB l = true) {r : Int} {i : Nat} (F : Found l r i) {x : CRow} (hx : x ∈ l) (h : hitB r x = true) : clsAt l r i = x.2.2 := by
  obtain ⟨j, hj⟩ := List.getElem?_of_mem hx
  rw [hit_iff] at h
  have hij : ¬ j < i := fun hlt => F.before j x hlt hj h.2
  have hjl : j < l.length := (List.getElem?_eq_some_iff.1 hj).1
  have hil : i < l.length := by omega
  have hi : l[i]? = some l[i] := List.getElem?_eq_getElem hil
  have h2 := F.here _ hi
  have hord : ∀ (l : List CRow), ordB l = true → ∀ (a b : Nat) (x y : CRow), a < b → l[a]? = some x → l[b]? = some y → x.2.1 < y.1 := by
    intro l
    induction l with
    | nil => intro _ a b x y _ hx; simp at hx
    | cons z t ih =>
      intro ho a b x y hab hx hy
      obtain ⟨hz, ht⟩ := ordB_cons ho
      cases b with
      | zero => omega
      | succ b =>
        simp at hy
        cases a with
        | zero =>
          simp at hx
          subst hx
          exact hz y (List.mem_of_getElem? hy)
        | succ a =>
          simp at hx
          exact ih ht a b x y (by omega) hx hy
  by_cases hji : j = i
  · subst hji
    unfold clsAt
    rw [hj]
    simp [h.1]
  · have := hord l ho i j _ x (by omega) hi hj
    omega

theorem cls_none {l : List CRow} {r : Int} {i : Nat} (F : Found l r i) (h : ∀ x ∈ l, hitB r x = false) : clsAt l r i = 0 := by
  unfold clsAt
  cases hi : l[i]? with
  | none => rfl
  | some x =>
    have h1 := h x (List.mem_of_getElem? hi)
    have h2 := F.here x hi
    by_cases h3 : x.1 ≤ r
    · rw [(hit_iff r x).2 ⟨h3, h2⟩] at h1
      cases h1
    · simp [h3]

theorem crows_ord : ordB crows = true := by decide +kernel
theorem crows_in : crows.all (fun x => rrows.contains x) = true := by decide +kernel
theorem rrows_in : rrows.all (fun x => crows.contains x) = true := by decide +kernel
theorem rows_perm : crows.isPerm rrows = true := by decide +kernel
theorem crows_le : crows.all (fun x => decide (x.1 ≤ x.2.1) && (decide (0 ≤ x.1) && (decide (x.2.1 ≤ 1114111) && (decide (0 ≤ x.2.2) && decide (x.2.2 ≤ 26))))) = true := by decide +kernel
theorem rrows_le : rrows.all (fun x => decide (x.1 ≤ x.2.1) && (decide (0 ≤ x.1) && (decide (x.2.1 ≤ 1114111) && (decide (0 ≤ x.2.2) && decide (x.2.2 ≤ 26))))) = true := by decide +kernel
theorem crows_len : crows.length = 188 := by decide +kernel
theorem rrows_len : rrows.length = 188 := by decide +kernel

/-- the class of a number -/
def clsOf (r : Int) : Int := refOf rrows r
/-- WHAT THE SEARCH TELLS IS THE DOCUMENT's CLASS -/
theorem cls_found (r : Int) (i : Nat) (F : Found crows r i) : clsAt crows r i = clsOf r := by
  have A := List.all_eq_true.1 crows_in
  have B := List.all_eq_true.1 rrows_in
  rcases refOf_mem rrows r with ⟨x, hx, h1, h2⟩ | ⟨h1, h2⟩
  · rw [clsOf, h2]
    exact cls_hit crows_ord F (List.contains_iff_mem.1 (B x hx)) h1
  · rw [clsOf, h2]
    exact cls_none F fun x hx => h1 x (List.contains_iff_mem.1 (A x hx))
theorem clsOf_bd (r : Int) : 0 ≤ clsOf r ∧ clsOf r ≤ 26 := by
  rcases refOf_mem rrows r with ⟨x, hx, _, h2⟩ | ⟨_, h2⟩
  · have := List.all_eq_true.1 rrows_le x hx
    simp at this
    rw [clsOf, h2]
    omega
  · rw [clsOf, h2]; omega
theorem many_le (r : Int) : many rrows r ≤ 1 := by
  have hp : crows.Perm rrows := List.isPerm_iff.1 rows_perm
  unfold many
  rw [← hp.countP_eq]
  have : ∀ l : List CRow, ordB l = true → (∀ x ∈ l, x.1 ≤ x.2.1) → l.countP (hitB r) ≤ 1 := by
    intro l
    induction l with
    | nil => intro _ _; simp
    | cons x t ih =>
      intro ho hw
      obtain ⟨hz, ht⟩ := ordB_cons ho
      have iht := ih ht fun y hy => hw y (by simp [hy])
      rw [List.countP_cons]
      by_cases hx : hitB r x = true
      · have h0 : t.countP (hitB r) = 0 := List.countP_eq_zero.2 fun y hy hb => by
          rw [hit_iff] at hx hb
          have := hz y hy
          omega
        rw [h0]
        simp [hx]
      · simp [hx]; exact iht
  exact this crows crows_ord fun x hx => by
    have := List.all_eq_true.1 crows_le x hx
    simp at this
    exact this.1
theorem many_zero (r : Int) (h : many rrows r ≠ 1) : clsOf r = 0 := by
  have h1 := many_le r
  have h0 : many rrows r = 0 := by omega
  unfold many at h0
  rcases refOf_mem rrows r with ⟨x, hx, hh, _⟩ | ⟨_, h2⟩
  · exact absurd hh (List.countP_eq_zero.1 h0 x hx)
  · exact h2

/-- is a number wide? -/
def wideB (r : Int) : Bool := wrows.any fun y => decide (y.1 ≤ r) && decide (r ≤ y.2)
/-- the place of the first range that does not end before r -/
structure WFound (r : Int) (i : Nat) : Prop where
  le : i ≤ wrows.length
  before : ∀ j x, j < i → wrows[j]? = some x → ¬ r ≤ x.2
  here : ∀ x, wrows[i]? = some x → r ≤ x.2
def wideAt (r : Int) (i : Nat) : Bool :=
  match wrows[i]? with
  | some x => decide (x.1 ≤ r)
  | none => false
theorem wrows_ord : ordB (wrows.map fun x => (x.1, x.2, 1)) = true := by decide +kernel
theorem wide_found (r : Int) (i : Nat) (F : WFound r i) : wideAt r i = wideB r := by
  have F' : Found (wrows.map fun x => (x.1, x.2, 1)) r i := by
    refine ⟨by simpa using F.le, fun j x hj hx => ?_, fun x hx => ?_⟩
    · rw [List.getElem?_map, Option.map_eq_some_iff] at hx
      obtain ⟨y, hy, rfl⟩ := hx
      exact F.before j y hj hy
    · rw [List.getElem?_map, Option.map_eq_some_iff] at hx
      obtain ⟨y, hy, rfl⟩ := hx
      exact F.here y hy
  have e : clsAt (wrows.map fun x => (x.1, x.2, 1)) r i = if wideAt r i = true then 1 else 0 := by
    unfold clsAt wideAt
    rw [List.getElem?_map]
    cases wrows[i]? with
    | none => simp
    | some x => simp
  by_cases h : wideB r = true
  · unfold wideB at h
    obtain ⟨x, hx, hh⟩ := List.any_eq_true.1 h
    simp at hh
    have := cls_hit wrows_ord F' (x := (x.1, x.2, 1)) (List.mem_map.2 ⟨x, hx, rfl⟩) ((hit_iff _ _).2 hh)
    rw [e] at this
    have h3 : wideAt r i = true := by
      cases hb : wideAt r i
      · rw [hb] at this; simp at this
      · rfl
    rw [h3]
    exact h.symm
  · have hn : ∀ x ∈ wrows.map (fun x => (x.1, x.2, (1 : Int))), hitB r x = false := by
      intro y hy
      obtain ⟨x, hx, rfl⟩ := List.mem_map.1 hy
      cases hb : hitB r (x.1, x.2, 1)
      · rfl
      · exfalso
        apply h
        unfold wideB
        rw [List.any_eq_true]
        exact ⟨x, hx, by rw [hit_iff] at hb; simpa using hb⟩
    have := cls_none F' hn
    rw [e] at this
    have h3 : wideAt r i = false := by
      cases hb : wideAt r i
      · rfl
      · rw [hb] at this; simp at this
    rw [h3]
    cases hb : wideB r
    · rfl
    · exact absurd hb h

/-- no mark is wide, but those -/
def apartB (x : CRow) (y : Int × Int) : Bool :=
  decide (x.2.1 < y.1) || (decide (y.2 < x.1) || ((decide (12330 ≤ max x.1 y.1) && decide (min x.2.1 y.2 ≤ 12335)) || (decide (12441 ≤ max x.1 y.1) && decide (min x.2.1 y.2 ≤ 12442))))
theorem rows_apart : rrows.all (fun x => x.2.2 != 9 || wrows.all (fun y => apartB x y)) = true := by decide +kernel
theorem mark_wide (r : Int) (h1 : clsOf r = 9) (h2 : wideB r = true) : (12330 ≤ r ∧ r ≤ 12335) ∨ (12441 ≤ r ∧ r ≤ 12442) := by
  rcases refOf_mem rrows r with ⟨x, hx, hh, h3⟩ | ⟨_, h3⟩
  · have hc : x.2.2 = 9 := by rw [← h3]; exact h1
    obtain ⟨y, hy, hw⟩ := List.any_eq_true.1 h2
    have A := List.all_eq_true.1 rows_apart x hx
    rw [hc] at A
    simp only [bne_self_eq_false, Bool.false_or] at A
    have B := List.all_eq_true.1 A y hy
    rw [hit_iff] at hh
    simp at hw
    unfold apartB at B
    simp at B
    omega
  · unfold clsOf at h1
    omega

/-! ### names -/
def nameOf (c : Nat) : List Nat := match [[65, 76], [66, 75], [67, 82], [76, 70], [78, 76], [83, 80], [90, 87], [87, 74], [71, 76], [67, 77], [66, 65], [66, 66], [66, 50], [72, 89], [79, 80], [67, 76], [81, 85], [69, 88], [73, 83], [78, 83], [67, 74], [73, 78], [78, 85], [80, 82], [80, 79], [73, 68], [67, 66]][c]? with
  | some l => l
  | none => []
theorem name_injB : (List.range 27).all (fun a => (List.range 27).all fun b => decide (nameOf a = nameOf b) == decide (a = b)) = true := by decide +kernel
theorem name_inj (a b : Nat) (ha : a < 27) (hb : b < 27) : decide (nameOf a = nameOf b) = decide (a = b) := by
  have h := List.all_eq_true.1 (List.all_eq_true.1 name_injB a (by simpa using ha)) b (by simpa using hb)
  exact eq_of_beq h
theorem name_len (a : Nat) (ha : a < 27) : (nameOf a).length = 2 := by
  have h : (List.range 27).all (fun a => (nameOf a).length == 2) = true := by decide +kernel
  exact eq_of_beq (List.all_eq_true.1 h a (by simpa using ha))
end Go.Proofs.Ytnoenccpbbkdeaa

/- A long literal made by a function: a run of unguarded builds is one step. No function of the program is named. -/
namespace Go.Proofs.Ytnoenccpbbkdeaa
open Go.ChangeShapes Go.WideShapes Go.ChangeAt Go.RowKit

/-- unguarded builds, one after the other -/
def runBuilds (P : Program) : List Oper → Act → Option Act
  | [], a => some a
  | o :: r, a =>
    match o.guard, o.op with
    | none, .build t parts =>
      match P.built t (parts.map fun (i, x) => (i, a.eval x)).toList with
      | some cs => runBuilds P r (a.put o.dst (.agg cs))
      | none => none
    | _, _ => none

theorem wpList_runs {P : Program} {ops : Array Oper} {Q : Exit → Act → World → Prop} {w : World} : ∀ (l rest : List Oper) (a a' : Act), runBuilds P l a = some a' → wpList P ops Q rest a' w → wpList P ops Q (l ++ rest) a w
  | [], rest, a, a', h, h2 => by
    have e : a = a' := Option.some.inj h
    rw [← e] at h2
    exact h2
  | o :: r, rest, a, a', h, h2 => by
    unfold runBuilds at h
    split at h
    · rename_i t parts hg ho
      split at h
      · rename_i cs hc
        exact wpList_buildTo hg t parts ho _ rfl cs hc (wpList_runs r rest _ a' h h2)
      · cases h
    · cases h

/-- THE STEP: n builds off the list's head; what is known of the frame behind them is a closed fact (F) -/
theorem wpList_builds {P : Program} {ops : Array Oper} {Q : Exit → Act → World → Prop} {w : World} {l : List Oper} {a : Act} (n : Nat) {β : Type} (F : Act → β) (y : β)
    (hF : (runBuilds P (l.take n) a).map F = some y) (h : ∀ a', F a' = y → wpList P ops Q (l.drop n) a' w) : wpList P ops Q l a w := by
  obtain ⟨a', ha, hy⟩ := Option.map_eq_some_iff.1 hF
  rw [← List.take_append_drop n l]
  exact wpList_runs _ _ a a' ha (h a' hy)
end Go.Proofs.Ytnoenccpbbkdeaa

/- Contract of the library's sort.Search at a function value of the project's own: the first place at which it answers true. Conditions: below 1000 places; the function leaves what is there as it is, and answers a truth that stays true behind its first place. -/
namespace Go.Proofs.Ytnoenccpbbkdeaa
open Go.ChangeShapes Go.WideShapes Go.ChangeAt Go.RowKit

set_option maxHeartbeats 2000000 in
set_option maxRecDepth 100000 in
theorem search_any (g : Nat) (cb : Array Value) (n : Nat) (p : Nat → Bool) (w : World) (hn : n < 100000)
    (eg : ∀ args w, (callFunc g args).run Try.prog w = .ok (.enter g args) w)
    (hf : ∀ (W : World) (i : Nat), Below w.heap.size w W → i < n → Calls Try.prog g (#[.int .i64 i] ++ cb) W fun e W' => e = .returned (.bool (p i)) ∧ Below W.heap.size W W')
    (hmono : ∀ a b, a ≤ b → b < n → p a = true → p b = true) :
    Calls Try.prog 55 #[.int .i64 n, .func (.func g) #[] cb] w fun e w' => ∃ k : Nat, e = .returned (.int .i64 k) ∧ k ≤ n ∧ Hid ((∀ j, j < k → p j = false) ∧ (k < n → p k = true)) ∧ Below w.heap.size w w' := by
  have HF := Lib.hid hf
  have M := Lib.hid hmono
  clear hf hmono
  go_enter Try.func55, Try.ntmps55
  go_wp2
  go_loopg [5, 6] n (fun kx s5 s6 wr => ∃ (lo hi : Nat), s5 = .int .i64 lo ∧ s6 = .int .i64 hi ∧ lo ≤ hi ∧ hi ≤ n ∧ hi - lo ≤ kx ∧ Below w.heap.size w wr ∧
    Hid ((∀ t, t < lo → p t = false) ∧ (hi < n → p hi = true)))
  case atStart => exact ⟨0, n, rfl, rfl, Nat.zero_le _, Nat.le_refl _, by omega, Below.refl _ _, ⟨fun t ht => absurd ht (Nat.not_lt_zero _), fun h => absurd h (Nat.lt_irrefl _)⟩⟩
  case round =>
    obtain ⟨lo, hi, rfl, rfl, hlh, hin, hg, bel, I⟩ := hrel
    by_cases hlt : lo < hi
    · have hc := HF.out wr ((lo + hi) / 2) bel (by omega)
      rw [show (((lo + hi) / 2 : Nat) : Int) = ((lo : Int) + (hi : Int)) / 2 by omega] at hc
      cases hp : p ((lo + hi) / 2) <;> rw [hp] at hc
      · have HP : Hid (p ((lo + hi) / 2) = false) := hp
        clear hp
        go_wp2_with (go_at_fn g; refine hc.mono ?_; rintro e w' ⟨rfl, bw⟩)
        go_roundg (hi - ((lo + hi) / 2 + 1))
        case measure => omega
        case rel =>
          have I2 : Hid ((∀ t, t < (lo + hi) / 2 + 1 → p t = false) ∧ (hi < n → p hi = true)) := ⟨fun t ht => (by
            cases h : p t with
            | false => rfl
            | true => have := M.out t ((lo + hi) / 2) (by omega) (by omega) h; rw [HP.out] at this; cases this), I.out.2⟩
          exact ⟨(lo + hi) / 2 + 1, hi, by rw [show ((lo : Int) + (hi : Int)) / 2 + 1 = (((lo + hi) / 2 + 1 : Nat) : Int) by omega], rfl, by omega, hin, Nat.le_refl _, bel.trans (bw.mono bel.size), I2⟩
      · have HP : Hid (p ((lo + hi) / 2) = true) := hp
        clear hp
        go_wp2_with (go_at_fn g; refine hc.mono ?_; rintro e w' ⟨rfl, bw⟩)
        go_roundg ((lo + hi) / 2 - lo)
        case measure => omega
        case rel =>
          have I2 : Hid ((∀ t, t < lo → p t = false) ∧ ((lo + hi) / 2 < n → p ((lo + hi) / 2) = true)) := ⟨I.out.1, fun _ => HP.out⟩
          exact ⟨lo, (lo + hi) / 2, rfl, by rw [show ((lo : Int) + (hi : Int)) / 2 = (((lo + hi) / 2 : Nat) : Int) by omega], by omega, by omega, Nat.le_refl _, bel.trans (bw.mono bel.size), I2⟩
    · obtain rfl : hi = lo := by omega
      go_wp2
      go_ret
      exact ⟨hi, rfl, hin, I, bel⟩
end Go.Proofs.Ytnoenccpbbkdeaa
