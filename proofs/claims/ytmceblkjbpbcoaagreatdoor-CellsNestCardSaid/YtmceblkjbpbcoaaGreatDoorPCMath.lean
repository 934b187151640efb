/- Contracts of layers below. -/
import Derived.Test.YtmceblkjbpbcoaaGreatDoorPBase
import Derived.Great.BuildSlice
import Derived.Great.Walk
import Derived.Shelf.RegionOpen
import Derived.Laws.MakeOwn
namespace Go.Proofs.YtmceblkjbpbcoaaGreatDoor
set_option maxRecDepth 100000
set_option maxHeartbeats 4000000
open Go.ChangeShapes Go.WideShapes Go.ChangeAt Go.RowKit
section
abbrev qfq := Int × Int × Int
def crows : List qfq := [(0, 8, 9), (9, 9, 10), (10, 10, 3), (11, 12, 1), (13, 13, 2), (14, 31, 9), (32, 32, 5), (33, 33, 17), (34, 34, 16), (36, 36, 23), (37, 37, 24), (39, 39, 16), (40, 40, 14), (41, 41, 15), (43, 43, 23), (44, 44, 18), (45, 45, 13), (46, 47, 18), (48, 57, 22), (58, 59, 18), (63, 63, 17), (91, 91, 14), (92, 92, 23), (93, 93, 15), (123, 123, 14), (124, 124, 10), (125, 125, 15), (127, 132, 9), (133, 133, 4), (134, 159, 9), (160, 160, 8), (161, 161, 14), (162, 162, 24), (163, 165, 23), (171, 171, 16), (173, 173, 10), (176, 176, 24), (177, 177, 23), (180, 180, 11), (187, 187, 16), (191, 191, 14), (712, 712, 11), (716, 716, 11), (768, 879, 9), (1155, 1161, 9), (1425, 1469, 9), (1552, 1562, 9), (1611, 1631, 9), (1632, 1641, 22), (2406, 2415, 22), (4352, 4607, 25), (6832, 6911, 9), (7616, 7679, 9), (8192, 8198, 10), (8199, 8199, 8), (8200, 8202, 10), (8203, 8203, 6), (8204, 8207, 9), (8208, 8208, 10), (8209, 8209, 8), (8210, 8211, 10), (8212, 8212, 12), (8216, 8217, 16), (8218, 8218, 14), (8220, 8221, 16), (8222, 8222, 14), (8228, 8230, 21), (8232, 8233, 1), (8234, 8238, 9), (8239, 8239, 8), (8240, 8247, 24), (8249, 8250, 16), (8252, 8253, 19), (8260, 8260, 18), (8261, 8261, 14), (8262, 8262, 15), (8288, 8288, 7), (8352, 8399, 23), (8400, 8447, 9), (8451, 8451, 24), (8470, 8470, 23), (8722, 8723, 23), (11904, 12287, 25), (12288, 12288, 10), (12289, 12290, 15), (12291, 12292, 25), (12293, 12293, 19), (12294, 12295, 25), (12296, 12296, 14), (12297, 12297, 15), (12298, 12298, 14), (12299, 12299, 15), (12300, 12300, 14), (12301, 12301, 15), (12302, 12302, 14), (12303, 12303, 15), (12304, 12304, 14), (12305, 12305, 15), (12306, 12307, 25), (12308, 12308, 14), (12309, 12309, 15), (12310, 12310, 14), (12311, 12311, 15), (12312, 12312, 14), (12313, 12313, 15), (12314, 12314, 14), (12315, 12315, 15), (12316, 12316, 19), (12317, 12317, 14), (12318, 12319, 15), (12320, 12329, 25), (12330, 12335, 9), (12336, 12352, 25), (12353, 12353, 20), (12354, 12354, 25), (12355, 12355, 20), (12356, 12356, 25), (12357, 12357, 20), (12358, 12358, 25), (12359, 12359, 20), (12360, 12360, 25), (12361, 12361, 20), (12362, 12386, 25), (12387, 12387, 20), (12388, 12418, 25), (12419, 12419, 20), (12420, 12420, 25), (12421, 12421, 20), (12422, 12422, 25), (12423, 12423, 20), (12424, 12429, 25), (12430, 12430, 20), (12431, 12436, 25), (12437, 12438, 20), (12439, 12440, 25), (12441, 12442, 9), (12443, 12446, 19), (12447, 12447, 25), (12448, 12448, 19), (12449, 12449, 20), (12450, 12450, 25), (12451, 12451, 20), (12452, 12452, 25), (12453, 12453, 20), (12454, 12454, 25), (12455, 12455, 20), (12456, 12456, 25), (12457, 12457, 20), (12458, 12482, 25), (12483, 12483, 20), (12484, 12514, 25), (12515, 12515, 20), (12516, 12516, 25), (12517, 12517, 20), (12518, 12518, 25), (12519, 12519, 20), (12520, 12525, 25), (12526, 12526, 20), (12527, 12532, 25), (12533, 12534, 20), (12535, 12538, 25), (12539, 12539, 19), (12540, 12540, 20), (12541, 12542, 19), (12543, 19903, 25), (19968, 42191, 25), (44032, 55203, 25), (63744, 64255, 25), (65024, 65039, 9), (65056, 65071, 9), (65279, 65279, 7), (65281, 65281, 17), (65282, 65287, 25), (65288, 65288, 14), (65289, 65289, 15), (65290, 65291, 25), (65292, 65292, 15), (65293, 65293, 25), (65294, 65294, 15), (65295, 65305, 25), (65306, 65307, 19), (65308, 65310, 25), (65311, 65311, 17), (65312, 65376, 25), (65532, 65532, 26), (126976, 129791, 25), (131072, 262141, 25), (917505, 917999, 9)]
def qnl : List qfq := [(11, 12, 1), (8232, 8233, 1), (13, 13, 2), (10, 10, 3), (133, 133, 4), (32, 32, 5), (8203, 8203, 6), (8288, 8288, 7), (65279, 65279, 7), (160, 160, 8), (8199, 8199, 8), (8209, 8209, 8), (8239, 8239, 8), (0, 8, 9), (14, 31, 9), (127, 132, 9), (134, 159, 9), (768, 879, 9), (1155, 1161, 9), (1425, 1469, 9), (1552, 1562, 9), (1611, 1631, 9), (6832, 6911, 9), (7616, 7679, 9), (8204, 8207, 9), (8234, 8238, 9), (8400, 8447, 9), (12330, 12335, 9), (12441, 12442, 9), (65024, 65039, 9), (65056, 65071, 9), (917505, 917999, 9), (9, 9, 10), (124, 124, 10), (173, 173, 10), (8192, 8198, 10), (8200, 8202, 10), (8208, 8208, 10), (8210, 8211, 10), (12288, 12288, 10), (180, 180, 11), (712, 712, 11), (716, 716, 11), (8212, 8212, 12), (45, 45, 13), (40, 40, 14), (91, 91, 14), (123, 123, 14), (161, 161, 14), (191, 191, 14), (8218, 8218, 14), (8222, 8222, 14), (8261, 8261, 14), (12296, 12296, 14), (12298, 12298, 14), (12300, 12300, 14), (12302, 12302, 14), (12304, 12304, 14), (12308, 12308, 14), (12310, 12310, 14), (12312, 12312, 14), (12314, 12314, 14), (12317, 12317, 14), (65288, 65288, 14), (41, 41, 15), (93, 93, 15), (125, 125, 15), (8262, 8262, 15), (12289, 12290, 15), (12297, 12297, 15), (12299, 12299, 15), (12301, 12301, 15), (12303, 12303, 15), (12305, 12305, 15), (12309, 12309, 15), (12311, 12311, 15), (12313, 12313, 15), (12315, 12315, 15), (12318, 12319, 15), (65289, 65289, 15), (65292, 65292, 15), (65294, 65294, 15), (34, 34, 16), (39, 39, 16), (171, 171, 16), (187, 187, 16), (8216, 8217, 16), (8220, 8221, 16), (8249, 8250, 16), (33, 33, 17), (63, 63, 17), (65281, 65281, 17), (65311, 65311, 17), (44, 44, 18), (46, 47, 18), (58, 59, 18), (8260, 8260, 18), (8252, 8253, 19), (12293, 12293, 19), (12316, 12316, 19), (12443, 12446, 19), (12448, 12448, 19), (12539, 12539, 19), (12541, 12542, 19), (65306, 65307, 19), (12353, 12353, 20), (12355, 12355, 20), (12357, 12357, 20), (12359, 12359, 20), (12361, 12361, 20), (12387, 12387, 20), (12419, 12419, 20), (12421, 12421, 20), (12423, 12423, 20), (12430, 12430, 20), (12437, 12438, 20), (12449, 12449, 20), (12451, 12451, 20), (12453, 12453, 20), (12455, 12455, 20), (12457, 12457, 20), (12483, 12483, 20), (12515, 12515, 20), (12517, 12517, 20), (12519, 12519, 20), (12526, 12526, 20), (12533, 12534, 20), (12540, 12540, 20), (8228, 8230, 21), (48, 57, 22), (1632, 1641, 22), (2406, 2415, 22), (36, 36, 23), (43, 43, 23), (92, 92, 23), (163, 165, 23), (177, 177, 23), (8352, 8399, 23), (8470, 8470, 23), (8722, 8723, 23), (37, 37, 24), (162, 162, 24), (176, 176, 24), (8240, 8247, 24), (8451, 8451, 24), (4352, 4607, 25), (11904, 12287, 25), (12291, 12292, 25), (12294, 12295, 25), (12306, 12307, 25), (12320, 12329, 25), (12336, 12352, 25), (12354, 12354, 25), (12356, 12356, 25), (12358, 12358, 25), (12360, 12360, 25), (12362, 12386, 25), (12388, 12418, 25), (12420, 12420, 25), (12422, 12422, 25), (12424, 12429, 25), (12431, 12436, 25), (12439, 12440, 25), (12447, 12447, 25), (12450, 12450, 25), (12452, 12452, 25), (12454, 12454, 25), (12456, 12456, 25), (12458, 12482, 25), (12484, 12514, 25), (12516, 12516, 25), (12518, 12518, 25), (12520, 12525, 25), (12527, 12532, 25), (12535, 12538, 25), (12543, 19903, 25), (19968, 42191, 25), (44032, 55203, 25), (63744, 64255, 25), (65282, 65287, 25), (65290, 65291, 25), (65293, 65293, 25), (65295, 65305, 25), (65308, 65310, 25), (65312, 65376, 25), (126976, 129791, 25), (131072, 262141, 25), (65532, 65532, 26)]
def wrows : List (Int × Int) := [(4352, 4447), (11904, 12350), (12353, 42191), (44032, 55203), (63744, 64255), (65072, 65103), (65281, 65376), (65504, 65510), (127744, 128591), (129280, 129535), (131072, 262141)]
def qs6 (r : Int) (x : qfq) : Bool := decide (x.1 <= r) && decide (r <= x.2.1)
theorem qer (r : Int) (x : qfq) : qs6 r x = true ↔ x.1 <= r /\ r <= x.2.1 := by simp [qs6]
def qky : List qfq -> Int -> Int
 | [], _ => 0
 | x :: t, r => if x.1 <= r /\ r <= x.2.1 then x.2.2 else qky t r
def quw : List qfq -> Bool
 | [] => true
 | x :: t => t.all (fun y => decide (x.2.1 < y.1)) && quw t
theorem qjr {x : qfq} {t : List qfq} (h : quw (x :: t) = true) : (∀ y ∈ t, x.2.1 < y.1) /\ quw t = true := by
 simp [quw] at h
 exact ⟨fun y hy => h.1 y.1 y.2.1 y.2.2 hy, h.2⟩
structure Found (l : List qfq) (r : Int) (i : Nat) : Prop where
 le : i <= l.length
 before : ∀ j x, j < i -> l[j]? = some x -> ¬ r <= x.2.1
 here : ∀ x, l[i]? = some x -> r <= x.2.1
def qiw (l : List qfq) (r : Int) (i : Nat) : Int :=
 match l[i]? with
 | some x => if x.1 <= r then x.2.2 else 0
 | none => 0
theorem qf4 : ∀ (l : List qfq) (r : Int), (∃ x ∈ l, qs6 r x = true /\ qky l r = x.2.2) \/ ((∀ x ∈ l, qs6 r x = false) /\ qky l r = 0)
 | [], r => .inr ⟨by simp, rfl⟩
 | x :: t, r => by
   by_cases h : x.1 <= r /\ r <= x.2.1
   ·exact .inl ⟨x, by simp, (qer r x).2 h, by simp [qky, h]⟩
   ·have hf : qs6 r x = false := by
     cases hb : qs6 r x
     ·rfl
     ·exact absurd ((qer r x).1 hb) h
    have e : qky (x :: t) r = qky t r := if_neg h
    rcases qf4 t r with ⟨y, hy, h1, h2⟩ | ⟨h1, h2⟩
    ·exact .inl ⟨y, by simp [hy], h1, e.trans h2⟩
    ·exact .inr ⟨fun y hy => by
      rcases List.mem_cons.1 hy with rfl | hy
      ·exact hf
      ·exact h1 y hy, e.trans h2⟩
theorem qsf {l : List qfq} (ho : quw l = true) {r : Int} {i : Nat} (F : Found l r i) {x : qfq} (hx : x ∈ l) (h : qs6 r x = true) : qiw l r i = x.2.2 := by
 obtain ⟨j, hj⟩ := List.getElem?_of_mem hx
 rw [qer] at h
 have hij : ¬ j < i := fun hlt => F.before j x hlt hj h.2
 have hjl : j < l.length := (xah hj).1
 have hil : i < l.length := by omega
 have hi : l[i]? = some l[i] := xac hil
 have h2 := F.here _ hi
 have hord : ∀ (l : List qfq), quw l = true -> ∀ (a b : Nat) (x y : qfq), a < b -> l[a]? = some x -> l[b]? = some y -> x.2.1 < y.1 := by
  intro l
  induction l with
  | nil => intro _ a b x y _ hx; simp at hx
  | cons z t ih =>
    intro ho a b x y hab hx hy
    obtain ⟨hz, ht⟩ := qjr ho
    cases b with
    | zero => omega
    | succ b =>
      simp at hy
      cases a with
      | zero =>
        simp at hx
        subst hx
        exact hz y (xav hy)
      | succ a =>
        simp at hx
        exact ih ht a b x y (by omega) hx hy
 by_cases hji : j = i
 ·subst hji
  unfold qiw
  rw [hj]
  simp [h.1]
 ·have := hord l ho i j _ x (by omega) hi hj
  omega
theorem qm0 {l : List qfq} {r : Int} {i : Nat} (F : Found l r i) (h : ∀ x ∈ l, qs6 r x = false) : qiw l r i = 0 := by
 unfold qiw
 cases hi : l[i]? with
 | none => rfl
 | some x =>
   have h1 := h x (xav hi)
   have h2 := F.here x hi
   by_cases h3 : x.1 <= r
   ·rw [(qer r x).2 ⟨h3, h2⟩] at h1
    cases h1
   ·simp [h3]
theorem qkd : quw crows = true := by decide +kernel
theorem qv1 : crows.all (fun x => qnl.contains x) = true := by decide +kernel
theorem qtw : qnl.all (fun x => crows.contains x) = true := by decide +kernel
theorem qv0 : crows.all (fun x => decide (x.1 <= x.2.1) && (decide (0 <= x.1) && (decide (x.2.1 <= 1114111) && (decide (0 <= x.2.2) && decide (x.2.2 <= 26))))) = true := by decide +kernel
theorem qtv : qnl.all (fun x => decide (x.1 <= x.2.1) && (decide (0 <= x.1) && (decide (x.2.1 <= 1114111) && (decide (0 <= x.2.2) && decide (x.2.2 <= 26))))) = true := by decide +kernel
theorem qec : crows.length = 188 := by decide +kernel
def clsOf (r : Int) : Int := qky qnl r
theorem qsg (r : Int) (i : Nat) (F : Found crows r i) : qiw crows r i = clsOf r := by
 have A := xam qv1
 have B := xam qtw
 rcases qf4 qnl r with ⟨x, hx, h1, h2⟩ | ⟨h1, h2⟩
 ·rw [clsOf, h2]
  exact qsf qkd F (List.contains_iff_mem.1 (B x hx)) h1
 ·rw [clsOf, h2]
  exact qm0 F fun x hx => h1 x (List.contains_iff_mem.1 (A x hx))
theorem qm1 (r : Int) : 0 <= clsOf r /\ clsOf r <= 26 := by
 rcases qf4 qnl r with ⟨x, hx, _, h2⟩ | ⟨_, h2⟩
 ·have := xam qtv x hx
  simp at this
  rw [clsOf, h2]
  omega
 ·rw [clsOf, h2]; omega
def wideB (r : Int) : Bool := wrows.any fun y => decide (y.1 <= r) && decide (r <= y.2)
structure WFound (r : Int) (i : Nat) : Prop where
 le : i <= wrows.length
 before : ∀ j x, j < i -> wrows[j]? = some x -> ¬ r <= x.2
 here : ∀ x, wrows[i]? = some x -> r <= x.2
def qdx (r : Int) (i : Nat) : Bool :=
 match wrows[i]? with
 | some x => decide (x.1 <= r)
 | none => false
theorem qpm : quw (wrows.map fun x => (x.1, x.2, 1)) = true := by decide +kernel
theorem qnb (r : Int) (i : Nat) (F : WFound r i) : qdx r i = wideB r := by
 have F' : Found (wrows.map fun x => (x.1, x.2, 1)) r i := by
  refine ⟨by simpa using F.le, fun j x hj hx => ?_, fun x hx => ?_⟩
  ·rw [xan, Option.map_eq_some_iff] at hx
   obtain ⟨y, hy, rfl⟩ := hx
   exact F.before j y hj hy
  ·rw [xan, Option.map_eq_some_iff] at hx
   obtain ⟨y, hy, rfl⟩ := hx
   exact F.here y hy
 have e : qiw (wrows.map fun x => (x.1, x.2, 1)) r i = if qdx r i = true then 1 else 0 := by
  unfold qiw qdx
  rw [xan]
  cases wrows[i]? with
  | none => simp
  | some x => simp
 by_cases h : wideB r = true
 ·unfold wideB at h
  obtain ⟨x, hx, hh⟩ := List.any_eq_true.1 h
  simp at hh
  have := qsf qpm F' (x := (x.1, x.2, 1)) (List.mem_map.2 ⟨x, hx, rfl⟩) ((qer _ _).2 hh)
  rw [e] at this
  have h3 : qdx r i = true := by
   cases hb : qdx r i
   ·rw [hb] at this; simp at this
   ·rfl
  rw [h3]
  exact h.symm
 ·have hn : ∀ x ∈ wrows.map (fun x => (x.1, x.2, (1 : Int))), qs6 r x = false := by
   intro y hy
   obtain ⟨x, hx, rfl⟩ := List.mem_map.1 hy
   cases hb : qs6 r (x.1, x.2, 1)
   ·rfl
   ·exfalso
    apply h
    unfold wideB
    rw [List.any_eq_true]
    exact ⟨x, hx, by rw [qer] at hb; simpa using hb⟩
  have := qm0 F' hn
  rw [e] at this
  have h3 : qdx r i = false := by
   cases hb : qdx r i
   ·rfl
   ·rw [hb] at this; simp at this
  rw [h3]
  cases hb : wideB r
  ·rfl
  ·exact absurd hb h
end
section
def qd4 (P : Program) : List Oper -> Act -> Option Act
 | [], a => some a
 | o :: r, a =>
   match o.guard, o.op with
   | none, .build t parts =>
     match P.built t (parts.map fun (i, x) => (i, a.eval x)).toList with
     | some cs => qd4 P r (a.put o.dst (.agg cs))
     | none => none
   | _, _ => none
theorem qft {P : Program} {ops : Array Oper} {Q : Exit -> Act -> World -> Prop} {w : World} : ∀ (l rest : List Oper) (a a' : Act), qd4 P l a = some a' -> wpList P ops Q rest a' w -> wpList P ops Q (l ++ rest) a w
 | [], rest, a, a', h, h2 => by
   have e : a = a' := xaw h
   rw [<- e] at h2
   exact h2
 | o :: r, rest, a, a', h, h2 => by
   unfold qd4 at h
   split at h
   ·rename_i t parts hg ho
    split at h
    ·rename_i cs hc
     exact wpList_buildTo hg t parts ho _ rfl cs hc (qft r rest _ a' h h2)
    ·cases h
   ·cases h
theorem qhw {P : Program} {ops : Array Oper} {Q : Exit -> Act -> World -> Prop} {w : World} {l : List Oper} {a : Act} (n : Nat) {β : Type} (F : Act -> β) (y : β)
 (hF : (qd4 P (l.take n) a).map F = some y) (h : ∀ a', F a' = y -> wpList P ops Q (l.drop n) a' w) : wpList P ops Q l a w := by
 obtain ⟨a', ha, hy⟩ := Option.map_eq_some_iff.1 hF
 rw [<- List.take_append_drop n l]
 exact qft _ _ a a' ha (h a' hy)
end
section
def qcn : Array Value := (crows.flatMap fun x => [.int .i32 x.1, .int .i32 x.2.1, .int .u8 x.2.2]).toArray
def qkq : Array Value := (crows.flatMap fun _ => [.int .i32 0, .int .i32 0, .int .u8 0]).toArray
theorem qtx (w : World) : Calls Tryz.prog 120 #[] w fun e w' => e = .returned (.agg qcn) /\ Below w.heap.size w w' := by
 go_enter Tryz.func120, Tryz.ntmps120
 go_step
 go_step
 go_step
 refine Go.Great.wpList_allocTo rfl (some 0) rfl (.pointer (some ⟨w.heap.size, 0, none⟩)) (.cells qkq 194) (by kernel_rfl) ?_
 refine wpList_nil ?_
 rename_i Q1 K1 hk
 refine hk _ _ ?_
 clear hk K1
 apply wp_seq_k
 intro K1 hk
 refine wp_region_list ?_
 refine qhw 189 (fun a' => (a'.tmps[0]?, a'.tmps[189]?, a'.defers, a'.tmps.size)) (some (.pointer (some ⟨w.heap.size, 0, none⟩)), some (.agg qcn), [], 190) (by kernel_rfl) ?_
 intro a' hF
 simp only [Prod.mk.injEq] at hF
 obtain ⟨f0, f1, f2, f3⟩ := hF
 change wpList _ _ _ [_] _ _
 refine wpList_store_row rfl 194 (.tmp 0) (.tmp 189) rfl w.heap.size qcn (by simp [Act.eval, f0]) (by simp [Act.eval, f1]) 194 qkq (heap_alloc_new w _) (by kernel_rfl) (by kernel_rfl) (by kernel_rfl) ?_
 refine wpList_nil ?_
 refine hk _ _ ?_
 clear hk K1
 apply wp_ret
 refine bodyPost_ret (v := .agg qcn) (results_cell_row rfl _ _ w.heap.size 194 qcn (0, 0) _ (by simp [Act.put, f0]) (setRow_heap _ _ _ _ _ _ (heap_alloc_new w _)) Tryz.underlying194 rfl (by kernel_rfl)) f2 ⟨rfl, ?_⟩
 exact (xar w _).trans ⟨rfl, rfl, rfl, by simp, fun k hk => setRow_other _ _ _ _ (by omega)⟩
end
section
theorem qhd (g : Nat) (cb : Array Value) (n : Nat) (p : Nat -> Bool) (w : World) (hn : n < 100000)
 (eg : ∀ args w, (callFunc g args).run Tryz.prog w = .ok (.enter g args) w)
 (hf : ∀ (W : World) (i : Nat), Below w.heap.size w W -> i < n -> Calls Tryz.prog g (#[.int .i64 i] ++ cb) W fun e W' => e = .returned (.bool (p i)) /\ Below W.heap.size W W')
 (hmono : ∀ a b, a <= b -> b < n -> p a = true -> p b = true) :
 Calls Tryz.prog 143 #[.int .i64 n, .func (.func g) #[] cb] w fun e w' => ∃ k : Nat, e = .returned (.int .i64 k) /\ k <= n /\ Hid ((∀ j, j < k -> p j = false) /\ (k < n -> p k = true)) /\ Below w.heap.size w w' := by
 have HF := xaa hf
 have M := xaa hmono
 clear hf hmono
 go_enter Tryz.func143, Tryz.ntmps143
 go_wp2
 go_loopg [5, 6] n (fun kx s5 s6 wr => ∃ (lo hi : Nat), s5 = .int .i64 lo /\ s6 = .int .i64 hi /\ lo <= hi /\ hi <= n /\ hi - lo <= kx /\ Below w.heap.size w wr ∧
  Hid ((∀ t, t < lo -> p t = false) /\ (hi < n -> p hi = true)))
 case atStart => exact ⟨0, n, rfl, rfl, Nat.zero_le _, xat, by omega, xas, ⟨fun t ht => absurd ht (Nat.not_lt_zero _), fun h => absurd h (Nat.lt_irrefl _)⟩⟩
 case round =>
  obtain ⟨lo, hi, rfl, rfl, hlh, hin, hg, bel, I⟩ := hrel
  by_cases hlt : lo < hi
  ·have hc := HF.out wr ((lo + hi) / 2) bel (by omega)
   rw [show (((lo + hi) / 2 : Nat) : Int) = ((lo : Int) + (hi : Int)) / 2 by omega] at hc
   cases hp : p ((lo + hi) / 2) <;> rw [hp] at hc
   ·have HP : Hid (p ((lo + hi) / 2) = false) := hp
    clear hp
    go_wp2_with (go_at_fn g; refine hc.mono ?_; rintro e w' ⟨rfl, bw⟩)
    go_roundg (hi - ((lo + hi) / 2 + 1))
    case measure => omega
    case rel =>
     have I2 : Hid ((∀ t, t < (lo + hi) / 2 + 1 -> p t = false) /\ (hi < n -> p hi = true)) := ⟨fun t ht => (by
      cases h : p t with
      | false => rfl
      | true => have := M.out t ((lo + hi) / 2) (by omega) (by omega) h; rw [HP.out] at this; cases this), I.out.2⟩
     exact ⟨(lo + hi) / 2 + 1, hi, by rw [show ((lo : Int) + (hi : Int)) / 2 + 1 = (((lo + hi) / 2 + 1 : Nat) : Int) by omega], rfl, by omega, hin, xat, bel.trans (bw.mono bel.size), I2⟩
   ·have HP : Hid (p ((lo + hi) / 2) = true) := hp
    clear hp
    go_wp2_with (go_at_fn g; refine hc.mono ?_; rintro e w' ⟨rfl, bw⟩)
    go_roundg ((lo + hi) / 2 - lo)
    case measure => omega
    case rel =>
     have I2 : Hid ((∀ t, t < lo -> p t = false) /\ ((lo + hi) / 2 < n -> p ((lo + hi) / 2) = true)) := ⟨I.out.1, fun _ => HP.out⟩
     exact ⟨lo, (lo + hi) / 2, rfl, by rw [show ((lo : Int) + (hi : Int)) / 2 = (((lo + hi) / 2 : Nat) : Int) by omega], by omega, by omega, xat, bel.trans (bw.mono bel.size), I2⟩
  ·obtain rfl : hi = lo := by omega
   go_wp2
   go_ret
   exact ⟨hi, rfl, hin, I, bel⟩
end
section
theorem flat3 (f g h : qfq -> Value) : ∀ (l : List qfq) (i : Nat) (x : qfq), l[i]? = some x →
 (l.flatMap fun x => [f x, g x, h x])[i * 3]? = some (f x) /\ (l.flatMap fun x => [f x, g x, h x])[i * 3 + 1]? = some (g x) /\ (l.flatMap fun x => [f x, g x, h x])[i * 3 + 2]? = some (h x)
 | [], i, x, hx => by simp at hx
 | y :: t, 0, x, hx => by
   simp at hx
   subst hx
   simp
 | y :: t, i + 1, x, hx => by
   simp at hx
   have ih := flat3 f g h t i x hx
   have e : ∀ k, k < 3 -> (i + 1) * 3 + k = i * 3 + k + 3 := fun k _ => by omega
   refine ⟨?_, ?_, ?_⟩
   ·rw [show (i + 1) * 3 = i * 3 + 3 by omega]; simpa using ih.1
   ·rw [e 1 (by omega)]; simpa using ih.2.1
   ·rw [e 2 (by omega)]; simpa using ih.2.2
def TabAt (w : World) (g : Nat) : Prop := Blk w g 194 qcn
theorem TabAt.cells {w : World} {g : Nat} (h : TabAt w g) {i : Nat} {x : qfq} (hx : crows[i]? = some x) :
 w.cell? ⟨g, i * 3, none⟩ = some (.int .i32 x.1) /\ w.cell? ⟨g, i * 3 + 1, none⟩ = some (.int .i32 x.2.1) /\ w.cell? ⟨g, i * 3 + 2, none⟩ = some (.int .u8 x.2.2) := by
 have c := flat3 (fun x => .int .i32 x.1) (fun x => .int .i32 x.2.1) (fun x => .int .u8 x.2.2) crows i x hx
 have e : ∀ j, w.cell? ⟨g, j, none⟩ = qcn[j]? := fun j => Blk.cell h j
 rw [e, e, e]
 unfold qcn
 simpa using c
theorem TabAt.below {w w' : World} {g : Nat} (h : TabAt w g) (b : Below w.heap.size w w') : TabAt w' g := Blk.keep (S := fun _ => False) h (xap b) id
theorem q0s (i pr pt g : Nat) (r : Int) (x : qfq) (w : World) (hi : i < 188) (hx : crows[i]? = some x) (hr : w.cell? ⟨pr, 0, none⟩ = some (.int .i32 r)) (ht : w.cell? ⟨pt, 0, none⟩ = some (.pointer (some ⟨g, 0, none⟩))) (hT : TabAt w g) :
 Calls Tryz.prog 144 #[.int .i64 i, .pointer (some ⟨pr, 0, none⟩), .pointer (some ⟨pt, 0, none⟩)] w fun e w' => e = .returned (.bool (decide (r <= x.2.1))) /\ Below w.heap.size w w' := by
 obtain ⟨_, hc, _⟩ := hT.cells hx
 obtain ⟨y, hy⟩ : ∃ y, x.2.1 = y := ⟨_, rfl⟩
 rw [hy] at hc |-
 clear hx hT hy
 have hiz : (i : Int) < 188 := by omega
 go_enter Tryz.func144, Tryz.ntmps144
 go_wp2
 go_quiet (fail)
 go_wp2
 go_ret
 exact ⟨qak (by simp), below_drewN (xas) _⟩
def qwm (r : Int) (i : Nat) : Bool := match crows[i]? with
 | some x => decide (r <= x.2.1)
 | none => true
theorem qeg {r : Int} {i : Nat} {x : qfq} (h : crows[i]? = some x) : qwm r i = decide (r <= x.2.1) := by unfold qwm; rw [h]
theorem qfl (i : Nat) (h : i < 188) : ∃ x, crows[i]? = some x := ⟨crows[i]'(by rw [qec]; exact h), xac _⟩
theorem qxd : ∀ (l : List qfq), quw l = true -> ∀ (a b : Nat) (x y : qfq), a < b -> l[a]? = some x -> l[b]? = some y -> x.2.1 < y.1
 | [], _, a, b, x, y, _, hx, _ => by simp at hx
 | z :: t, ho, a, b, x, y, hab, hx, hy => by
   obtain ⟨hz, ht⟩ := qjr ho
   cases b with
   | zero => omega
   | succ b =>
     simp at hy
     cases a with
     | zero =>
       simp at hx
       subst hx
       exact hz y (xav hy)
     | succ a =>
       simp at hx
       exact qxd t ht a b x y (by omega) hx hy
theorem qwk (r : Int) (a b : Nat) (hab : a <= b) (hb : b < 188) (h : qwm r a = true) : qwm r b = true := by
 obtain ⟨x, hx⟩ := qfl a (by omega)
 obtain ⟨y, hy⟩ := qfl b hb
 rw [qeg hx] at h
 rw [qeg hy]
 simp at h |-
 by_cases e : a = b
 ·subst e
  rw [hx] at hy
  cases hy
  exact h
 ·have h1 := qxd crows qkd a b x y (by omega) hx hy
  have h2 := xam qv0 y (xav hy)
  simp at h2
  omega
theorem qvj {r : Int} {k : Nat} (hk : k <= 188) (h : (∀ j, j < k -> qwm r j = false) /\ (k < 188 -> qwm r k = true)) : Found crows r k := by
 refine ⟨by rw [qec]; exact hk, fun j x hj hx => ?_, fun x hx => ?_⟩
 ·have := h.1 j hj
  rw [qeg hx] at this
  simpa using this
 ·have hl := (xah hx).1
  rw [qec] at hl
  have := h.2 hl
  rw [qeg hx] at this
  simpa using this
theorem qvq : ∀ args w, (callFunc 144 args).run Tryz.prog w = .ok (.enter 144 args) w := enters_of Tryz.func144 (by kernel_rfl) rfl
def boxed (w : World) (g : Nat) (r : Int) : World := (w.alloc (.cells #[.pointer (some ⟨g, 0, none⟩)] 222)).alloc (.cells #[.int .i32 r] 21)
theorem qgq {w W : World} {g : Nat} {r : Int} (hT : TabAt w g) (hW : Below (boxed w g r).heap.size (boxed w g r) W) :
 W.cell? ⟨w.heap.size + 1, 0, none⟩ = some (.int .i32 r) /\ W.cell? ⟨w.heap.size, 0, none⟩ = some (.pointer (some ⟨g, 0, none⟩)) /\ TabAt W g /\ Below w.heap.size w W := by
 have b1 := xar w (.cells #[.pointer (some ⟨g, 0, none⟩)] 222)
 have b2 := xar (w.alloc (.cells #[.pointer (some ⟨g, 0, none⟩)] 222)) (.cells #[.int .i32 r] 21)
 have c1 := qc0 w (.pointer (some ⟨g, 0, none⟩)) 222
 have c2 := qc0 (w.alloc (.cells #[.pointer (some ⟨g, 0, none⟩)] 222)) (.int .i32 r) 21
 have s1 : (w.alloc (.cells #[.pointer (some ⟨g, 0, none⟩)] 222)).heap.size = w.heap.size + 1 := by simp
 have s2 : (boxed w g r).heap.size = w.heap.size + 2 := by simp [boxed]
 rw [s1] at c2
 refine ⟨qbj hW (by omega) c2, qbj hW (by omega) (qbj b2 (by omega) c1), ((hT.below b1).below b2).below hW, xaq b1 (xaq b2 hW)⟩
theorem qow (g : Nat) (r : Int) (w : World) (hT : TabAt w g) :
 Calls Tryz.prog 121 #[.pointer (some ⟨g, 0, none⟩), .int .i32 r] w fun e w' => e = .returned (.int .u8 (clsOf r)) /\ Below w.heap.size w w' := by
 have S : Hid (Calls Tryz.prog 143 #[.int .i64 (188 : Nat), .func (.func 144) #[] #[.pointer (some ⟨w.heap.size + 1, 0, none⟩), .pointer (some ⟨w.heap.size, 0, none⟩)]] (boxed w g r) fun e w' => ∃ k : Nat, e = .returned (.int .i64 k) /\ k <= 188 /\ Hid ((∀ j, j < k -> qwm r j = false) /\ (k < 188 -> qwm r k = true)) /\ Below (boxed w g r).heap.size (boxed w g r) w') := by
  refine qhd _ _ 188 (qwm r) _ (by omega) qvq (fun W i hW hi => ?_) (qwk r)
  obtain ⟨x, hx⟩ := qfl i hi
  rw [qeg hx]
  obtain ⟨h1, h2, h3, _⟩ := qgq hT hW
  exact q0s i (w.heap.size + 1) w.heap.size g r x W hi hx h1 h2 h3
 have HT := xaa hT
 clear hT
 go_enter Tryz.func121, Tryz.ntmps121
 go_wp2_with fail
 refine S.out.mono ?_
 rintro e w1 ⟨k, rfl, hk, F, b1⟩
 obtain ⟨h1, h2, h3, hb⟩ := qgq HT.out b1
 have HE := xaa (qsg r k (qvj hk F.out))
 clear b1 S F
 by_cases hlt : k < 188
 ·obtain ⟨x, hx⟩ := qfl k hlt
  obtain ⟨c1, _, c3⟩ := h3.cells hx
  have HC : Hid ((if x.1 <= r then x.2.2 else 0) = clsOf r) := by
   have := HE.out
   unfold qiw at this
   rw [hx] at this
   exact this
  obtain ⟨a, ha⟩ : ∃ a, x.1 = a := ⟨_, rfl⟩
  obtain ⟨c, hc⟩ : ∃ c, x.2.2 = c := ⟨_, rfl⟩
  rw [ha] at c1
  rw [hc] at c3
  rw [ha, hc] at HC
  clear hx ha hc h3 HE
  have hkz : (k : Int) < 188 := by omega
  by_cases hle : a <= r
  ·go_wp2_with fail
   go_quiet (fail)
   go_wp2_with fail
   go_ret
   exact ⟨qb7 (by rw [<- HC.out, if_pos (by omega)]), below_drewN hb _⟩
  ·have hd : decide (a <= r) = false := by simpa using hle
   go_wp2_with fail
   go_quiet (fail)
   go_wp2_with fail
   go_ret
   exact ⟨qb7 (by rw [<- HC.out, if_neg (by omega)]), below_drewN hb _⟩
 ·have hkn : k = 188 := by omega
  have HC : Hid (0 = clsOf r) := by
   have := HE.out
   unfold qiw at this
   rw [List.getElem?_eq_none (by rw [qec]; omega)] at this
   exact this
  subst hkn
  clear hk h3 HE
  go_wp2_with fail
  go_quiet (fail)
  go_wp2_with fail
  go_ret
  exact ⟨qb7 (by rw [<- HC.out]), below_drewN hb _⟩
end
section
theorem stored (w1 : World) : TabAt ((w1.alloc (.cells qkq 194)).setRow w1.heap.size qcn) w1.heap.size /\ Below w1.heap.size w1 ((w1.alloc (.cells qkq 194)).setRow w1.heap.size qcn) :=
 ⟨setRow_heap _ _ _ _ _ _ (heap_alloc_new w1 _), (xar w1 _).trans ⟨rfl, rfl, rfl, by simp, fun k hk => setRow_other _ _ _ _ (by omega)⟩⟩
end
section
theorem qia {P : Program} (t e : TypeId) (i : TypeInfo) (z : Value) (ht : P.underlying t = some (.slice e)) (hi : P.info? e = some i) (hz : i.zero = some z)
 (kl kc : IntKind) (n c : Nat) (hnc : n <= c) (hbytes : i.bytes * c <= 281474976710656) (h63 : c <= 9223372036854775807) (w : World) :
 (Instr.makeSlice t (.int kl (n : Int)) (.int kc (c : Int))).run P w = .ok (.slice (some ⟨w.heap.size, 0, none⟩) n c) (w.alloc (.cells (madeCells z.cells (c * i.size)) e)) := by
 have hb : (i.bytes : Int) * (c : Int) <= 281474976710656 := by
  have h : ((i.bytes * c : Nat) : Int) <= 281474976710656 := by omega
  rwa [Int.natCast_mul] at h
 have hr := run_make (P := P) w t e i z ht hi hz kl kc n c (by omega) (by omega) hb (by omega)
 simp only [xax] at hr
 exact hr
theorem info8 : (Tryz.prog.info? 5).map (fun i => (i.zero, i.size, i.bytes)) = some (some (.int .u8 0), 1, 1) := by kernel_rfl
def qi5 (n : Nat) : Array Value := madeCells #[.int .u8 0] n
theorem qkm (n : Nat) : (qi5 n).size = n := by simp [qi5, madeCells]
theorem mk8 (n : Nat) (hn : n <= 100000) (w : World) :
 (Instr.makeSlice 73 (.int .i64 (n : Int)) (.int .i64 (n : Int))).run Tryz.prog w = .ok (.slice (some ⟨w.heap.size, 0, none⟩) n n) (w.alloc (.cells (qi5 n) 5)) := by
 obtain ⟨i0, hi, hz0, hz1, hz2⟩ := info_parts info8
 have := qia (P := Tryz.prog) 73 5 i0 (.int .u8 0) Tryz.underlying73 hi hz0 .i64 .i64 n n (xat) (by rw [hz2]; omega) (by omega) w
 rw [hz1, Nat.mul_one] at this
 exact this
def qx0 (zs : List Int) (k : Nat) (cs : Array Value) : Prop := cs.size = zs.length /\ ∀ j z, j < k -> zs[j]? = some z -> cs[j]? = some (.int .u8 (clsOf z))
theorem qx0.zero (zs : List Int) : qx0 zs 0 (qi5 zs.length) := ⟨qkm _, fun j z hj => by omega⟩
theorem qx0.step {zs : List Int} {k : Nat} {cs : Array Value} (h : qx0 zs k cs) {z : Int} (hz : zs[k]? = some z) : qx0 zs (k + 1) (cs.setIfInBounds k (.int .u8 (clsOf z))) := by
 have hk : k < cs.size := by rw [h.1]; exact (xah hz).1
 refine ⟨by simpa using h.1, fun j y hj hy => ?_⟩
 by_cases e : j = k
 ·subst e
  rw [hz] at hy
  cases hy
  simp [hk]
 ·rw [Array.getElem?_setIfInBounds_ne (fun h => e h.symm)]
  exact h.2 j y (by omega) hy
theorem qwi (v : Value) (n : Nat) (zs : List Int) (w : World) (hn : zs.length = n) (hm : n <= 100000) (hR : Row (fun _ => False) w v (zs.map (Value.int .i32))) :
 Calls Tryz.prog 84 #[v] w fun e w' => ∃ G cs, e = .returned (.slice (some ⟨G, 0, none⟩) n n) /\ w.heap.size <= G /\ Blk w' G 5 cs /\ qx0 zs n cs /\ Below w.heap.size w w' := by
 have HM := xaa (mk8 n hm)
 have HN := xaa hn
 have HRw := xaa hR
 obtain ⟨A, cap, rfl⟩ := hR.form
 rw [xao, hn] at HRw |-
 clear hn hR
 go_enter Tryz.func84, Tryz.ntmps84
 go_wp2_with fail
 refine (qtx _).mono ?_
 rintro e w1 ⟨rfl, b1⟩
 rename_i Q K1 h1 K2 h2
 refine h2 _ _ ?_
 clear h2 K2
 refine Go.Great.wpList_allocTo rfl (some 3) rfl (.pointer (some ⟨w1.heap.size, 0, none⟩)) (.cells qkq 194) (by kernel_rfl) ?_
 refine wpList_store_row rfl 194 (.tmp 3) (.tmp 7) rfl w1.heap.size qcn rfl rfl 194 qkq (heap_alloc_new w1 _) (by kernel_rfl) (by kernel_rfl) (by kernel_rfl) ?_
 obtain ⟨t2, b2⟩ := stored w1
 generalize (w1.alloc (.cells qkq 194)).setRow w1.heap.size qcn = w2 at *
 have b12 := xaq b1 b2
 have l2 : w1.heap.size < w2.heap.size := t2.lt
 have l1 := b1.size
 refine wpList_nil ?_
 refine h1 _ _ ?_
 clear h1 K1 b1 b2
 have hmk := HM.out
 go_wp2_with fail
 clear hmk
 go_loopg [13] n (fun kx s13 wr => ∃ (k : Nat) (cs : Array Value), s13 = .int .i64 k /\ k <= n /\ kx = n - k /\ Below w.heap.size w wr /\ w2.heap.size < wr.heap.size /\ TabAt wr w1.heap.size /\ Blk wr w2.heap.size 5 cs /\ Hid (qx0 zs k cs))
 case atStart => exact ⟨0, qi5 n, rfl, by omega, by omega, xaq b12 (xar _ _), by simp, t2.below (xar _ _), Blk.new _ _ _, by rw [<- HN.out]; exact qx0.zero zs⟩
 case round =>
  obtain ⟨k, cs, rfl, hk, rfl, bel, hsz, hT, hG, HK⟩ := hrel
  by_cases hlt : k < n
  ·have hkl : k < zs.length := by rw [HN.out]; exact hlt
   obtain ⟨z, hz⟩ : ∃ z, zs[k]? = some z := ⟨zs[k], xac hkl⟩
   have HZ := xaa hz
   obtain ⟨a, cap2, hv, hab, _, hcell⟩ := HRw.out.at_ (by simp; omega)
   obtain rfl : A = some a := by injection hv
   have hcz : wr.cell? (a.add k) = some (.int .i32 z) := (bel.cell (p := a.add k) (by rw [qac]; exact hab)).trans (hcell k _ (by rw [xan, hz]; rfl))
   have hcs : k < cs.size := by rw [HK.out.1]; exact hkl
   have hold : cs[k]? = some cs[k] := Array.getElem?_eq_getElem hcs
   generalize cs[k] = old at hold
   have HO := xaa hold
   have hkz : (k : Int) < n := by omega
   clear hv hcell hz hold hcs hkl
   go_wp2_with fail
   refine (qow _ z _ hT).mono ?_
   rintro e w4 ⟨rfl, b4⟩
   have hG4 := hG.kb b4
   have c4 := (hG4.cell k).trans HO.out
   have f4 := hG4.frozen k
   have hs4 := b4.size
   have bel4 := bel.trans (b4.mono bel.size)
   have hT4 := hT.below b4
   go_wp2_with fail
   go_roundg (n - (k + 1))
   case measure => omega
   case rel => exact ⟨k + 1, cs.setIfInBounds k (.int .u8 (clsOf z)), by go_num, by omega, rfl, bel4.setCell (by show w.heap.size <= w2.heap.size; omega) _, by simp [World.setCell]; omega, Blk.keep (S := fun j => j = w2.heap.size) hT4 (Mod.setCell (S := fun j => j = w2.heap.size) (Mod.refl _ _) (p := ⟨w2.heap.size, k, none⟩) (.inl rfl) _) (by omega), hG4.set_ k _, HK.out.step HZ.out⟩
  ·have hkn : k = n := by omega
   subst hkn
   go_wp2_with fail
   go_ret
   exact ⟨_, cs, rfl, by omega, hG, HK.out, bel⟩
end
section
def qg8 : Array Value := (wrows.flatMap fun x => [Value.int .i32 x.1, Value.int .i32 x.2]).toArray
def Tab (w : World) : Prop := ∃ t fz, w.heap[8]? = some (.cells qg8 t fz)
theorem Tab.pos {w : World} (h : Tab w) : 8 < w.heap.size := by
 obtain ⟨t, fz, h⟩ := h
 exact (xag h).1
theorem Tab.below {w w' : World} (h : Tab w) (b : Below w.heap.size w w') : Tab w' := by
 have hp := h.pos
 obtain ⟨t, fz, h⟩ := h
 exact ⟨t, fz, (b.block 8 hp).trans h⟩
theorem Tab.alloc {w : World} (h : Tab w) (o : Obj) : Tab (w.alloc o) := h.below (xar w o)
theorem flat2 (f g : Int × Int -> Value) : ∀ (l : List (Int × Int)) (i : Nat) (x : Int × Int), l[i]? = some x →
 (l.flatMap fun x => [f x, g x])[i * 2]? = some (f x) /\ (l.flatMap fun x => [f x, g x])[i * 2 + 1]? = some (g x)
 | [], i, x, hx => by simp at hx
 | y :: t, 0, x, hx => by
   simp at hx
   subst hx
   simp
 | y :: t, i + 1, x, hx => by
   simp at hx
   have ih := flat2 f g t i x hx
   refine ⟨?_, ?_⟩
   ·rw [show (i + 1) * 2 = i * 2 + 2 by omega]; simpa using ih.1
   ·rw [show (i + 1) * 2 + 1 = i * 2 + 1 + 2 by omega]; simpa using ih.2
theorem Tab.cells {w : World} (h : Tab w) {i : Nat} {x : Int × Int} (hx : wrows[i]? = some x) :
 w.cell? ⟨8, i * 2, none⟩ = some (.int .i32 x.1) /\ w.cell? ⟨8, i * 2 + 1, none⟩ = some (.int .i32 x.2) := by
 obtain ⟨t, fz, h⟩ := h
 have c := flat2 (fun x => .int .i32 x.1) (fun x => .int .i32 x.2) wrows i x hx
 have e : ∀ j, w.cell? ⟨8, j, none⟩ = qg8[j]? := fun j => cell_of_row w 8 j qg8 t fz h
 rw [e, e]
 unfold qg8
 simpa using c
theorem qyd (i pr : Nat) (r : Int) (x : Int × Int) (w : World) (hi : i < 11) (hx : wrows[i]? = some x) (hr : w.cell? ⟨pr, 0, none⟩ = some (.int .i32 r)) (hT : Tab w) :
 Calls Tryz.prog 153 #[.int .i64 i, .pointer (some ⟨pr, 0, none⟩)] w fun e w' => e = .returned (.bool (decide (r <= x.2))) /\ Below w.heap.size w w' := by
 obtain ⟨_, hc⟩ := hT.cells hx
 obtain ⟨y, hy⟩ : ∃ y, x.2 = y := ⟨_, rfl⟩
 rw [hy] at hc |-
 clear hx hT hy
 have hiz : (i : Int) < 11 := by omega
 go_enter Tryz.func153, Tryz.ntmps153
 go_wp2
 go_quiet (fail)
 go_wp2
 go_ret
 exact ⟨qak (by simp), below_drewN (xas) _⟩
def qwl (r : Int) (i : Nat) : Bool := match wrows[i]? with
 | some x => decide (r <= x.2)
 | none => true
theorem qc8 {r : Int} {i : Nat} {x : Int × Int} (h : wrows[i]? = some x) : qwl r i = decide (r <= x.2) := by unfold qwl; rw [h]
theorem qdw : wrows.length = 11 := by decide +kernel
theorem qfc (i : Nat) (h : i < 11) : ∃ x, wrows[i]? = some x := ⟨wrows[i]'(by rw [qdw]; exact h), xac _⟩
theorem qs9 : (List.range 11).all (fun a => (List.range 11).all fun b => !decide (a <= b) || match wrows[a]?, wrows[b]? with
 | some x, some y => decide (x.2 <= y.2)
 | _, _ => false) = true := by decide +kernel
theorem qsw (r : Int) (a b : Nat) (hab : a <= b) (hb : b < 11) (h : qwl r a = true) : qwl r b = true := by
 obtain ⟨x, hx⟩ := qfc a (by omega)
 obtain ⟨y, hy⟩ := qfc b hb
 rw [qc8 hx] at h
 rw [qc8 hy]
 have := xam (xam qs9 a (by simp; omega)) b (by simp; omega)
 rw [hx, hy] at this
 simp [hab] at this h |-
 omega
theorem qpt {r : Int} {k : Nat} (hk : k <= 11) (h : (∀ j, j < k -> qwl r j = false) /\ (k < 11 -> qwl r k = true)) : WFound r k := by
 refine ⟨by rw [qdw]; exact hk, fun j x hj hx => ?_, fun x hx => ?_⟩
 ·have := h.1 j hj
  rw [qc8 hx] at this
  simpa using this
 ·have hl := (xah hx).1
  rw [qdw] at hl
  have := h.2 hl
  rw [qc8 hx] at this
  simpa using this
theorem q0f : ∀ args w, (callFunc 153 args).run Tryz.prog w = .ok (.enter 153 args) w := enters_of Tryz.func153 (by kernel_rfl) rfl
theorem qvx (r : Int) (w : World) (hT : Tab w) (b : Bool) (hb : wideB r = b) :
 Calls Tryz.prog 139 #[.int .i32 r] w fun e w' => e = .returned (.bool b) /\ Below w.heap.size w w' := by
 have S : Hid (Calls Tryz.prog 143 #[.int .i64 (11 : Nat), .func (.func 153) #[] #[.pointer (some ⟨w.heap.size, 0, none⟩)]] (w.alloc (.cells #[.int .i32 r] 21)) fun e w' => ∃ k : Nat, e = .returned (.int .i64 k) /\ k <= 11 /\ Hid ((∀ j, j < k -> qwl r j = false) /\ (k < 11 -> qwl r k = true)) /\ Below (w.alloc (.cells #[.int .i32 r] 21)).heap.size (w.alloc (.cells #[.int .i32 r] 21)) w') := by
  refine qhd _ _ 11 (qwl r) _ (by omega) q0f (fun W i hW hi => ?_) (qsw r)
  obtain ⟨x, hx⟩ := qfc i hi
  rw [qc8 hx]
  exact qyd i w.heap.size r x W hi hx (qbj hW (by simp) (qc0 _ _ _)) ((hT.alloc _).below hW)
 have HT := xaa hT
 clear hT
 go_enter Tryz.func139, Tryz.ntmps139
 go_wp2_with fail
 refine S.out.mono ?_
 rintro e w1 ⟨k, rfl, hk, F, b1⟩
 have h1 : w1.cell? ⟨w.heap.size, 0, none⟩ = some (.int .i32 r) := qbj b1 (by simp) (qc0 _ _ _)
 have h3 := (HT.out.alloc (.cells #[.int .i32 r] 21)).below b1
 have hbel := xaq (xar _ _) b1
 have HE := xaa ((qnb r k (qpt hk F.out)).trans hb)
 clear b1 S F hb
 by_cases hlt : k < 11
 ·obtain ⟨x, hx⟩ := qfc k hlt
  obtain ⟨c1, _⟩ := h3.cells hx
  have HC : Hid (decide (x.1 <= r) = b) := by
   have := HE.out
   unfold qdx at this
   rw [hx] at this
   exact this
  obtain ⟨a, ha⟩ : ∃ a, x.1 = a := ⟨_, rfl⟩
  rw [ha] at c1
  rw [ha] at HC
  clear hx ha h3 HE
  have hkz : (k : Int) < 11 := by omega
  go_wp2_with fail
  go_quiet (fail)
  go_wp2_with fail
  go_ret
  exact ⟨qak (by rw [<- HC.out]), below_drewN hbel _⟩
 ·have hkn : k = 11 := by omega
  have HC : Hid (false = b) := by
   have := HE.out
   unfold qdx at this
   rw [List.getElem?_eq_none (by rw [qdw]; omega)] at this
   exact this
  subst hkn
  clear hk h3 HE
  go_wp2_with fail
  go_quiet (fail)
  go_wp2_with fail
  go_ret
  exact ⟨qak (by rw [<- HC.out]), below_drewN hbel _⟩
end
end Go.Proofs.YtmceblkjbpbcoaaGreatDoor
