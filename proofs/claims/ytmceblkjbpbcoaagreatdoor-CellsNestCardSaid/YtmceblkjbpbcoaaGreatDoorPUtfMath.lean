/- Contracts of layers below. -/
import Derived.KernelRfl
import Derived.Test.YtmceblkjbpbcoaaGreatDoorRows
import Derived.WalkKit
import Derived.ProofKit
import Derived.OpenShut
import Derived.IntWalk
import Derived.WalkSpells
import Derived.Lib.Hide
import Derived.Deep.QuietTactic
import Derived.BigQuiet
import Derived.Deep.LoopGhost
import Derived.Deep.DeepCutAuto
import Derived.OwnWalk
import Derived.Maps.AppendAt
import Derived.Deep.AppendLies
import Derived.Laws.BytesArg
import Derived.RegionTactic
import Derived.Laws.StructEq
import Derived.Laws.Rows
namespace Go.Proofs.YtmceblkjbpbcoaaGreatDoor
set_option maxRecDepth 100000
set_option maxHeartbeats 4000000
open Go.ChangeShapes Go.WideShapes Go.ChangeAt Go.RowKit
namespace Utf
def long (c : Nat) : Nat := if c <= 127 then 1 else if 194 <= c /\ c <= 223 then 2 else if 224 <= c /\ c <= 239 then 3 else if 240 <= c /\ c <= 244 then 4 else 0
def may (f i c : Nat) : Bool :=
 if 1 < i then decide (128 <= c /\ c <= 191) else if f = 224 then decide (160 <= c /\ c <= 191) else if f = 237 then decide (128 <= c /\ c <= 159) else if f = 240 then decide (144 <= c /\ c <= 191) else if f = 244 then decide (128 <= c /\ c <= 143) else decide (128 <= c /\ c <= 191)
def cnt (f : Nat) : Nat -> Nat -> List Nat -> Nat
 | 0, _, _ => 0
 | _ + 1, _, [] => 0
 | m + 1, i, c :: r => if may f i c then 1 + cnt f m (i + 1) r else 0
def begins : List Nat -> Nat
 | [] => 0
 | c :: r => if long c = 0 then 0 else 1 + cnt c (long c - 1) 1 r
def point : List Nat -> Int
 | [a] => a
 | [a, b] => 64 * ((a : Int) - 192) + b - 128
 | [a, b, c] => 64 * (64 * ((a : Int) - 224) + b - 128) + c - 128
 | [a, b, c, d] => 64 * (64 * (64 * ((a : Int) - 240) + b - 128) + c - 128) + d - 128
 | _ => 0
def ok : List Nat -> Bool
 | [] => false
 | c :: r => decide (0 < begins (c :: r)) && decide (begins (c :: r) = long c)
def size (l : List Nat) : Nat := if ok l then begins l else max (begins l) 1
def rune (l : List Nat) : Int := if ok l then point (l.take (begins l)) else 65533
theorem qxu (f : Nat) : ∀ (m i : Nat) (l : List Nat), cnt f m i l <= m /\ cnt f m i l <= l.length
 | 0, _, _ => by simp [cnt]
 | _ + 1, _, [] => by simp [cnt]
 | m + 1, i, c :: r => by
   have := qxu f m (i + 1) r
   unfold cnt
   split <;> simp <;> omega
theorem qil (c : Nat) : long c <= 4 := by unfold long; split <;> (try split) <;> (try split) <;> (try split) <;> omega
theorem qst (l : List Nat) : begins l <= 4 /\ begins l <= l.length := by
 cases l with
 | nil => simp [begins]
 | cons c r =>
   have h1 := qxu c (long c - 1) 1 r
   have h2 := qil c
   unfold begins
   simp only [List.length_cons]
   split
   ·omega
   ·omega
theorem qei (c : Nat) (r : List Nat) : 1 <= size (c :: r) /\ size (c :: r) <= 4 /\ size (c :: r) <= (c :: r).length := by
 have h := qst (c :: r)
 unfold size
 split
 ·rename_i h1
  unfold ok at h1
  simp at h1 h
  simp
  omega
 ·simp at h |-
  omega
def qi4 : List Nat -> List (Int × Nat)
 | [] => []
 | c :: r => (rune (c :: r), size (c :: r)) :: qi4 ((c :: r).drop (size (c :: r)))
termination_by l => l.length
decreasing_by
 have := qei c r
 simp only [List.length_drop, List.length_cons] at *
 omega
def valid : List Nat -> Bool
 | [] => true
 | c :: r => ok (c :: r) && valid ((c :: r).drop (size (c :: r)))
termination_by l => l.length
decreasing_by
 have := qei c r
 simp only [List.length_drop, List.length_cons] at *
 omega
def Pt (r : Int) : Prop := 0 <= r /\ r <= 1114111 /\ (r < 55296 \/ 57343 < r)
instance (r : Int) : Decidable (Pt r) := by unfold Pt; infer_instance
def fix (r : Int) : Int := if Pt r then r else 65533
def bytes (r : Nat) : List Nat :=
 if r < 128 then [r] else if r < 2048 then [192 + r / 64, 128 + r % 64] else if r < 65536 then [224 + r / 4096, 128 + r / 64 % 64, 128 + r % 64] else [240 + r / 262144, 128 + r / 4096 % 64, 128 + r / 64 % 64, 128 + r % 64]
def one (r : Int) : List Nat := bytes (fix r).toNat
def enc (l : List Int) : List Nat := l.flatMap one
theorem qxh (f i c : Nat) (h : may f i c = true) : 128 <= c /\ c <= 191 /\ (i = 1 -> f = 224 -> 160 <= c) /\ (i = 1 -> f = 237 -> c <= 159) /\ (i = 1 -> f = 240 -> 144 <= c) /\ (i = 1 -> f = 244 -> c <= 143) := by
 unfold may at h
 split at h
 ·simp at h; omega
 ·split at h
  ·simp at h; omega
  ·split at h
   ·simp at h; omega
   ·split at h
    ·simp at h; omega
    ·split at h
     ·simp at h; omega
     ·simp at h; omega
theorem qrh (a : Nat) : (long a = 1 -> a <= 127) /\ (long a = 2 -> 194 <= a /\ a <= 223) /\ (long a = 3 -> 224 <= a /\ a <= 239) /\ (long a = 4 -> 240 <= a /\ a <= 244) := by
 unfold long
 split
 ·omega
 ·split
  ·omega
  ·split
   ·omega
   ·split <;> omega
end Utf
namespace Ut
def Drawn (w w' : World) : Prop := ∃ n, w' = w.drewN n
def bs (s : ByteArray) : List Nat := s.data.toList.map UInt8.toNat
theorem bs_len (s : ByteArray) : (bs s).length = s.size := by simp [bs]
theorem bs_get (s : ByteArray) (k : Nat) (h : k < s.size) : (bs s)[k]? = some s[k].toNat := by
 have : s.data.toList[k]? = some s[k] := by
  rw [List.getElem?_eq_getElem (by simpa using h)]
  rfl
 simp [bs, this]
theorem qlm (s : ByteArray) (k : Nat) (h : k < s.size) : (bs s).drop k = s[k].toNat :: (bs s).drop (k + 1) := by
 have h2 : k < (bs s).length := by rw [bs_len]; exact h
 rw [List.drop_eq_getElem_cons h2]
 congr 1
 have := bs_get s k h
 rw [List.getElem?_eq_getElem h2] at this
 exact Option.some.inj this
theorem qsp (c : UInt8) : c.toNat <= 255 := by have := c.toNat_lt; omega
end Ut
namespace Ut
theorem q0v (s : ByteArray) (k : Nat) (h : k < s.size) : ∃ a : UInt8, s[k] = a /\ (bs s).drop k = a.toNat :: (bs s).drop (k + 1) := ⟨s[k], rfl, qlm s k h⟩
theorem qxw (s : ByteArray) (k : Nat) (h : s.size <= k) : (bs s).drop k = [] := List.drop_eq_nil_of_le (by rw [bs_len]; exact h)
end Ut
namespace Ut
theorem qoz (s : ByteArray) (a b : Nat) : bs (s.extract a b) = ((bs s).drop a).take (b - a) := by
 unfold bs
 simp [ByteArray.data_extract, List.map_take, List.map_drop]
theorem Tryz.infoC : (Tryz.prog.info? 52).map (fun i => (i.zero, i.size, i.bytes)) = some (some (.agg #[.int .i32 0, .int .i64 0, .int .i64 0, .int .i64 0, .int .u8 0]), 5, 40) := by kernel_rfl
theorem qdu {B : Nat} {a b c : World} (h : Below B a b) (d : Drawn b c) : Below B a c := by
 obtain ⟨n, rfl⟩ := d
 exact h.trans ⟨rfl, rfl, rfl, Nat.le_refl _, fun _ _ => rfl⟩
end Ut
namespace Ut
structure Ch where
 r : Int
 node : Int
 at_ : Int
 n : Int
 kind : Int
deriving DecidableEq
def Ch.cells (c : Ch) : List Value := [.int .i32 c.r, .int .i64 c.node, .int .i64 c.at_, .int .i64 c.n, .int .u8 c.kind]
end Ut
namespace Ut
def chs : Nat -> List (Int × Nat) -> List Ch
 | _, [] => []
 | k, (r, n) :: t => ⟨r, 0, k, n, 0⟩ :: chs (k + n) t
theorem qsi : ∀ (l : List (Int × Nat)) (k : Nat), (chs k l).length = l.length
 | [], _ => rfl
 | (r, n) :: t, k => by simp [chs, qsi t (k + n)]
theorem Utf.qdv (l : List Nat) : (Utf.qi4 l).length <= l.length := by
 suffices H : ∀ n (l : List Nat), l.length <= n -> (Utf.qi4 l).length <= l.length from H l.length l (Nat.le_refl _)
 intro n
 induction n with
 | zero =>
   intro l hl
   have : l = [] := List.length_eq_zero_iff.1 (by omega)
   subst this
   simp [Utf.qi4]
 | succ n ih =>
   intro l hl
   cases l with
   | nil => simp [Utf.qi4]
   | cons c r =>
     have hb := Utf.qei c r
     have h2 := ih ((c :: r).drop (Utf.size (c :: r))) (by rw [List.length_drop]; omega)
     rw [Utf.qi4, List.length_cons]
     rw [List.length_drop] at h2
     omega
def Own (w : World) (base : Nat) (v : Value) (l : List Ch) : Prop := w.ownsRow base 52 5 v l.length (l.flatMap Ch.cells)
theorem Own.lit (w : World) (l : List Ch) (n : Nat) (hn : l.length = n) (hm : n <= 1000) (cs : Array Value) (hc : cs.toList = l.flatMap Ch.cells) : Own (w.alloc (.cells cs 52)) w.heap.size (.slice (some ⟨w.heap.size, 0, none⟩) n n) l := by
 subst hn
 have hlen : ∀ l : List Ch, (l.flatMap Ch.cells).length = l.length * 5 := by
  intro l
  induction l with
  | nil => rfl
  | cons c t ih => rw [List.flatMap_cons, List.length_append, ih, List.length_cons, show c.cells.length = 5 from rfl]; omega
 have hs : cs.size = l.length * 5 := by rw [<- hlen, <- hc, Array.length_toList]
 refine ⟨hlen l, .inr ⟨w.heap.size, l.length, cs, rfl, Nat.le_refl _, (MapKept.heap_alloc w _).1, Nat.le_refl _, by unfold maxLen; omega, hs, ?_⟩⟩
 rw [hc, List.take_of_length_le (by rw [hlen]; omega)]
theorem below_alloc (w : World) (o : Obj) : Below w.heap.size w (w.alloc o) := (Below.refl _ _).alloc (Nat.le_refl _) _
theorem below_seq {a b c : World} (h : Below a.heap.size a b) (k : Below b.heap.size b c) : Below a.heap.size a c := h.trans (k.mono h.size)
end Ut
namespace Ut
def tabCells : Array Value := #[.int .u8 0, .int .u8 127, .int .u8 0, .int .u8 0, .int .u8 0, .int .i64 1, .int .u8 194, .int .u8 223, .int .u8 128, .int .u8 191, .int .u8 192, .int .i64 2, .int .u8 224, .int .u8 224, .int .u8 160, .int .u8 191, .int .u8 224, .int .i64 3, .int .u8 225, .int .u8 236, .int .u8 128, .int .u8 191, .int .u8 224, .int .i64 3, .int .u8 237, .int .u8 237, .int .u8 128, .int .u8 159, .int .u8 224, .int .i64 3, .int .u8 238, .int .u8 239, .int .u8 128, .int .u8 191, .int .u8 224, .int .i64 3, .int .u8 240, .int .u8 240, .int .u8 144, .int .u8 191, .int .u8 240, .int .i64 4, .int .u8 241, .int .u8 243, .int .u8 128, .int .u8 191, .int .u8 240, .int .i64 4, .int .u8 244, .int .u8 244, .int .u8 128, .int .u8 143, .int .u8 240, .int .i64 4]
def Tab (w : World) : Prop := ∃ t fz, w.heap[9]? = some (.cells tabCells t fz)
theorem Tab.pos {w : World} (h : Tab w) : 9 < w.heap.size := by
 obtain ⟨t, fz, h⟩ := h
 exact (Array.getElem?_eq_some_iff.1 h).1
theorem Tab.below {w w' : World} (h : Tab w) (b : Below w.heap.size w w') : Tab w' := by
 have hp := h.pos
 obtain ⟨t, fz, h⟩ := h
 exact ⟨t, fz, (b.block 9 hp).trans h⟩
theorem Tab.alloc {w : World} (h : Tab w) (o : Obj) : Tab (w.alloc o) := h.below (below_alloc w o)
def ends : Nat -> Nat × Nat
 | 0 => (0, 127)
 | 1 => (194, 223)
 | 2 => (224, 224)
 | 3 => (225, 236)
 | 4 => (237, 237)
 | 5 => (238, 239)
 | 6 => (240, 240)
 | 7 => (241, 243)
 | 8 => (244, 244)
 | _ => (1, 0)
def rowOf : Nat -> Array Value
 | 0 => #[.int .u8 0, .int .u8 127, .int .u8 0, .int .u8 0, .int .u8 0, .int .i64 1]
 | 1 => #[.int .u8 194, .int .u8 223, .int .u8 128, .int .u8 191, .int .u8 192, .int .i64 2]
 | 2 => #[.int .u8 224, .int .u8 224, .int .u8 160, .int .u8 191, .int .u8 224, .int .i64 3]
 | 3 => #[.int .u8 225, .int .u8 236, .int .u8 128, .int .u8 191, .int .u8 224, .int .i64 3]
 | 4 => #[.int .u8 237, .int .u8 237, .int .u8 128, .int .u8 159, .int .u8 224, .int .i64 3]
 | 5 => #[.int .u8 238, .int .u8 239, .int .u8 128, .int .u8 191, .int .u8 224, .int .i64 3]
 | 6 => #[.int .u8 240, .int .u8 240, .int .u8 144, .int .u8 191, .int .u8 240, .int .i64 4]
 | 7 => #[.int .u8 241, .int .u8 243, .int .u8 128, .int .u8 191, .int .u8 240, .int .i64 4]
 | 8 => #[.int .u8 244, .int .u8 244, .int .u8 128, .int .u8 143, .int .u8 240, .int .i64 4]
 | _ => #[.int .u8 0, .int .u8 0, .int .u8 0, .int .u8 0, .int .u8 0, .int .i64 0]
def Fits (i b : Nat) : Prop := (ends i).1 <= b /\ b <= (ends i).2
theorem qal {P : Program} {fn : Func} {p u : Tmp} {ty : TypeId} (h : fn.results = #[.cell p ty, .tmp u]) (tmps : Array Value) (w : World) (g : Nat) (t : TypeId) (cs : Array Value) (fr : Nat × Nat) (d : TypeDesc)
 (hp : tmps.getD p undef = .pointer (some ⟨g, 0, none⟩)) (hg : w.heap[g]? = some (.cells cs t fr))
 (hu : P.underlying ty = some d) (hd : (match d with | .struct _ | .array _ _ => true | _ => false) = true) (hi : (P.info? ty).map (·.size) = some cs.size) :
 (results fn tmps).run P w = .ok (.tuple #[.agg cs, tmps.getD u undef]) w := by
 have hp' : tmps[p]?.getD undef = .pointer (some ⟨g, 0, none⟩) := by simpa using hp
 simp [results, h, hp', asAddr, run_loadVar_row w g t ty cs fr d hg hu hd hi]
theorem qbb {B g : Nat} {w0 w : World} (hb : Below B w0 w) (hBg : B <= g) (cs : Array Value) : Below B w0 (w.setRow g cs) :=
 hb.trans ⟨rfl, rfl, rfl, by simp, fun k hk => setRow_other w g k cs (by omega)⟩
theorem qaz {k b : Nat} (h : Hid (∀ i, i < k -> ¬ Fits i b)) (hk : ¬ Fits k b) : ∀ i, i < k + 1 -> ¬ Fits i b := fun i hi => by
 by_cases he : i = k
 ·rw [he]; exact hk
 ·exact h.out i (by omega)
theorem qoh (b : Nat) (w : World) (hb : b <= 255) (hT : Tab w) :
 Calls Tryz.prog 149 #[.int .u8 b] w fun e w' => Below w.heap.size w w' ∧
  ((∃ i, i < 9 /\ Fits i b /\ e = .returned (.tuple #[.agg (rowOf i), .bool true])) \/ ((∀ i, i < 9 -> ¬ Fits i b) /\ e = .returned (.tuple #[.agg #[.int .u8 0, .int .u8 0, .int .u8 0, .int .u8 0, .int .u8 0, .int .i64 0], .bool false]))) := by
 obtain ⟨tt, fr, hg⟩ := hT.alloc (.cells #[.int .u8 0, .int .u8 0, .int .u8 0, .int .u8 0, .int .u8 0, .int .i64 0] 237)
 clear hT
 have i0 : Hid (∀ w, (Instr.index 258 (.agg tabCells) (.int .i64 0)).run Tryz.prog w = .ok (.agg #[.int .u8 0, .int .u8 127, .int .u8 0, .int .u8 0, .int .u8 0, .int .i64 1]) w) := fun _ => by kernel_rfl
 have i1 : Hid (∀ w, (Instr.index 258 (.agg tabCells) (.int .i64 1)).run Tryz.prog w = .ok (.agg #[.int .u8 194, .int .u8 223, .int .u8 128, .int .u8 191, .int .u8 192, .int .i64 2]) w) := fun _ => by kernel_rfl
 have i2 : Hid (∀ w, (Instr.index 258 (.agg tabCells) (.int .i64 2)).run Tryz.prog w = .ok (.agg #[.int .u8 224, .int .u8 224, .int .u8 160, .int .u8 191, .int .u8 224, .int .i64 3]) w) := fun _ => by kernel_rfl
 have i3 : Hid (∀ w, (Instr.index 258 (.agg tabCells) (.int .i64 3)).run Tryz.prog w = .ok (.agg #[.int .u8 225, .int .u8 236, .int .u8 128, .int .u8 191, .int .u8 224, .int .i64 3]) w) := fun _ => by kernel_rfl
 have i4 : Hid (∀ w, (Instr.index 258 (.agg tabCells) (.int .i64 4)).run Tryz.prog w = .ok (.agg #[.int .u8 237, .int .u8 237, .int .u8 128, .int .u8 159, .int .u8 224, .int .i64 3]) w) := fun _ => by kernel_rfl
 have i5 : Hid (∀ w, (Instr.index 258 (.agg tabCells) (.int .i64 5)).run Tryz.prog w = .ok (.agg #[.int .u8 238, .int .u8 239, .int .u8 128, .int .u8 191, .int .u8 224, .int .i64 3]) w) := fun _ => by kernel_rfl
 have i6 : Hid (∀ w, (Instr.index 258 (.agg tabCells) (.int .i64 6)).run Tryz.prog w = .ok (.agg #[.int .u8 240, .int .u8 240, .int .u8 144, .int .u8 191, .int .u8 240, .int .i64 4]) w) := fun _ => by kernel_rfl
 have i7 : Hid (∀ w, (Instr.index 258 (.agg tabCells) (.int .i64 7)).run Tryz.prog w = .ok (.agg #[.int .u8 241, .int .u8 243, .int .u8 128, .int .u8 191, .int .u8 240, .int .i64 4]) w) := fun _ => by kernel_rfl
 have i8 : Hid (∀ w, (Instr.index 258 (.agg tabCells) (.int .i64 8)).run Tryz.prog w = .ok (.agg #[.int .u8 244, .int .u8 244, .int .u8 128, .int .u8 143, .int .u8 240, .int .i64 4]) w) := fun _ => by kernel_rfl
 obtain ⟨TC, hTC⟩ : ∃ T, tabCells = T := ⟨_, rfl⟩
 have hsz : (Tryz.prog.info? 258).map (·.size) = some tabCells.size := by kernel_rfl
 rw [hTC] at hg i0 i1 i2 i3 i4 i5 i6 i7 i8 hsz
 clear hTC
 go_enter Tryz.func149, Tryz.ntmps149
 go_wp2_with (refine wpList_load_row rfl 258 _ rfl 9 rfl tt _ fr _ hg Tryz.underlying258 rfl hsz ?_)
 clear hg hsz
 go_loopg [7] 100 (fun g s7 wx => Below w.heap.size w wx /\ wx.heap[w.heap.size]? = some (.cells #[.int .u8 0, .int .u8 0, .int .u8 0, .int .u8 0, .int .u8 0, .int .i64 0] 237) /\ ∃ k : Nat, s7 = .int .i64 k /\ k <= 9 /\ g = 100 - k /\ Hid (∀ i, i < k -> ¬ Fits i b))
 case atStart => exact ⟨below_alloc _ _, Go.heap_alloc_new w _, 0, rfl, by omega, rfl, fun i hi => by omega⟩
 case round =>
  obtain ⟨bel, hz, k, rfl, hk, rfl, hF⟩ := hrel
  have hlt : w.heap.size < wr.heap.size := (Array.getElem?_eq_some_iff.1 hz).1
  have HZ := Lib.hid hz
  have hi6 : Hid ((Tryz.prog.info? 237).map (·.size) = some 6) := Lib.hid (by kernel_rfl)
  clear hz
  have hc : k = 0 \/ k = 1 \/ k = 2 \/ k = 3 \/ k = 4 \/ k = 5 \/ k = 6 \/ k = 7 \/ k = 8 \/ k = 9 := by omega
  rcases hc with rfl | rfl | rfl | rfl | rfl | rfl | rfl | rfl | rfl | rfl
  ·have ix := i0.out
   have HZ1 : Hid ((wr.alloc (.cells #[.int .u8 0, .int .u8 127, .int .u8 0, .int .u8 0, .int .u8 0, .int .i64 1] 237)).heap[w.heap.size]? = some (.cells #[.int .u8 0, .int .u8 0, .int .u8 0, .int .u8 0, .int .u8 0, .int .i64 0] 237)) := (heap_alloc_old wr _ hlt).trans HZ.out
   by_cases h2 : 0 <= b
   ·have h2z : (0 : Int) <= (b : Int) := by omega
    by_cases h3 : b <= 127
    ·have h3z : (b : Int) <= 127 := by omega
     go_wp2_with (first
      | (refine wpList_load_row rfl 237 (.tmp 5) rfl wr.heap.size rfl 237 #[.int .u8 0, .int .u8 127, .int .u8 0, .int .u8 0, .int .u8 0, .int .i64 1] (0, 0) _ (heap_alloc_new wr _) Tryz.underlying237 rfl hi6.out ?_)
      | (refine wpList_store_row rfl 237 (.tmp 2) (.tmp 20) rfl w.heap.size #[.int .u8 0, .int .u8 127, .int .u8 0, .int .u8 0, .int .u8 0, .int .i64 1] rfl rfl 237 #[.int .u8 0, .int .u8 0, .int .u8 0, .int .u8 0, .int .u8 0, .int .i64 0] HZ1.out hi6.out rfl (by kernel_rfl) ?_))
     (try simp only [Exit.inBlock, Exit.then])
     refine ⟨rfl, _, qal rfl _ _ w.heap.size 237 #[.int .u8 0, .int .u8 127, .int .u8 0, .int .u8 0, .int .u8 0, .int .i64 1] (0, 0) _ rfl (setRow_heap _ _ _ _ _ _ HZ1.out) Tryz.underlying237 rfl hi6.out, ?_⟩
     exact ⟨qbb (bel.trans ((below_alloc wr _).mono bel.size)) (Nat.le_refl _) _, Or.inl ⟨0, by omega, ⟨h2, h3⟩, rfl⟩⟩
    ·have h3z : ¬ (b : Int) <= 127 := by omega
     go_wp2_with fail
     go_roundg (100 - 1)
     case measure => omega
     case rel => exact ⟨bel.trans ((below_alloc wr _).mono bel.size), (heap_alloc_old wr _ hlt).trans HZ.out, 1, by go_num, by omega, rfl, qaz hF (fun h => h3 h.2)⟩
   ·exact absurd (Nat.zero_le b) h2
  ·have ix := i1.out
   have HZ1 : Hid ((wr.alloc (.cells #[.int .u8 194, .int .u8 223, .int .u8 128, .int .u8 191, .int .u8 192, .int .i64 2] 237)).heap[w.heap.size]? = some (.cells #[.int .u8 0, .int .u8 0, .int .u8 0, .int .u8 0, .int .u8 0, .int .i64 0] 237)) := (heap_alloc_old wr _ hlt).trans HZ.out
   by_cases h2 : 194 <= b
   ·have h2z : (194 : Int) <= (b : Int) := by omega
    by_cases h3 : b <= 223
    ·have h3z : (b : Int) <= 223 := by omega
     go_wp2_with (first
      | (refine wpList_load_row rfl 237 (.tmp 5) rfl wr.heap.size rfl 237 #[.int .u8 194, .int .u8 223, .int .u8 128, .int .u8 191, .int .u8 192, .int .i64 2] (0, 0) _ (heap_alloc_new wr _) Tryz.underlying237 rfl hi6.out ?_)
      | (refine wpList_store_row rfl 237 (.tmp 2) (.tmp 20) rfl w.heap.size #[.int .u8 194, .int .u8 223, .int .u8 128, .int .u8 191, .int .u8 192, .int .i64 2] rfl rfl 237 #[.int .u8 0, .int .u8 0, .int .u8 0, .int .u8 0, .int .u8 0, .int .i64 0] HZ1.out hi6.out rfl (by kernel_rfl) ?_))
     (try simp only [Exit.inBlock, Exit.then])
     refine ⟨rfl, _, qal rfl _ _ w.heap.size 237 #[.int .u8 194, .int .u8 223, .int .u8 128, .int .u8 191, .int .u8 192, .int .i64 2] (0, 0) _ rfl (setRow_heap _ _ _ _ _ _ HZ1.out) Tryz.underlying237 rfl hi6.out, ?_⟩
     exact ⟨qbb (bel.trans ((below_alloc wr _).mono bel.size)) (Nat.le_refl _) _, Or.inl ⟨1, by omega, ⟨h2, h3⟩, rfl⟩⟩
    ·have h3z : ¬ (b : Int) <= 223 := by omega
     go_wp2_with fail
     go_roundg (100 - 2)
     case measure => omega
     case rel => exact ⟨bel.trans ((below_alloc wr _).mono bel.size), (heap_alloc_old wr _ hlt).trans HZ.out, 2, by go_num, by omega, rfl, qaz hF (fun h => h3 h.2)⟩
   ·have h2z : ¬ (194 : Int) <= (b : Int) := by omega
    go_wp2_with fail
    go_roundg (100 - 2)
    case measure => omega
    case rel => exact ⟨bel.trans ((below_alloc wr _).mono bel.size), (heap_alloc_old wr _ hlt).trans HZ.out, 2, by go_num, by omega, rfl, qaz hF (fun h => h2 h.1)⟩
  ·have ix := i2.out
   have HZ1 : Hid ((wr.alloc (.cells #[.int .u8 224, .int .u8 224, .int .u8 160, .int .u8 191, .int .u8 224, .int .i64 3] 237)).heap[w.heap.size]? = some (.cells #[.int .u8 0, .int .u8 0, .int .u8 0, .int .u8 0, .int .u8 0, .int .i64 0] 237)) := (heap_alloc_old wr _ hlt).trans HZ.out
   by_cases h2 : 224 <= b
   ·have h2z : (224 : Int) <= (b : Int) := by omega
    by_cases h3 : b <= 224
    ·have h3z : (b : Int) <= 224 := by omega
     go_wp2_with (first
      | (refine wpList_load_row rfl 237 (.tmp 5) rfl wr.heap.size rfl 237 #[.int .u8 224, .int .u8 224, .int .u8 160, .int .u8 191, .int .u8 224, .int .i64 3] (0, 0) _ (heap_alloc_new wr _) Tryz.underlying237 rfl hi6.out ?_)
      | (refine wpList_store_row rfl 237 (.tmp 2) (.tmp 20) rfl w.heap.size #[.int .u8 224, .int .u8 224, .int .u8 160, .int .u8 191, .int .u8 224, .int .i64 3] rfl rfl 237 #[.int .u8 0, .int .u8 0, .int .u8 0, .int .u8 0, .int .u8 0, .int .i64 0] HZ1.out hi6.out rfl (by kernel_rfl) ?_))
     (try simp only [Exit.inBlock, Exit.then])
     refine ⟨rfl, _, qal rfl _ _ w.heap.size 237 #[.int .u8 224, .int .u8 224, .int .u8 160, .int .u8 191, .int .u8 224, .int .i64 3] (0, 0) _ rfl (setRow_heap _ _ _ _ _ _ HZ1.out) Tryz.underlying237 rfl hi6.out, ?_⟩
     exact ⟨qbb (bel.trans ((below_alloc wr _).mono bel.size)) (Nat.le_refl _) _, Or.inl ⟨2, by omega, ⟨h2, h3⟩, rfl⟩⟩
    ·have h3z : ¬ (b : Int) <= 224 := by omega
     go_wp2_with fail
     go_roundg (100 - 3)
     case measure => omega
     case rel => exact ⟨bel.trans ((below_alloc wr _).mono bel.size), (heap_alloc_old wr _ hlt).trans HZ.out, 3, by go_num, by omega, rfl, qaz hF (fun h => h3 h.2)⟩
   ·have h2z : ¬ (224 : Int) <= (b : Int) := by omega
    go_wp2_with fail
    go_roundg (100 - 3)
    case measure => omega
    case rel => exact ⟨bel.trans ((below_alloc wr _).mono bel.size), (heap_alloc_old wr _ hlt).trans HZ.out, 3, by go_num, by omega, rfl, qaz hF (fun h => h2 h.1)⟩
  ·have ix := i3.out
   have HZ1 : Hid ((wr.alloc (.cells #[.int .u8 225, .int .u8 236, .int .u8 128, .int .u8 191, .int .u8 224, .int .i64 3] 237)).heap[w.heap.size]? = some (.cells #[.int .u8 0, .int .u8 0, .int .u8 0, .int .u8 0, .int .u8 0, .int .i64 0] 237)) := (heap_alloc_old wr _ hlt).trans HZ.out
   by_cases h2 : 225 <= b
   ·have h2z : (225 : Int) <= (b : Int) := by omega
    by_cases h3 : b <= 236
    ·have h3z : (b : Int) <= 236 := by omega
     go_wp2_with (first
      | (refine wpList_load_row rfl 237 (.tmp 5) rfl wr.heap.size rfl 237 #[.int .u8 225, .int .u8 236, .int .u8 128, .int .u8 191, .int .u8 224, .int .i64 3] (0, 0) _ (heap_alloc_new wr _) Tryz.underlying237 rfl hi6.out ?_)
      | (refine wpList_store_row rfl 237 (.tmp 2) (.tmp 20) rfl w.heap.size #[.int .u8 225, .int .u8 236, .int .u8 128, .int .u8 191, .int .u8 224, .int .i64 3] rfl rfl 237 #[.int .u8 0, .int .u8 0, .int .u8 0, .int .u8 0, .int .u8 0, .int .i64 0] HZ1.out hi6.out rfl (by kernel_rfl) ?_))
     (try simp only [Exit.inBlock, Exit.then])
     refine ⟨rfl, _, qal rfl _ _ w.heap.size 237 #[.int .u8 225, .int .u8 236, .int .u8 128, .int .u8 191, .int .u8 224, .int .i64 3] (0, 0) _ rfl (setRow_heap _ _ _ _ _ _ HZ1.out) Tryz.underlying237 rfl hi6.out, ?_⟩
     exact ⟨qbb (bel.trans ((below_alloc wr _).mono bel.size)) (Nat.le_refl _) _, Or.inl ⟨3, by omega, ⟨h2, h3⟩, rfl⟩⟩
    ·have h3z : ¬ (b : Int) <= 236 := by omega
     go_wp2_with fail
     go_roundg (100 - 4)
     case measure => omega
     case rel => exact ⟨bel.trans ((below_alloc wr _).mono bel.size), (heap_alloc_old wr _ hlt).trans HZ.out, 4, by go_num, by omega, rfl, qaz hF (fun h => h3 h.2)⟩
   ·have h2z : ¬ (225 : Int) <= (b : Int) := by omega
    go_wp2_with fail
    go_roundg (100 - 4)
    case measure => omega
    case rel => exact ⟨bel.trans ((below_alloc wr _).mono bel.size), (heap_alloc_old wr _ hlt).trans HZ.out, 4, by go_num, by omega, rfl, qaz hF (fun h => h2 h.1)⟩
  ·have ix := i4.out
   have HZ1 : Hid ((wr.alloc (.cells #[.int .u8 237, .int .u8 237, .int .u8 128, .int .u8 159, .int .u8 224, .int .i64 3] 237)).heap[w.heap.size]? = some (.cells #[.int .u8 0, .int .u8 0, .int .u8 0, .int .u8 0, .int .u8 0, .int .i64 0] 237)) := (heap_alloc_old wr _ hlt).trans HZ.out
   by_cases h2 : 237 <= b
   ·have h2z : (237 : Int) <= (b : Int) := by omega
    by_cases h3 : b <= 237
    ·have h3z : (b : Int) <= 237 := by omega
     go_wp2_with (first
      | (refine wpList_load_row rfl 237 (.tmp 5) rfl wr.heap.size rfl 237 #[.int .u8 237, .int .u8 237, .int .u8 128, .int .u8 159, .int .u8 224, .int .i64 3] (0, 0) _ (heap_alloc_new wr _) Tryz.underlying237 rfl hi6.out ?_)
      | (refine wpList_store_row rfl 237 (.tmp 2) (.tmp 20) rfl w.heap.size #[.int .u8 237, .int .u8 237, .int .u8 128, .int .u8 159, .int .u8 224, .int .i64 3] rfl rfl 237 #[.int .u8 0, .int .u8 0, .int .u8 0, .int .u8 0, .int .u8 0, .int .i64 0] HZ1.out hi6.out rfl (by kernel_rfl) ?_))
     (try simp only [Exit.inBlock, Exit.then])
     refine ⟨rfl, _, qal rfl _ _ w.heap.size 237 #[.int .u8 237, .int .u8 237, .int .u8 128, .int .u8 159, .int .u8 224, .int .i64 3] (0, 0) _ rfl (setRow_heap _ _ _ _ _ _ HZ1.out) Tryz.underlying237 rfl hi6.out, ?_⟩
     exact ⟨qbb (bel.trans ((below_alloc wr _).mono bel.size)) (Nat.le_refl _) _, Or.inl ⟨4, by omega, ⟨h2, h3⟩, rfl⟩⟩
    ·have h3z : ¬ (b : Int) <= 237 := by omega
     go_wp2_with fail
     go_roundg (100 - 5)
     case measure => omega
     case rel => exact ⟨bel.trans ((below_alloc wr _).mono bel.size), (heap_alloc_old wr _ hlt).trans HZ.out, 5, by go_num, by omega, rfl, qaz hF (fun h => h3 h.2)⟩
   ·have h2z : ¬ (237 : Int) <= (b : Int) := by omega
    go_wp2_with fail
    go_roundg (100 - 5)
    case measure => omega
    case rel => exact ⟨bel.trans ((below_alloc wr _).mono bel.size), (heap_alloc_old wr _ hlt).trans HZ.out, 5, by go_num, by omega, rfl, qaz hF (fun h => h2 h.1)⟩
  ·have ix := i5.out
   have HZ1 : Hid ((wr.alloc (.cells #[.int .u8 238, .int .u8 239, .int .u8 128, .int .u8 191, .int .u8 224, .int .i64 3] 237)).heap[w.heap.size]? = some (.cells #[.int .u8 0, .int .u8 0, .int .u8 0, .int .u8 0, .int .u8 0, .int .i64 0] 237)) := (heap_alloc_old wr _ hlt).trans HZ.out
   by_cases h2 : 238 <= b
   ·have h2z : (238 : Int) <= (b : Int) := by omega
    by_cases h3 : b <= 239
    ·have h3z : (b : Int) <= 239 := by omega
     go_wp2_with (first
      | (refine wpList_load_row rfl 237 (.tmp 5) rfl wr.heap.size rfl 237 #[.int .u8 238, .int .u8 239, .int .u8 128, .int .u8 191, .int .u8 224, .int .i64 3] (0, 0) _ (heap_alloc_new wr _) Tryz.underlying237 rfl hi6.out ?_)
      | (refine wpList_store_row rfl 237 (.tmp 2) (.tmp 20) rfl w.heap.size #[.int .u8 238, .int .u8 239, .int .u8 128, .int .u8 191, .int .u8 224, .int .i64 3] rfl rfl 237 #[.int .u8 0, .int .u8 0, .int .u8 0, .int .u8 0, .int .u8 0, .int .i64 0] HZ1.out hi6.out rfl (by kernel_rfl) ?_))
     (try simp only [Exit.inBlock, Exit.then])
     refine ⟨rfl, _, qal rfl _ _ w.heap.size 237 #[.int .u8 238, .int .u8 239, .int .u8 128, .int .u8 191, .int .u8 224, .int .i64 3] (0, 0) _ rfl (setRow_heap _ _ _ _ _ _ HZ1.out) Tryz.underlying237 rfl hi6.out, ?_⟩
     exact ⟨qbb (bel.trans ((below_alloc wr _).mono bel.size)) (Nat.le_refl _) _, Or.inl ⟨5, by omega, ⟨h2, h3⟩, rfl⟩⟩
    ·have h3z : ¬ (b : Int) <= 239 := by omega
     go_wp2_with fail
     go_roundg (100 - 6)
     case measure => omega
     case rel => exact ⟨bel.trans ((below_alloc wr _).mono bel.size), (heap_alloc_old wr _ hlt).trans HZ.out, 6, by go_num, by omega, rfl, qaz hF (fun h => h3 h.2)⟩
   ·have h2z : ¬ (238 : Int) <= (b : Int) := by omega
    go_wp2_with fail
    go_roundg (100 - 6)
    case measure => omega
    case rel => exact ⟨bel.trans ((below_alloc wr _).mono bel.size), (heap_alloc_old wr _ hlt).trans HZ.out, 6, by go_num, by omega, rfl, qaz hF (fun h => h2 h.1)⟩
  ·have ix := i6.out
   have HZ1 : Hid ((wr.alloc (.cells #[.int .u8 240, .int .u8 240, .int .u8 144, .int .u8 191, .int .u8 240, .int .i64 4] 237)).heap[w.heap.size]? = some (.cells #[.int .u8 0, .int .u8 0, .int .u8 0, .int .u8 0, .int .u8 0, .int .i64 0] 237)) := (heap_alloc_old wr _ hlt).trans HZ.out
   by_cases h2 : 240 <= b
   ·have h2z : (240 : Int) <= (b : Int) := by omega
    by_cases h3 : b <= 240
    ·have h3z : (b : Int) <= 240 := by omega
     go_wp2_with (first
      | (refine wpList_load_row rfl 237 (.tmp 5) rfl wr.heap.size rfl 237 #[.int .u8 240, .int .u8 240, .int .u8 144, .int .u8 191, .int .u8 240, .int .i64 4] (0, 0) _ (heap_alloc_new wr _) Tryz.underlying237 rfl hi6.out ?_)
      | (refine wpList_store_row rfl 237 (.tmp 2) (.tmp 20) rfl w.heap.size #[.int .u8 240, .int .u8 240, .int .u8 144, .int .u8 191, .int .u8 240, .int .i64 4] rfl rfl 237 #[.int .u8 0, .int .u8 0, .int .u8 0, .int .u8 0, .int .u8 0, .int .i64 0] HZ1.out hi6.out rfl (by kernel_rfl) ?_))
     (try simp only [Exit.inBlock, Exit.then])
     refine ⟨rfl, _, qal rfl _ _ w.heap.size 237 #[.int .u8 240, .int .u8 240, .int .u8 144, .int .u8 191, .int .u8 240, .int .i64 4] (0, 0) _ rfl (setRow_heap _ _ _ _ _ _ HZ1.out) Tryz.underlying237 rfl hi6.out, ?_⟩
     exact ⟨qbb (bel.trans ((below_alloc wr _).mono bel.size)) (Nat.le_refl _) _, Or.inl ⟨6, by omega, ⟨h2, h3⟩, rfl⟩⟩
    ·have h3z : ¬ (b : Int) <= 240 := by omega
     go_wp2_with fail
     go_roundg (100 - 7)
     case measure => omega
     case rel => exact ⟨bel.trans ((below_alloc wr _).mono bel.size), (heap_alloc_old wr _ hlt).trans HZ.out, 7, by go_num, by omega, rfl, qaz hF (fun h => h3 h.2)⟩
   ·have h2z : ¬ (240 : Int) <= (b : Int) := by omega
    go_wp2_with fail
    go_roundg (100 - 7)
    case measure => omega
    case rel => exact ⟨bel.trans ((below_alloc wr _).mono bel.size), (heap_alloc_old wr _ hlt).trans HZ.out, 7, by go_num, by omega, rfl, qaz hF (fun h => h2 h.1)⟩
  ·have ix := i7.out
   have HZ1 : Hid ((wr.alloc (.cells #[.int .u8 241, .int .u8 243, .int .u8 128, .int .u8 191, .int .u8 240, .int .i64 4] 237)).heap[w.heap.size]? = some (.cells #[.int .u8 0, .int .u8 0, .int .u8 0, .int .u8 0, .int .u8 0, .int .i64 0] 237)) := (heap_alloc_old wr _ hlt).trans HZ.out
   by_cases h2 : 241 <= b
   ·have h2z : (241 : Int) <= (b : Int) := by omega
    by_cases h3 : b <= 243
    ·have h3z : (b : Int) <= 243 := by omega
     go_wp2_with (first
      | (refine wpList_load_row rfl 237 (.tmp 5) rfl wr.heap.size rfl 237 #[.int .u8 241, .int .u8 243, .int .u8 128, .int .u8 191, .int .u8 240, .int .i64 4] (0, 0) _ (heap_alloc_new wr _) Tryz.underlying237 rfl hi6.out ?_)
      | (refine wpList_store_row rfl 237 (.tmp 2) (.tmp 20) rfl w.heap.size #[.int .u8 241, .int .u8 243, .int .u8 128, .int .u8 191, .int .u8 240, .int .i64 4] rfl rfl 237 #[.int .u8 0, .int .u8 0, .int .u8 0, .int .u8 0, .int .u8 0, .int .i64 0] HZ1.out hi6.out rfl (by kernel_rfl) ?_))
     (try simp only [Exit.inBlock, Exit.then])
     refine ⟨rfl, _, qal rfl _ _ w.heap.size 237 #[.int .u8 241, .int .u8 243, .int .u8 128, .int .u8 191, .int .u8 240, .int .i64 4] (0, 0) _ rfl (setRow_heap _ _ _ _ _ _ HZ1.out) Tryz.underlying237 rfl hi6.out, ?_⟩
     exact ⟨qbb (bel.trans ((below_alloc wr _).mono bel.size)) (Nat.le_refl _) _, Or.inl ⟨7, by omega, ⟨h2, h3⟩, rfl⟩⟩
    ·have h3z : ¬ (b : Int) <= 243 := by omega
     go_wp2_with fail
     go_roundg (100 - 8)
     case measure => omega
     case rel => exact ⟨bel.trans ((below_alloc wr _).mono bel.size), (heap_alloc_old wr _ hlt).trans HZ.out, 8, by go_num, by omega, rfl, qaz hF (fun h => h3 h.2)⟩
   ·have h2z : ¬ (241 : Int) <= (b : Int) := by omega
    go_wp2_with fail
    go_roundg (100 - 8)
    case measure => omega
    case rel => exact ⟨bel.trans ((below_alloc wr _).mono bel.size), (heap_alloc_old wr _ hlt).trans HZ.out, 8, by go_num, by omega, rfl, qaz hF (fun h => h2 h.1)⟩
  ·have ix := i8.out
   have HZ1 : Hid ((wr.alloc (.cells #[.int .u8 244, .int .u8 244, .int .u8 128, .int .u8 143, .int .u8 240, .int .i64 4] 237)).heap[w.heap.size]? = some (.cells #[.int .u8 0, .int .u8 0, .int .u8 0, .int .u8 0, .int .u8 0, .int .i64 0] 237)) := (heap_alloc_old wr _ hlt).trans HZ.out
   by_cases h2 : 244 <= b
   ·have h2z : (244 : Int) <= (b : Int) := by omega
    by_cases h3 : b <= 244
    ·have h3z : (b : Int) <= 244 := by omega
     go_wp2_with (first
      | (refine wpList_load_row rfl 237 (.tmp 5) rfl wr.heap.size rfl 237 #[.int .u8 244, .int .u8 244, .int .u8 128, .int .u8 143, .int .u8 240, .int .i64 4] (0, 0) _ (heap_alloc_new wr _) Tryz.underlying237 rfl hi6.out ?_)
      | (refine wpList_store_row rfl 237 (.tmp 2) (.tmp 20) rfl w.heap.size #[.int .u8 244, .int .u8 244, .int .u8 128, .int .u8 143, .int .u8 240, .int .i64 4] rfl rfl 237 #[.int .u8 0, .int .u8 0, .int .u8 0, .int .u8 0, .int .u8 0, .int .i64 0] HZ1.out hi6.out rfl (by kernel_rfl) ?_))
     (try simp only [Exit.inBlock, Exit.then])
     refine ⟨rfl, _, qal rfl _ _ w.heap.size 237 #[.int .u8 244, .int .u8 244, .int .u8 128, .int .u8 143, .int .u8 240, .int .i64 4] (0, 0) _ rfl (setRow_heap _ _ _ _ _ _ HZ1.out) Tryz.underlying237 rfl hi6.out, ?_⟩
     exact ⟨qbb (bel.trans ((below_alloc wr _).mono bel.size)) (Nat.le_refl _) _, Or.inl ⟨8, by omega, ⟨h2, h3⟩, rfl⟩⟩
    ·have h3z : ¬ (b : Int) <= 244 := by omega
     go_wp2_with fail
     go_roundg (100 - 9)
     case measure => omega
     case rel => exact ⟨bel.trans ((below_alloc wr _).mono bel.size), (heap_alloc_old wr _ hlt).trans HZ.out, 9, by go_num, by omega, rfl, qaz hF (fun h => h3 h.2)⟩
   ·have h2z : ¬ (244 : Int) <= (b : Int) := by omega
    go_wp2_with fail
    go_roundg (100 - 9)
    case measure => omega
    case rel => exact ⟨bel.trans ((below_alloc wr _).mono bel.size), (heap_alloc_old wr _ hlt).trans HZ.out, 9, by go_num, by omega, rfl, qaz hF (fun h => h2 h.1)⟩
  ·go_wp2_with (first
    | (refine wpList_store_row rfl 237 (.tmp 2) (.tmp 22) rfl w.heap.size #[.int .u8 0, .int .u8 0, .int .u8 0, .int .u8 0, .int .u8 0, .int .i64 0] rfl rfl 237 #[.int .u8 0, .int .u8 0, .int .u8 0, .int .u8 0, .int .u8 0, .int .i64 0] HZ.out hi6.out rfl (by kernel_rfl) ?_))
   (try simp only [Exit.inBlock, Exit.then])
   refine ⟨rfl, _, qal rfl _ _ w.heap.size 237 #[.int .u8 0, .int .u8 0, .int .u8 0, .int .u8 0, .int .u8 0, .int .i64 0] (0, 0) _ rfl (setRow_heap _ _ _ _ _ _ HZ.out) Tryz.underlying237 rfl hi6.out, ?_⟩
   exact ⟨qbb bel (Nat.le_refl _) _, Or.inr ⟨hF.out, rfl⟩⟩
end Ut
namespace Ut
def alw (lo hi n c : Nat) : Bool := if n = 1 then decide (lo <= c /\ c <= hi) else decide (128 <= c /\ c <= 191)
theorem qo6 (f l lo hi mk m n c : Nat) (w : World) (h3 : n <= 4) (h4 : c <= 255) :
 Calls Tryz.prog 150 #[.agg #[.int .u8 f, .int .u8 l, .int .u8 lo, .int .u8 hi, .int .u8 mk, .int .i64 m], .int .i64 n, .int .u8 c] w
  fun e w' => e = .returned (.bool (alw lo hi n c)) /\ Below w.heap.size w w' := by
 by_cases hn : n = 1
 ·subst hn
  by_cases ha : lo <= c
  ·have haz : (lo : Int) <= (c : Int) := by omega
   by_cases hb : c <= hi
   ·have hbz : (c : Int) <= (hi : Int) := by omega
    have hr : alw lo hi 1 c = true := by simp [alw, ha, hb]
    rw [hr]
    go_enter Tryz.func150, Tryz.ntmps150
    go_wp2_with fail
    go_ret
    exact ⟨rfl, below_alloc _ _⟩
   ·have hbz : ¬ (c : Int) <= (hi : Int) := by omega
    have hr : alw lo hi 1 c = false := by simp [alw, ha, hb]
    rw [hr]
    go_enter Tryz.func150, Tryz.ntmps150
    go_wp2_with fail
    go_ret
    exact ⟨rfl, below_alloc _ _⟩
  ·have haz : ¬ (lo : Int) <= (c : Int) := by omega
   have hr : alw lo hi 1 c = false := by simp [alw, ha]
   rw [hr]
   go_enter Tryz.func150, Tryz.ntmps150
   go_wp2_with fail
   go_ret
   exact ⟨rfl, below_alloc _ _⟩
 ·have hnz : ¬ (n : Int) = 1 := by omega
  have hnb : ((n : Int) == 1) = false := by simp; omega
  by_cases ha : 128 <= c
  ·have haz : (128 : Int) <= (c : Int) := by omega
   by_cases hb : c <= 191
   ·have hbz : (c : Int) <= 191 := by omega
    have hr : alw lo hi n c = true := by simp [alw, hn, ha, hb]
    rw [hr]
    go_enter Tryz.func150, Tryz.ntmps150
    go_wp2_with fail
    go_ret
    exact ⟨rfl, below_alloc _ _⟩
   ·have hbz : ¬ (c : Int) <= 191 := by omega
    have hr : alw lo hi n c = false := by simp [alw, hn, ha, hb]
    rw [hr]
    go_enter Tryz.func150, Tryz.ntmps150
    go_wp2_with fail
    go_ret
    exact ⟨rfl, below_alloc _ _⟩
  ·have haz : ¬ (128 : Int) <= (c : Int) := by omega
   have hr : alw lo hi n c = false := by simp [alw, hn, ha]
   rw [hr]
   go_enter Tryz.func150, Tryz.ntmps150
   go_wp2_with fail
   go_ret
   exact ⟨rfl, below_alloc _ _⟩
end Ut
end Go.Proofs.YtmceblkjbpbcoaaGreatDoor
