/- Contracts of layers below. -/
import Derived.Test.YtmceblkjbpbcoaaGreatDoorPWhC
import Derived.Test.YtmceblkjbpbcoaaGreatDoorPBase
namespace Go.Proofs.YtmceblkjbpbcoaaGreatDoor
set_option maxRecDepth 100000
set_option maxHeartbeats 8000000
open Go.ChangeShapes Go.WideShapes Go.ChangeAt Go.RowKit
namespace Wl
open Go.Shelf
open Wh
theorem qmi {p k : Nat} (h : k <= p) : p % k = (p - k) % k := Nat.mod_eq_sub_mod h
theorem qp6 {α : Type} (k : Nat) (X ys : List α) (o N : Nat) (hy : ys.length = k) (h1 : o + k <= N) (h2 : N <= X.length) : (X.take o ++ (ys ++ X.drop (o + k))).take N = (X.take N).take o ++ (ys ++ (X.take N).drop (o + k)) := by
 have e : (X.take o).length = o := by rw [List.length_take]; omega
 rw [List.take_append, List.take_append, e, hy, List.take_take, List.take_take, List.drop_take, Nat.min_eq_right (by omega), Nat.min_eq_left (by omega), List.take_of_length_le (l := ys) (by omega), show N - o - k = N - (o + k) by omega]
def rd {α β : Type} (f : α -> β) (z : β) (l : List α) (k : Nat) : List β := (l.take k).map f ++ List.replicate (l.length - k) z
theorem qqp {α β : Type} (f : α -> β) (z : β) (l : List α) : rd f z l 0 = List.replicate l.length z := rfl
theorem qw7 {α β : Type} (f : α -> β) (z : β) (l : List α) : rd f z l l.length = l.map f := by simp [rd]
theorem qw6 {α β : Type} (f : α -> β) (z : β) (l : List α) {k : Nat} (h : k <= l.length) : (rd f z l k).length = l.length := by
 simp [rd]
 omega
theorem rd_at {α β : Type} (f : α -> β) (z : β) {l : List α} {k : Nat} (h : k < l.length) : (rd f z l k)[k]? = some z := by
 unfold rd
 have e : ((l.take k).map f).length = k := by simp; omega
 rw [List.getElem?_append_right (by omega), e, Nat.sub_self, List.getElem?_replicate, if_pos (by omega)]
theorem qqq {α β : Type} (f : α -> β) (z : β) {l : List α} {k : Nat} {c : α} (h : l[k]? = some c) : rd f z l (k + 1) = (rd f z l k).set k (f c) := by
 have hk := (xah h).1
 unfold rd
 have e : ((l.take k).map f).length = k := by simp; omega
 rw [show l.take (k + 1) = l.take k ++ [c] by rw [List.take_add_one, h]; rfl, List.map_append, List.set_append_right _ _ (by omega), e, Nat.sub_self, show l.length - k = (l.length - (k + 1)) + 1 by omega, List.replicate_succ, xaj]
 simp
def OwC (base : Nat) (w : World) (v : Value) (l : List Cr) : Prop := w.ownsRow base 52 5 v l.length (qcj l)
theorem OwC.rw_ {base : Nat} {w : World} {v : Value} {l : List Cr} (h : OwC base w v l) : RwC w v l := qzg h rfl
theorem OwC.below {base : Nat} {w w' : World} {v : Value} {l : List Cr} (h : OwC base w v l) (b : Below w.heap.size w w') : OwC base w' v l := qcd (S := fun _ => False) h (xap b) fun _ _ => id
theorem OwC.base_ {base base' : Nat} {w : World} {v : Value} {l : List Cr} (h : OwC base w v l) (hb : base' <= base) : OwC base' w v l := qmf h hb
theorem qb6 (x : Cr) (l : List Cr) : qcj (x :: l) = (chA x).toList ++ qcj l := rfl
theorem qbw (x : Cr) : (chA x).toList.length = 5 := rfl
theorem qj7 (y : Cr) : ∀ (l : List Cr) (k : Nat), k < l.length -> qcj (l.set k y) = (qcj l).take (k * 5) ++ ((chA y).toList ++ (qcj l).drop (k * 5 + 5))
 | x :: l, 0, _ => by
   rw [xaj, qb6, qb6, Nat.zero_mul, List.take_zero, List.nil_append, Nat.zero_add, List.drop_append, qbw, Nat.sub_self, List.drop_zero, @List.drop_eq_nil_of_le _ (chA x).toList _ (by rw [qbw]; exact xat), List.nil_append]
 | x :: l, k + 1, h => by
   have ih := qj7 y l k (by simpa using h)
   rw [xak, qb6, qb6, ih, List.take_append, List.drop_append, qbw, List.take_of_length_le (l := (chA x).toList) (by rw [qbw]; omega), @List.drop_eq_nil_of_le _ (chA x).toList _ (by rw [qbw]; omega), List.nil_append,
    show (k + 1) * 5 - 5 = k * 5 by omega, show (k + 1) * 5 + 5 - 5 = k * 5 + 5 by omega, List.append_assoc]
structure OwnAtC (base g cap : Nat) (cur : Array Value) (l : List Cr) (w : World) : Prop where
 hb : base <= g
 hB : Blk w g 52 cur
 hn : l.length <= cap
 hm : cap <= maxLen
 hs : cur.size = cap * 5
 ht : cur.toList.take (l.length * 5) = qcj l
theorem OwC.at_ {base g cap n : Nat} {w : World} {l : List Cr} (h : OwC base w (.slice (some ⟨g, 0, none⟩) n cap) l) : ∃ cur, OwnAtC base g cap cur l w := by
 rcases h.2 with ⟨h, _⟩ | ⟨g', cap', cur, hv, h1, h2, h3, h4, h5, h6⟩
 ·cases h
 ·injection hv with e1 e2 e3
  injection e1 with e1
  injection e1 with e1
  subst e1 e3
  exact ⟨cur, h1, h2, h3, h4, h5, h6⟩
theorem OwnAtC.ow {base g cap : Nat} {cur : Array Value} {l : List Cr} {w : World} (h : OwnAtC base g cap cur l w) : OwC base w (.slice (some ⟨g, 0, none⟩) l.length cap) l :=
 ⟨qgi l, .inr ⟨g, cap, cur, rfl, h.hb, h.hB, h.hn, h.hm, h.hs, h.ht⟩⟩
theorem OwnAtC.has {base g cap : Nat} {cur : Array Value} {l : List Cr} {w : World} (h : OwnAtC base g cap cur l w) {k : Nat} {c : Cr} (hk : l[k]? = some c) : Has cur (k * 5) (chA c).toList :=
 ⟨fun j u hu => by
  obtain ⟨a, cap2, o, hv, hb, ha, hL⟩ := h.ow.rw_.get (xas) hk
  injection hv with e1
  injection e1 with e1
  subst e1
  have e2 : (⟨g, 0, none⟩ : Addr).add (k * 5) = ⟨g, k * 5, none⟩ := by rw [Addr.add_lit, Nat.zero_add]
  rw [e2] at ha
  injection ha with _ ha
  subst ha
  have := hL j u (by simpa using hu)
  rw [Addr.add_lit, h.hB.cell] at this
  exact this⟩
theorem OwnAtC.set_ {base g cap : Nat} {cur : Array Value} {l : List Cr} {w w' : World} (h : OwnAtC base g cap cur l w) {k : Nat} {c y : Cr} (hk : l[k]? = some c) (hB : Blk w' g 52 (spl cur (k * 5) (chA y).toList)) : OwnAtC base g cap (spl cur (k * 5) (chA y).toList) (l.set k y) w' := by
 have hkl := (xah hk).1
 have hle := (h.has hk).le (by simp [chA])
 rw [qbw] at hle
 refine ⟨h.hb, hB, by rw [List.length_set]; exact h.hn, h.hm, by rw [qfi _ _ _ (by rw [qbw]; exact hle)]; exact h.hs, ?_⟩
 rw [List.length_set, qj7 y l k hkl, <- h.ht]
 have h3 : l.length * 5 <= cur.toList.length := by rw [Array.length_toList (xs := cur), h.hs]; exact Nat.mul_le_mul_right 5 h.hn
 exact qp6 5 cur.toList (chA y).toList (k * 5) (l.length * 5) rfl (by omega) h3
theorem infoC : (Tryz.prog.info? 52).map (fun i => (i.zero, i.size, i.bytes)) = some (some (.agg (chA zCr)), 5, 40) := by kernel_rfl
theorem qj8 : ∀ (n p : Nat), p < n * 5 -> (qcj (List.replicate n zCr))[p]? = (chA zCr).toList[p % 5]?
 | 0, p, h => by omega
 | n + 1, p, h => by
   rw [List.replicate_succ, qb6]
   by_cases hp : p < 5
   ·rw [List.getElem?_append_left (by rw [qbw]; exact hp), Nat.mod_eq_of_lt hp]
   ·rw [List.getElem?_append_right (by rw [qbw]; omega), qbw, qj8 n (p - 5) (by omega), <- qmi (by omega)]
theorem fullC (n : Nat) : (madeCells (chA zCr) (n * 5)).toList = qcj (List.replicate n zCr) := by
 apply List.ext_getElem?
 intro p
 by_cases hp : p < n * 5
 ·rw [qj8 n p hp]
  have h2 : (madeCells (chA zCr) (n * 5))[p]? = (chA zCr).toList[p % 5]? := by
   have hlt : p % 5 < (chA zCr).toList.length := by rw [qbw]; exact Nat.mod_lt _ (by omega)
   rw [xac hlt]
   simp [madeCells, chA]
   exact ⟨p, by simp [hp], congrArg (fun o : Option Value => o.getD default) (xac hlt)⟩
  simpa using h2
 ·rw [List.getElem?_eq_none_iff.2 (by rw [Array.length_toList, size_madeCells]; omega), List.getElem?_eq_none_iff.2 (by rw [qgi, List.length_replicate]; omega)]
theorem makeC (n : Nat) (hn : n <= 1048576) (w : World) : (Instr.makeSlice 32 (.int .i64 (n : Int)) (.int .i64 (n : Int))).run Tryz.prog w = .ok (.slice (some ⟨w.heap.size, 0, none⟩) n n) (w.alloc (.cells (madeCells (chA zCr) (n * 5)) 52)) := by
 obtain ⟨i0, hi, hz0, hz1, hz2⟩ := qbl infoC
 have h := run_make (P := Tryz.prog) w 32 52 i0 (.agg (chA zCr)) Tryz.underlying32 hi hz0 .i64 .i64 (n : Int) (n : Int) (by omega) (by omega) (by rw [hz2]; omega) (by omega)
 rw [hz1] at h
 simp only [xax] at h
 exact h
theorem qq4 (n : Nat) (hn : n <= 1048576) (w : World) : OwC w.heap.size (w.alloc (.cells (madeCells (chA zCr) (n * 5)) 52)) (.slice (some ⟨w.heap.size, 0, none⟩) n n) (List.replicate n zCr) := by
 unfold OwC
 rw [List.length_replicate]
 refine ⟨by rw [qgi, List.length_replicate], .inr ⟨w.heap.size, n, _, rfl, xat, heap_alloc_new w _, xat, by unfold maxLen; omega, by simp [size_madeCells], ?_⟩⟩
 rw [<- fullC]
 exact List.take_of_length_le (by simp [size_madeCells])
theorem infoW : (Tryz.prog.info? 116).map (fun i => (i.zero, i.size, i.bytes)) = some (some (.agg (cwA zCw)), 6, 48) := qxo
theorem qj5 : ∀ (n p : Nat), p < n * 6 -> (qcx (List.replicate n zCw))[p]? = (cwA zCw).toList[p % 6]?
 | 0, p, h => by omega
 | n + 1, p, h => by
   rw [List.replicate_succ, qb5]
   by_cases hp : p < 6
   ·rw [List.getElem?_append_left (by rw [qbv]; exact hp), Nat.mod_eq_of_lt hp]
   ·rw [List.getElem?_append_right (by rw [qbv]; omega), qbv, qj5 n (p - 6) (by omega), <- qmi (by omega)]
theorem fullW (n : Nat) : (madeCells (cwA zCw) (n * 6)).toList = qcx (List.replicate n zCw) := by
 apply List.ext_getElem?
 intro p
 by_cases hp : p < n * 6
 ·rw [qj5 n p hp]
  have h2 : (madeCells (cwA zCw) (n * 6))[p]? = (cwA zCw).toList[p % 6]? := by
   have hlt : p % 6 < (cwA zCw).toList.length := by rw [qbv]; exact Nat.mod_lt _ (by omega)
   rw [xac hlt]
   simp [madeCells, cwA]
   exact ⟨p, by simp [hp], congrArg (fun o : Option Value => o.getD default) (xac hlt)⟩
  simpa using h2
 ·rw [List.getElem?_eq_none_iff.2 (by rw [Array.length_toList, size_madeCells]; omega), List.getElem?_eq_none_iff.2 (by rw [qgh, List.length_replicate]; omega)]
theorem makeW (n : Nat) (hn : n <= 1048576) (w : World) : (Instr.makeSlice 104 (.int .i64 (n : Int)) (.int .i64 (n : Int))).run Tryz.prog w = .ok (.slice (some ⟨w.heap.size, 0, none⟩) n n) (w.alloc (.cells (madeCells (cwA zCw) (n * 6)) 116)) := by
 obtain ⟨i0, hi, hz0, hz1, hz2⟩ := qbl infoW
 have h := run_make (P := Tryz.prog) w 104 116 i0 (.agg (cwA zCw)) Tryz.underlying104 hi hz0 .i64 .i64 (n : Int) (n : Int) (by omega) (by omega) (by rw [hz2]; omega) (by omega)
 rw [hz1] at h
 simp only [xax] at h
 exact h
theorem qq3 (n : Nat) (hn : n <= 1048576) (w : World) : OwW w.heap.size (w.alloc (.cells (madeCells (cwA zCw) (n * 6)) 116)) (.slice (some ⟨w.heap.size, 0, none⟩) n n) (List.replicate n zCw) := by
 unfold OwW
 rw [List.length_replicate]
 refine ⟨by rw [qgh, List.length_replicate], .inr ⟨w.heap.size, n, _, rfl, xat, heap_alloc_new w _, xat, by unfold maxLen; omega, by simp [size_madeCells], ?_⟩⟩
 rw [<- fullW]
 exact List.take_of_length_le (by simp [size_madeCells])
def qhc : Array Value := #[.nilFunc, .func (.func 64) #[] #[], .nilFunc, .func (.func 66) #[] #[], .func (.func 67) #[] #[], .nilFunc, .nilFunc, .func (.func 69) #[] #[], .nilFunc, .nilFunc, .func (.func 71) #[] #[], .nilFunc, .nilFunc, .func (.func 73) #[] #[], .func (.func 74) #[] #[], .nilFunc, .nilFunc, .func (.func 75) #[] #[], .nilFunc, .nilFunc, .func (.func 76) #[] #[], .nilFunc, .func (.func 77) #[] #[], .nilFunc, .nilFunc, .nilFunc, .func (.func 79) #[] #[]]
def qwt : Array Value := #[.nilFunc, .nilFunc, .nilFunc, .nilFunc, .nilFunc, .nilFunc, .nilFunc, .nilFunc, .nilFunc, .nilFunc, .nilFunc, .nilFunc, .nilFunc, .nilFunc, .nilFunc, .nilFunc, .nilFunc, .nilFunc, .nilFunc, .nilFunc, .nilFunc, .nilFunc, .nilFunc, .nilFunc, .nilFunc, .nilFunc, .nilFunc]
def qwu : Array Value := #[.nilFunc, .nilFunc, .nilFunc]
def row0 : Array Value := #[.nilFunc, .func (.func 64) #[] #[], .nilFunc]
def row1 : Array Value := #[.func (.func 66) #[] #[], .func (.func 67) #[] #[], .nilFunc]
def row2 : Array Value := #[.nilFunc, .func (.func 69) #[] #[], .nilFunc]
def row3 : Array Value := #[.nilFunc, .func (.func 71) #[] #[], .nilFunc]
def row4 : Array Value := #[.nilFunc, .func (.func 73) #[] #[], .func (.func 74) #[] #[]]
def row5 : Array Value := #[.nilFunc, .nilFunc, .func (.func 75) #[] #[]]
def row6 : Array Value := #[.nilFunc, .nilFunc, .func (.func 76) #[] #[]]
def row7 : Array Value := #[.nilFunc, .func (.func 77) #[] #[], .nilFunc]
def row8 : Array Value := #[.nilFunc, .nilFunc, .func (.func 79) #[] #[]]
def qnm (k : Nat) : Array Value := if k = 0 then row0 else if k = 1 then row1 else if k = 2 then row2 else if k = 3 then row3 else if k = 4 then row4 else if k = 5 then row5 else if k = 6 then row6 else if k = 7 then row7 else row8
theorem iSs : (Tryz.prog.info? 112).map (·.size) = some 27 := by kernel_rfl
theorem iS3 : (Tryz.prog.info? 111).map (·.size) = some 3 := by kernel_rfl
theorem alSs (w : World) : (Instr.alloc 112 true (.tuple #[])).run Tryz.prog w = .ok (.pointer (some ⟨w.heap.size, 0, none⟩)) (w.alloc (.cells qwt 112)) := by kernel_rfl
theorem alS3 (w : World) : (Instr.alloc 111 true (.tuple #[])).run Tryz.prog w = .ok (.pointer (some ⟨w.heap.size, 0, none⟩)) (w.alloc (.cells qwu 111)) := by kernel_rfl
theorem uS3 : Tryz.prog.underlying 111 = some (.struct (Tryz.prog.fieldsOf 111)) := by kernel_rfl
theorem qdf {P : Nat -> Prop} (h0 : P 0) (h1 : P 1) (h2 : P 2) (h3 : P 3) (h4 : P 4) (h5 : P 5) (h6 : P 6) (h7 : P 7) (h8 : P 8) (k : Nat) (hk : k < 9) : P k := by
 rcases (show k = 0 \/ k = 1 \/ k = 2 \/ k = 3 \/ k = 4 \/ k = 5 \/ k = 6 \/ k = 7 \/ k = 8 from by omega) with rfl | rfl | rfl | rfl | rfl | rfl | rfl | rfl | rfl <;> assumption
theorem ixS (k : Nat) (hk : k < 9) (w : World) : (Instr.index 112 (.agg qhc) (.int .i64 (k : Int))).run Tryz.prog w = .ok (.agg (qnm k)) w :=
 qdf (P := fun k => (Instr.index 112 (.agg qhc) (.int .i64 (k : Int))).run Tryz.prog w = .ok (.agg (qnm k)) w) (by kernel_rfl) (by kernel_rfl) (by kernel_rfl) (by kernel_rfl) (by kernel_rfl) (by kernel_rfl) (by kernel_rfl) (by kernel_rfl) (by kernel_rfl) k hk
theorem szS (k : Nat) (hk : k < 9) : (qnm k).size = 3 := qdf (P := fun k => (qnm k).size = 3) rfl rfl rfl rfl rfl rfl rfl rfl rfl k hk
theorem oneS (k : Nat) (hk : k < 9) : (qnm k).all (·.oneCell') = true := qdf (P := fun k => (qnm k).all (·.oneCell') = true) (by kernel_rfl) (by kernel_rfl) (by kernel_rfl) (by kernel_rfl) (by kernel_rfl) (by kernel_rfl) (by kernel_rfl) (by kernel_rfl) (by kernel_rfl) k hk
theorem qm9 (w : World) :
 Calls Tryz.prog 38 #[] w fun e w' => e = .returned (.agg qhc) /\ Below w.heap.size w w' := by
 go_enter Tryz.func38, Tryz.ntmps38
 go_wp2_with (first
  | (refine qao rfl 112 rfl _ alSs ?_; intro w1 b1 B1)
  | (refine qah rfl 112 (.tmp 0) (.tmp 10) rfl rfl _ rfl qhc rfl 112 qwt B1 iSs rfl (by kernel_rfl) ?_; intro w2 m2 B2))
 refine bodyPost_ret (v := .agg qhc) (qbf rfl _ _ w.heap.size 112 qhc _ rfl B2 Tryz.underlying112 rfl iSs) rfl ⟨rfl, b1.trans (m2.below b1.size (fun k hk => by omega))⟩
def sF (D : Int -> Bool) (k : Nat) (l : List Cw) : List Cw :=
 if k = 0 then filt none1 g1 nb l else if k = 1 then filt whtW g2 nb l else if k = 2 then filt none1 g3 nb l else if k = 3 then filt none1 g4 nb l else if k = 4 then (filt none1 (g5 D) nb l).map t5
 else if k = 5 then l.map t6 else if k = 6 then l.map t7 else if k = 7 then filt none1 g8 nb l else l.map t9
def runF (D : Int -> Bool) (l : List Cw) : Nat -> List Cw
 | 0 => l
 | k + 1 => sF D k (runF D l k)
theorem qdi (past : Cw -> Bool) (gone : Cw -> Cw -> Cw -> Bool) (l : List Cw) : (filt past gone nb l).length <= l.length := by
 have := qmb (gnI past gone l) l l.length
 rwa [qjl] at this
theorem sF_len (D : Int -> Bool) (k : Nat) (l : List Cw) : (sF D k l).length <= l.length := by
 unfold sF
 split
 ·exact qdi _ _ _
 ·split
  ·exact qdi _ _ _
  ·split
   ·exact qdi _ _ _
   ·split
    ·exact qdi _ _ _
    ·split
     ·rw [xao]; exact qdi _ _ _
     ·split
      ·rw [xao]; exact xat
      ·split
       ·rw [xao]; exact xat
       ·split
        ·exact qdi _ _ _
        ·rw [xao]; exact xat
theorem qic (D : Int -> Bool) (l : List Cw) : ∀ k, (runF D l k).length <= l.length
 | 0 => xat
 | k + 1 => xau (sF_len D k _) (qic D l k)
theorem qqd {W : Int -> Int} {D : Int -> Bool} (hD : D 10 = false /\ D 13 = false) (l : List Cr) : runF D (l.map (emb W)) 9 = (qb0 W D l).map (emb W) := nine hD l
theorem qye (k : Nat) (hk : k < 9) (base : Nat) (l : List Cw) (v : Value) (w : World) (hO : OwW base w v l) (hbase : base <= w.heap.size) (hlen : l.length <= 1048576) (hTab : ∀ W, Below base w W -> Tab W) :
 Calls Tryz.prog 39 #[.agg (qnm k), v] w fun e w' => ∃ u, e = .returned u /\ OwW base w' u (sF wideB k l) /\ Below base w w' :=
 qdf (P := fun k => Calls Tryz.prog 39 #[.agg (qnm k), v] w fun e w' => ∃ u, e = .returned u /\ OwW base w' u (sF wideB k l) /\ Below base w w')
  (qdz 64 g1 base l v w hO hbase hlen (enters_of Tryz.func64 (by kernel_rfl) rfl) fun b c a W _ => g1_any b c a W)
  (qpu 67 g2 base l v w hO hbase hlen (enters_of Tryz.func67 (by kernel_rfl) rfl) fun b c a W _ => g2_any b c a W)
  (qdz 69 g3 base l v w hO hbase hlen (enters_of Tryz.func69 (by kernel_rfl) rfl) fun b c a W _ => g3_any b c a W)
  (qdz 71 g4 base l v w hO hbase hlen (enters_of Tryz.func71 (by kernel_rfl) rfl) fun b c a W _ => g4_any b c a W)
  (qpv 73 (g5 wideB) 74 t5 base l v w hO hbase hlen (enters_of Tryz.func73 (by kernel_rfl) rfl) (fun b c a W hW => g5_any b c a W (hTab W hW)) (enters_of Tryz.func74 (by kernel_rfl) rfl) fun x g o cur W h1 h2 => qyc x g o cur W h1 h2)
  (qfx 75 t6 base l v w hO hbase hlen (enters_of Tryz.func75 (by kernel_rfl) rfl) fun x g o cur W h1 h2 => qyb x g o cur W h1 h2)
  (qfx 76 t7 base l v w hO hbase hlen (enters_of Tryz.func76 (by kernel_rfl) rfl) fun x g o cur W h1 h2 => qya x g o cur W h1 h2)
  (qdz 77 g8 base l v w hO hbase hlen (enters_of Tryz.func77 (by kernel_rfl) rfl) fun b c a W _ => g8_any b c a W)
  (qfx 79 t9 base l v w hO hbase hlen (enters_of Tryz.func79 (by kernel_rfl) rfl) fun x g o cur W h1 h2 => qx9 x g o cur W h1 h2)
  k hk
end Wl
namespace Wl
open Go.Shelf
open Wh
def whF (ss : List Sty) (x : Int) : Int := (ss.getD x.toNat .zero).a0
def okC (ss : List Sty) (c : Cr) : Bool := (decide (c.kind = 0) || decide (c.kind = 6) || decide (c.kind = 5)) && (!decide (c.node < 0) && (!decide ((ss.length : Int) <= c.node) && !decide (5 < whF ss c.node)))
def mayB (ss : List Sty) (l : List Cr) : Bool := l.all (okC ss)
theorem qf8 {ss : List Sty} {c : Cr} : okC ss c = true ↔ (decide (c.kind = 0) || decide (c.kind = 6) || decide (c.kind = 5)) = true /\ ∃ (j : Nat) (s : Sty), c.node = j /\ ss[j]? = some s /\ whF ss c.node = s.a0 /\ s.a0 <= 5 := by
 unfold okC
 constructor
 ·intro h
  simp only [Bool.and_eq_true, Bool.not_eq_true', decide_eq_false_iff_not] at h
  obtain ⟨h1, h2, h3, h4⟩ := h
  obtain ⟨j, hj⟩ : ∃ j : Nat, c.node = j := ⟨c.node.toNat, by omega⟩
  have hjl : j < ss.length := by omega
  have hs : ss[j]? = some (ss[j]'hjl) := xac _
  refine ⟨h1, j, _, hj, hs, ?_, ?_⟩
  ·unfold whF
   rw [hj, xax, xal, hs]
   rfl
  ·have : whF ss c.node = (ss[j]'hjl).a0 := by
    unfold whF
    rw [hj, xax, xal, hs]
    rfl
   omega
 ·rintro ⟨h1, j, s, hj, hs, hw, h5⟩
  have hjl := (xah hs).1
  have e1 : decide (c.node < 0) = false := decide_eq_false (by omega)
  have e2 : decide ((ss.length : Int) <= c.node) = false := decide_eq_false (by omega)
  have e3 : decide (5 < whF ss c.node) = false := decide_eq_false (by omega)
  rw [h1, e1, e2, e3]
  rfl
theorem qps {ss : List Sty} {j : Nat} {s : Sty} (h : ss[j]? = some s) : whF ss (j : Int) = s.a0 := by
 unfold whF
 rw [xax, xal, h]
 rfl
theorem qu4 {ss : List Sty} {l : List Cr} {k : Nat} {c : Cr} (hc : l[k]? = some c) (ho : okC ss c = false) : mayB ss l = false := by
 cases h : mayB ss l with
 | false => rfl
 | true =>
   have := xam h c (xav hc)
   rw [ho] at this
   cases this
def ReadPost (w : World) (ss : List Sty) (l : List Cr) (e : Ending) (w' : World) : Prop :=
 (mayB ss l = true /\ ∃ u, e = .returned (.tuple #[u, .int .i64 0]) /\ OwW w.heap.size w' u (l.map (emb (whF ss))) /\ Below w.heap.size w w') ∨
 (mayB ss l = false /\ e = .returned (.tuple #[.slice none 0 0, .int .i64 2]) /\ Below w.heap.size w w')
theorem qpn (l : List Cr) (v : Value) (ss : List Sty) (sv : Value) (w : World) (hR : RwC w v l) (hS : Ss w sv ss) (hlen : l.length <= 1048576) :
 Calls Tryz.prog 37 #[v, sv] w (ReadPost w ss l) := by
 have HR := xaa hR
 have HS := xaa hS
 obtain ⟨A, cap, rfl⟩ := hR.form
 obtain ⟨B, cap2, rfl⟩ := hS.form
 obtain ⟨m, hm⟩ : ∃ m, l.length = m := ⟨_, rfl⟩
 have HM := xaa hm
 obtain ⟨sn, hsn⟩ : ∃ m, ss.length = m := ⟨_, rfl⟩
 have HSN := xaa hsn
 have hmk := makeW m (by omega)
 rw [hm] at hlen HR |-
 rw [hsn] at HS |-
 obtain ⟨em, hem⟩ : ∃ f, emb (whF ss) = f := ⟨_, rfl⟩
 have HEM := xaa hem
 have FIN : Hid (∀ e w', (mayB ss l = true /\ ∃ u, e = .returned (.tuple #[u, .int .i64 0]) /\ OwW w.heap.size w' u (l.map em) /\ Below w.heap.size w w') \/ (mayB ss l = false /\ e = .returned (.tuple #[.slice none 0 0, .int .i64 2]) /\ Below w.heap.size w w') -> ReadPost w ss l e w') := xaa fun e w' h => by
  unfold ReadPost
  rw [hem]
  exact h
 clear hR hS hm hsn hem
 obtain ⟨Q, hQ⟩ : ∃ Q, ReadPost w ss l = Q := ⟨_, rfl⟩
 rw [hQ] at FIN |-
 clear hQ
 go_enter Tryz.func37, Tryz.ntmps37
 go_wp2_with fail
 have O0 := qq3 m hlen w
 have b0 := xar w (.cells (madeCells (cwA zCw) (m * 6)) 116)
 obtain ⟨w0, hw0⟩ : ∃ w0, w.alloc (.cells (madeCells (cwA zCw) (m * 6)) 116) = w0 := ⟨_, rfl⟩
 rw [hw0] at O0 b0 |-
 clear hw0 hmk
 have O0 : OwW w.heap.size w0 (.slice (some ⟨w.heap.size, 0, none⟩) m m) (rd em zCw l 0) := by rw [qqp, HM.out]; exact O0
 go_loopg [14] m (fun kx s14 wr => ∃ k : Nat, s14 = .int .i64 k /\ k <= m /\ kx = m - k /\ OwW w.heap.size wr (.slice (some ⟨w.heap.size, 0, none⟩) m m) (rd em zCw l k) /\ Below w.heap.size w wr /\ Hid (∀ i c, i < k -> l[i]? = some c -> okC ss c = true))
 case atStart => exact ⟨0, rfl, by omega, by omega, O0, b0, xaa fun i c h => by omega⟩
 case round =>
  clear O0 b0
  obtain ⟨k, rfl, hk, rfl, O, b, HOK⟩ := hrel
  by_cases hkm : k < m
  ·obtain ⟨c, hc⟩ : ∃ c, l[k]? = some c := ⟨_, xac (by rw [HM.out]; exact hkm)⟩
   obtain ⟨a2, cap3, o, hv, hab, ha, hLi⟩ := HR.out.get b hc
   rw [HM.out] at hv
   injection hv with hv1 hv2 hv3
   subst hv1 hv3
   have HO := xaa O
   have HB := xaa b
   have HC := xaa hc
   have hbs := b.size
   have hkz : (k : Int) < m := by omega
   clear hv2 O b hc
   go_wp2_with (first
    | (refine ldC rfl (.tmp 17) rfl _ rfl c (ha ▸ hLi) ?_)
    | (refine alCV rfl rfl ?_; intro w1 b1 B1)
    | (refine stC rfl (.tmp 8) (.tmp 18) rfl rfl _ rfl c rfl zCr B1 ?_; intro w2 m2 B2; refine Mk.out ?_))
   constructor
   have b2 : Below wr.heap.size wr w2 := b1.trans (m2.below b1.size fun k hk => by omega)
   have hb2 := HB.out.trans (b2.mono hbs)
   have O2 := HO.out.below b2
   have H2 := xaa hb2
   have HO2 := xaa O2
   have q4 : w2.cell? ⟨wr.heap.size, 4, none⟩ = some (.int .u8 c.kind) := B2.cell 4
   have q1 : w2.cell? ⟨wr.heap.size, 1, none⟩ = some (.int .i64 c.node) := B2.cell 1
   obtain ⟨kd, hkd⟩ : ∃ x, c.kind = x := ⟨_, rfl⟩
   obtain ⟨nd, hnd⟩ : ∃ x, c.node = x := ⟨_, rfl⟩
   rw [hkd] at q4
   rw [hnd] at q1
   have HB2 := xaa B2
   obtain ⟨vb, hvb⟩ : ∃ x, (decide (kd = 0) || decide (kd = 6) || decide (kd = 5)) = x := ⟨_, rfl⟩
   have CV : Hid (∀ w, Calls Tryz.prog 63 #[.int .u8 kd] w fun e w' => e = .returned (.bool vb) /\ w = w') := xaa fun w => by have := qpy kd w; rw [hvb] at this; exact this
   have NO : Hid (vb = false \/ nd < 0 \/ (sn : Int) <= nd \/ (∃ (j : Nat) (s : Sty), nd = j /\ ss[j]? = some s /\ 5 < s.a0) -> mayB ss l = false) := xaa fun h => by
    refine qu4 HC.out ?_
    cases hok : okC ss c with
    | false => rfl
    | true =>
      obtain ⟨h1, j, s, h2, h3, h4, h5⟩ := qf8.1 hok
      rw [hkd, hvb] at h1
      rw [hnd] at h2
      have hjl := (xah h3).1
      rw [HSN.out] at hjl
      rcases h with h | h | h | ⟨j2, s2, h6, h7, h8⟩
      ·rw [h1] at h; cases h
      ·omega
      ·omega
      ·obtain rfl : j = j2 := by omega
       rw [h3] at h7
       cases h7
       omega
   have YES : Hid (∀ (j : Nat) (s : Sty), vb = true -> nd = j -> ss[j]? = some s -> s.a0 <= 5 -> okC ss c = true /\ em c = ⟨c, s.a0⟩) := xaa fun j s h1 h2 h3 h5 => by
    refine ⟨qf8.2 ⟨by rw [hkd, hvb]; exact h1, j, s, by rw [hnd]; exact h2, h3, ?_, h5⟩, ?_⟩
    ·rw [hnd, h2]; exact qps h3
    ·rw [<- HEM.out]
     unfold emb
     rw [hnd, h2, qps h3]
   clear b1 B1 m2 B2 b2 hb2 O2 hvb hkd hnd
   go_wp2_with fail
   refine (CV.out w2).mono ?_
   rintro e w3 ⟨rfl, rfl⟩
   cases vb
   ·go_wp2_with fail
    exact FIN.out (.returned (.tuple #[.slice none 0 0, .int .i64 2])) _ (.inr ⟨NO.out (.inl (by trivial)), rfl, H2.out⟩)
   ·by_cases h0 : nd < 0
    ·go_wp2_with fail
     exact FIN.out (.returned (.tuple #[.slice none 0 0, .int .i64 2])) _ (.inr ⟨NO.out (.inr (.inl h0)), rfl, H2.out⟩)
    ·obtain ⟨j, rfl⟩ : ∃ j : Nat, nd = j := ⟨nd.toNat, by omega⟩
     have h0' : 0 <= (j : Int) := by omega
     clear h0
     by_cases hj : j < sn
     ·have hjz : (j : Int) < sn := by omega
      obtain ⟨s, hs⟩ : ∃ s, ss[j]? = some s := ⟨_, xac (by rw [HSN.out]; exact hj)⟩
      obtain ⟨a3, cap4, o3, hv, hab3, ha3, hLi3⟩ := HS.out.get H2.out hs
      rw [HSN.out] at hv
      injection hv with hv1 hv2 hv3
      subst hv1 hv3
      have q5 : w2.cell? ⟨a3.block, o3, none⟩ = some (.int .u8 s.a0) := by
       have := hLi3 0 (.int .u8 s.a0) rfl
       rwa [Addr.add_lit] at this
      have HSS := xaa hs
      clear hv2 hs
      by_cases h5 : 5 < s.a0
      ·have YN := NO.out (.inr (.inr (.inr ⟨j, s, rfl, HSS.out, h5⟩)))
       have HYN := xaa YN
       obtain ⟨z, hz⟩ : ∃ z, s.a0 = z := ⟨_, rfl⟩
       rw [hz] at q5 h5
       clear YN hz hLi3
       go_wp2_with fail
       exact FIN.out (.returned (.tuple #[.slice none 0 0, .int .i64 2])) _ (.inr ⟨HYN.out, rfl, H2.out⟩)
      ·obtain ⟨Y1, Y2⟩ := YES.out j s rfl rfl HSS.out (by omega)
       have HY1 := xaa Y1
       have HY2 := xaa Y2
       obtain ⟨z, hz⟩ : ∃ z, s.a0 = z := ⟨_, rfl⟩
       rw [hz] at q5 h5 HY2
       have hdz : decide (5 < z) = false := decide_eq_false h5
       have CC : Hid (∀ W, Below w2.heap.size w2 W -> W.cell? ⟨wr.heap.size, 1, none⟩ = some (.int .i64 (j : Int)) /\ W.cell? ⟨a3.block, o3, none⟩ = some (.int .u8 z) /\ qar W ⟨wr.heap.size, 0, none⟩ (chA c)) := xaa fun W h => by
        have hB := HB2.out.kb h
        exact ⟨(h.cell (p := ⟨wr.heap.size, 1, none⟩) HB2.out.lt).trans q1, (h.cell (p := ⟨a3.block, o3, none⟩) (World.block_lt_of_cell? _ _ q5)).trans q5, hB.lies⟩
       have hao : (⟨w.heap.size, 0, none⟩ : Addr).add (k * 6) = ⟨w.heap.size, k * 6, none⟩ := by rw [Addr.add_lit, Nat.zero_add]
       clear Y1 Y2 hz hLi3 NO YES
       go_wp2_with fail
       refine qdn (by kernel_rfl) (fun W => Below w2.heap.size w2 W) (below_drewN (xas) 1) 11 (by rfl) (by kernel_rfl) (by kernel_rfl) (fun R hR => ?_)
       refine AllS.f_ (i := 0) CC.out ?_
       refine AllS.f_ (i := 1) CC.out ?_
       refine AllS.r_ (i := 2) (.agg (chA c)) (fun W hSw => ?_) ?_
       ·(try dsimp only at hSw)
        obtain ⟨q1', q5', q0'⟩ := CC.out W hSw
        exact rdC (.tmp 8) rfl _ rfl c q0'
       refine AllS.f_ (i := 3) CC.out ?_
       refine AllS.f_ (i := 4) CC.out ?_
       refine AllS.f_ (i := 5) CC.out ?_
       refine AllS.f_ (i := 6) CC.out ?_
       refine AllS.f_ (i := 7) CC.out ?_
       refine AllS.f_ (i := 8) CC.out ?_
       refine AllS.r_ (i := 9) (.agg (cwA ⟨c, z⟩)) (fun W hSw => ?_) ?_
       ·(try dsimp only at hSw)
        kernel_rfl
       refine AllS.f_ (i := 10) CC.out ?_
       refine AllS.done (by kernel_rfl) (hR.out _ ?_) _
       clear hR R
       intro w5 b5
       obtain ⟨cur, OA⟩ := HO2.out.at_
       have OA5 := (HO2.out.below b5).at_
       obtain ⟨cur5, OA5⟩ := OA5
       have hrd : (rd em zCw l k)[k]? = some zCw := rd_at em zCw (by rw [HM.out]; exact hkm)
       have hhas := (OA5.has hrd).le (by simp [cwA])
       refine qbh (by rw [xab]; rfl) rfl ?_
       refine qfr 116 (.tmp 54) (.tmp 53) rfl rfl w.heap.size (k * 6) rfl (cwA ⟨c, z⟩) rfl 116 cur5 OA5.hB (iW _) hhas (oneW _) ?_
       intro w6 m6 B6
       have O6 : OwW w.heap.size w6 (.slice (some ⟨w.heap.size, 0, none⟩) m m) (rd em zCw l (k + 1)) := by
        rw [qqq em zCw HC.out, HY2.out]
        have := (OA5.set_ hrd B6).ow
        rwa [List.length_set, qw6 em zCw l (by rw [HM.out]; omega), HM.out] at this
       have b6 : Below w.heap.size w w6 := H2.out.trans ((b5.mono H2.out.size).trans (m6.below (xau H2.out.size b5.size) fun j hj => by omega))
       have HOK2 : Hid (∀ i c, i < k + 1 -> l[i]? = some c -> okC ss c = true) := xaa fun i c2 hi h => by
        by_cases e : i = k
        ·subst e
         rw [HC.out] at h
         cases h
         exact HY1.out
        ·exact HOK.out i c2 (by omega) h
       clear OA OA5 hrd hhas m6 B6 b5 CC q1 q4 q5 hao
       go_wp2_with fail
       go_roundg (m - (k + 1))
       case measure => omega
       case rel => exact ⟨k + 1, by go_num, by omega, by omega, O6, b6, HOK2⟩
     ·have hjz : (sn : Int) <= (j : Int) := by omega
      have HYN := xaa (NO.out (.inr (.inr (.inl hjz))))
      clear NO YES hj
      go_wp2_with fail
      exact FIN.out (.returned (.tuple #[.slice none 0 0, .int .i64 2])) _ (.inr ⟨HYN.out, rfl, H2.out⟩)
  ·obtain rfl : k = m := by omega
   have HMAY : Hid (mayB ss l = true) := xaa (List.all_eq_true.2 fun c hc => by
    obtain ⟨i, hi⟩ := List.mem_iff_getElem?.1 hc
    exact HOK.out i c (by have := (xah hi).1; rw [HM.out] at this; exact this) hi)
   have hra := qw7 em zCw l
   rw [HM.out] at hra
   rw [hra] at O
   have HO := xaa O
   clear O hra
   go_wp2_with fail
   exact FIN.out (.returned (.tuple #[.slice (some ⟨w.heap.size, 0, none⟩) k k, .int .i64 0])) _ (.inl ⟨HMAY.out, _, rfl, HO.out, b⟩)
def ColPost (w : World) (ss : List Sty) (l : List Cr) (e : Ending) (w' : World) : Prop :=
 (mayB ss l = true /\ ∃ u, e = .returned (.tuple #[u, .int .i64 0]) /\ OwC w.heap.size w' u (qb0 (whF ss) wideB l) /\ Below w.heap.size w w') ∨
 (mayB ss l = false /\ e = .returned (.tuple #[.slice none 0 0, .int .i64 2]) /\ Below w.heap.size w w')
theorem qnc : wideB 10 = false /\ wideB 13 = false := by decide +kernel
theorem qvt (W : Int -> Int) (l : List Cr) : (l.map (emb W)).map Cw.c = l := by
 rw [List.map_map]
 exact List.map_id l
theorem qh0 (l : List Cr) (v : Value) (ss : List Sty) (sv : Value) (w : World) (hR : RwC w v l) (hS : Ss w sv ss) (hlen : l.length <= 1048576) (hTab : Tab w) :
 Calls Tryz.prog 22 #[v, sv] w (ColPost w ss l) := by
 have CR := xaa (qpn l v ss sv w hR hS hlen)
 have HTAB : Hid (∀ W, Below w.heap.size w W -> Tab W) := xaa fun W h => hTab.below h
 obtain ⟨L0, hL0⟩ : ∃ L, l.map (emb (whF ss)) = L := ⟨_, rfl⟩
 have hL0l : L0.length <= 1048576 := by rw [<- hL0, xao]; exact hlen
 have HNINE : Hid (runF wideB L0 9 = (qb0 (whF ss) wideB l).map (emb (whF ss))) := xaa (by rw [<- hL0]; exact qqd qnc l)
 have CR : Hid (Calls Tryz.prog 37 #[v, sv] w fun e w' => (mayB ss l = true /\ ∃ u, e = .returned (.tuple #[u, .int .i64 0]) /\ OwW w.heap.size w' u L0 /\ Below w.heap.size w w') \/ (mayB ss l = false /\ e = .returned (.tuple #[.slice none 0 0, .int .i64 2]) /\ Below w.heap.size w w')) := xaa (CR.out.mono fun e w' h => by
  unfold ReadPost at h
  rw [hL0] at h
  exact h)
 have FIN : Hid (∀ e w', (mayB ss l = true /\ ∃ u, e = .returned (.tuple #[u, .int .i64 0]) /\ OwC w.heap.size w' u ((runF wideB L0 9).map Cw.c) /\ Below w.heap.size w w') \/ (mayB ss l = false /\ e = .returned (.tuple #[.slice none 0 0, .int .i64 2]) /\ Below w.heap.size w w') -> ColPost w ss l e w') := xaa fun e w' h => by
  unfold ColPost
  rw [HNINE.out, qvt] at h
  exact h
 obtain ⟨Q, hQ⟩ : ∃ Q, ColPost w ss l = Q := ⟨_, rfl⟩
 rw [hQ] at FIN |-
 obtain ⟨A, cap, rfl⟩ := hR.form
 obtain ⟨B, cap2, rfl⟩ := hS.form
 obtain ⟨m, hm⟩ : ∃ m, l.length = m := ⟨_, rfl⟩
 obtain ⟨sn, hsn⟩ : ∃ m, ss.length = m := ⟨_, rfl⟩
 rw [hm, hsn] at CR |-
 clear hQ hL0 hR hS hlen hTab HNINE hm hsn
 go_enter Tryz.func22, Tryz.ntmps22
 go_wp2_with fail
 refine CR.out.mono ?_
 rintro e w1 (⟨hmay, u, rfl, O, b1⟩ | ⟨hmay, rfl, b1⟩)
 ·have HMAY := xaa hmay
  have HO := xaa O
  clear O hmay CR
  go_wp2_with fail
  refine (qm9 w1).mono ?_
  rintro e w2 ⟨rfl, b2⟩
  have b02 := xaq b1 b2
  have O2 := HO.out.below b2
  clear b1 b2 HO
  go_wp2_with fail
  go_loopg [6, 23] 9 (fun kx s6 s23 wr => ∃ (k : Nat) (u : Value), u = s6 /\ s23 = .int .i64 k /\ k <= 9 /\ kx = 9 - k /\ OwW w.heap.size wr u (runF wideB L0 k) /\ Below w.heap.size w wr)
  case atStart => exact ⟨0, _, rfl, rfl, by omega, by omega, O2, b02⟩
  case round =>
   clear O2 b02
   obtain ⟨k, u, rfl, rfl, hk, rfl, O, b⟩ := hrel
   by_cases hkm : k < 9
   ·have hkz : (k : Int) < 9 := by omega
    have hix := ixS k hkm
    have HO := xaa O
    have HB := xaa b
    have hi3 : Hid ((Tryz.prog.info? 111).map (·.size) = some (qnm k).size) := xaa (by rw [szS k hkm]; exact iS3)
    have hz3 : Hid (qwu.size = (qnm k).size) := xaa (by rw [szS k hkm]; rfl)
    have h13 := xaa (oneS k hkm)
    have CA : Hid (∀ W, OwW w.heap.size W u (runF wideB L0 k) -> Below w.heap.size w W -> Calls Tryz.prog 39 #[.agg (qnm k), u] W fun e w' => ∃ u', e = .returned u' /\ OwW w.heap.size w' u' (runF wideB L0 (k + 1)) /\ Below w.heap.size w w') := xaa fun W h1 h2 =>
     (qye k hkm w.heap.size (runF wideB L0 k) u W h1 h2.size (xau (qic _ _ _) hL0l) (fun X hX => HTAB.out X (h2.trans hX))).mono fun e w' ⟨u', h3, h4, h5⟩ => ⟨u', h3, h4, h2.trans h5⟩
    have hbs := b.size
    clear O b
    go_wp2_with (first
     | (refine qab rfl rfl 111 9 rfl rfl (.tmp 25) rfl rfl _ alS3 (qnm k) (fun _ => rfl) (fun _ => rfl) hi3.out hz3.out h13.out ?_; intro w3 b3 B3)
     | (refine qan rfl 111 (.tmp 9) rfl _ rfl (qnm k) _ B3.lies uS3 rfl hi3.out ?_))
    refine (CA.out w3 (HO.out.below b3) (HB.out.trans (b3.mono hbs))).mono ?_
    rintro e w4 ⟨u', rfl, O4, b4⟩
    clear b3 B3 hix CA HO
    go_wp2_with fail
    go_roundg (9 - (k + 1))
    case measure => omega
    case rel => exact ⟨k + 1, _, rfl, by go_num, by omega, by omega, O4, b4⟩
   ·obtain rfl : k = 9 := by omega
    obtain ⟨wo, rfl⟩ : ∃ wo, wo = wr := ⟨_, rfl⟩
    obtain ⟨L, hL⟩ : ∃ L, runF wideB L0 9 = L := ⟨_, rfl⟩
    rw [hL] at O FIN
    have hLl : L.length <= 1048576 := by rw [<- hL]; exact xau (qic _ _ _) hL0l
    have HR := xaa O.rw_
    obtain ⟨A3, cap3, rfl⟩ := O.rw_.form
    obtain ⟨n, hn⟩ : ∃ n, L.length = n := ⟨_, rfl⟩
    have HN := xaa hn
    rw [hn] at HR hLl |-
    have hmk := makeC n (by omega)
    clear O hL hn hL0l HTAB hkm hk
    go_wp2_with fail
    have O0 := qq4 n hLl wo
    have b0 := xar wo (.cells (madeCells (chA zCr) (n * 5)) 52)
    obtain ⟨w0, hw0⟩ : ∃ w0, wo.alloc (.cells (madeCells (chA zCr) (n * 5)) 52) = w0 := ⟨_, rfl⟩
    rw [hw0] at O0 b0 |-
    clear hw0 hmk
    have O0 : OwC wo.heap.size w0 (.slice (some ⟨wo.heap.size, 0, none⟩) n n) (rd Cw.c zCr L 0) := by rw [qqp, HN.out]; exact O0
    have HB := xaa b
    have hbs := b.size
    clear b
    go_loopg [35] n (fun kx s35 wr => ∃ j : Nat, s35 = .int .i64 j /\ j <= n /\ kx = n - j /\ OwC wo.heap.size wr (.slice (some ⟨wo.heap.size, 0, none⟩) n n) (rd Cw.c zCr L j) /\ Below wo.heap.size wo wr)
    case atStart => exact ⟨0, rfl, by omega, by omega, O0, b0⟩
    case round =>
     clear O0 b0
     obtain ⟨j, rfl, hj, rfl, O, b⟩ := hrel
     by_cases hjn : j < n
     ·obtain ⟨c, hc⟩ := qef (l := L) (i := j) (by rw [HN.out]; exact hjn)
      obtain ⟨a2, cap4, o, hv, hab, ha, hLi⟩ := HR.out.get b hc
      rw [HN.out] at hv
      injection hv with hv1 hv2 hv3
      subst hv1 hv3
      have HO := xaa O
      have HBX := xaa b
      have HC := xaa hc
      have hbx := b.size
      have hjz : (j : Int) < n := by omega
      have hao : (⟨wo.heap.size, 0, none⟩ : Addr).add (j * 5) = ⟨wo.heap.size, j * 5, none⟩ := by rw [Addr.add_lit, Nat.zero_add]
      clear hv2 O b hc
      go_wp2_with (first
       | (refine ldW rfl (.tmp 38) rfl _ rfl c (ha ▸ hLi) ?_)
       | (refine alWV rfl rfl ?_; intro w3 b3 B3)
       | (refine stW rfl (.tmp 12) (.tmp 39) rfl rfl _ rfl c rfl zCw B3 ?_; intro w4 m4 B4; refine Mk.out ?_))
      constructor
      have b4 : Below wr.heap.size wr w4 := b3.trans (m4.below b3.size fun k hk => by omega)
      have LC : qar w4 ⟨wr.heap.size, 0, none⟩ (chA c.c) := B4.part 0 (fun i u hu => by
       have hi : i < 5 := (xag hu).1
       rcases (show i = 0 \/ i = 1 \/ i = 2 \/ i = 3 \/ i = 4 from by omega) with rfl | rfl | rfl | rfl | rfl <;> exact hu)
      have O4 := HO.out.below b4
      obtain ⟨cur, OA⟩ := O4.at_
      have hrd : (rd Cw.c zCr L j)[j]? = some zCr := rd_at Cw.c zCr (by rw [HN.out]; exact hjn)
      have hhas := xaa ((OA.has hrd).le (by simp [chA]))
      have HOA := xaa OA
      have H4 := xaa b4
      have hb4s := b4.size
      clear O4 OA b3 B3 m4 B4 b4
      go_wp2_with (first
       | (refine ldC rfl (.tmp 42) rfl _ rfl c.c LC ?_)
       | (refine qb8 rfl 52 (.tmp 44) (.tmp 43) rfl rfl wo.heap.size (j * 5) rfl (chA c.c) rfl 52 cur HOA.out.hB (iC _) hhas.out (oneC _) ?_; intro w5 m5 B5; refine Mk.out ?_))
      constructor
      have O6 : OwC wo.heap.size w5 (.slice (some ⟨wo.heap.size, 0, none⟩) n n) (rd Cw.c zCr L (j + 1)) := by
       rw [qqq Cw.c zCr HC.out]
       have := (HOA.out.set_ hrd B5).ow
       rwa [List.length_set, qw6 Cw.c zCr L (by rw [HN.out]; omega), HN.out] at this
      have b6 : Below wo.heap.size wo w5 := HBX.out.trans ((H4.out.mono hbx).trans (m5.below (xau hbx hb4s) fun j hj => by omega))
      clear hrd hhas HOA m5 B5 H4 LC hao
      go_wp2_with fail
      go_roundg (n - (j + 1))
      case measure => omega
      case rel => exact ⟨j + 1, by go_num, by omega, by omega, O6, b6⟩
     ·obtain rfl : j = n := by omega
      have hra := qw7 Cw.c zCr L
      rw [HN.out] at hra
      rw [hra] at O
      have HO := xaa (O.base_ hbs)
      clear O hra
      go_wp2_with fail
      exact FIN.out (.returned (.tuple #[.slice (some ⟨wo.heap.size, 0, none⟩) j j, .int .i64 0])) _ (.inl ⟨HMAY.out, _, rfl, HO.out, HB.out.trans (b.mono hbs)⟩)
 ·have HMAY := xaa hmay
  clear hmay CR
  go_wp2_with fail
  exact FIN.out (.returned (.tuple #[.slice none 0 0, .int .i64 2])) _ (.inr ⟨HMAY.out, rfl, b1⟩)
end Wl
end Go.Proofs.YtmceblkjbpbcoaaGreatDoor
