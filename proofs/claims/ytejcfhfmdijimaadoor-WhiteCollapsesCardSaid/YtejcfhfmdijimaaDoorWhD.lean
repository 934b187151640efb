/- Rows of characters of the call's own: of zeros, and with an element stored; white's steps, and what each of them does to a list. Condition where a number's width counts: class's table lies in memory. -/
import Derived.Test.YtejcfhfmdijimaaDoorWhC
namespace Go.Proofs.YtejcfhfmdijimaaDoor
open Go.ChangeShapes Go.WideShapes Go.ChangeAt Go.RowKit Go.Shelf
open Wh

theorem mod_less {p k : Nat} (h : k ≤ p) : p % k = (p - k) % k := Nat.mod_eq_sub_mod h
theorem take_splK {α : Type} (k : Nat) (X ys : List α) (o N : Nat) (hy : ys.length = k) (h1 : o + k ≤ N) (h2 : N ≤ X.length) : (X.take o ++ (ys ++ X.drop (o + k))).take N = (X.take N).take o ++ (ys ++ (X.take N).drop (o + k)) := by
  have e : (X.take o).length = o := by rw [List.length_take]; omega
  rw [List.take_append, List.take_append, e, hy, List.take_take, List.take_take, List.drop_take, Nat.min_eq_right (by omega), Nat.min_eq_left (by omega), List.take_of_length_le (l := ys) (by omega), show N - o - k = N - (o + k) by omega]
/-- the first k elements filled -/
def rd {α β : Type} (f : α → β) (z : β) (l : List α) (k : Nat) : List β := (l.take k).map f ++ List.replicate (l.length - k) z
theorem rd_zero {α β : Type} (f : α → β) (z : β) (l : List α) : rd f z l 0 = List.replicate l.length z := rfl
theorem rd_all {α β : Type} (f : α → β) (z : β) (l : List α) : rd f z l l.length = l.map f := by simp [rd]
theorem rd_len {α β : Type} (f : α → β) (z : β) (l : List α) {k : Nat} (h : k ≤ l.length) : (rd f z l k).length = l.length := by
  simp [rd]
  omega
theorem rd_at {α β : Type} (f : α → β) (z : β) {l : List α} {k : Nat} (h : k < l.length) : (rd f z l k)[k]? = some z := by
  unfold rd
  have e : ((l.take k).map f).length = k := by simp; omega
  rw [List.getElem?_append_right (by omega), e, Nat.sub_self, List.getElem?_replicate, if_pos (by omega)]
theorem rd_succ {α β : Type} (f : α → β) (z : β) {l : List α} {k : Nat} {c : α} (h : l[k]? = some c) : rd f z l (k + 1) = (rd f z l k).set k (f c) := by
  have hk := (List.getElem?_eq_some_iff.1 h).1
  unfold rd
  have e : ((l.take k).map f).length = k := by simp; omega
  rw [show l.take (k + 1) = l.take k ++ [c] by rw [List.take_add_one, h]; rfl, List.map_append, List.set_append_right _ _ (by omega), e, Nat.sub_self, show l.length - k = (l.length - (k + 1)) + 1 by omega, List.replicate_succ, List.set_cons_zero]
  simp


/-- a row of characters of the call's own -/
def OwC (base : Nat) (w : World) (v : Value) (l : List Cr) : Prop := w.ownsRow base 38 5 v l.length (flatC l)
theorem OwC.rw_ {base : Nat} {w : World} {v : Value} {l : List Cr} (h : OwC base w v l) : RwC w v l := own_rwC h rfl
theorem OwC.below {base : Nat} {w w' : World} {v : Value} {l : List Cr} (h : OwC base w v l) (b : Below w.heap.size w w') : OwC base w' v l := own_keep (S := fun _ => False) h (Mod.of_below b) fun _ _ => id
theorem OwC.base_ {base base' : Nat} {w : World} {v : Value} {l : List Cr} (h : OwC base w v l) (hb : base' ≤ base) : OwC base' w v l := own_base h hb
theorem flatC_cons (x : Cr) (l : List Cr) : flatC (x :: l) = (chA x).toList ++ flatC l := rfl
theorem chA_len (x : Cr) : (chA x).toList.length = 5 := rfl
theorem flatC_set (y : Cr) : ∀ (l : List Cr) (k : Nat), k < l.length → flatC (l.set k y) = (flatC l).take (k * 5) ++ ((chA y).toList ++ (flatC l).drop (k * 5 + 5))
  | x :: l, 0, _ => by
    rw [List.set_cons_zero, flatC_cons, flatC_cons, Nat.zero_mul, List.take_zero, List.nil_append, Nat.zero_add, List.drop_append, chA_len, Nat.sub_self, List.drop_zero, @List.drop_eq_nil_of_le _ (chA x).toList _ (by rw [chA_len]; exact Nat.le_refl _), List.nil_append]
  | x :: l, k + 1, h => by
    have ih := flatC_set y l k (by simpa using h)
    rw [List.set_cons_succ, flatC_cons, flatC_cons, ih, List.take_append, List.drop_append, chA_len, List.take_of_length_le (l := (chA x).toList) (by rw [chA_len]; omega), @List.drop_eq_nil_of_le _ (chA x).toList _ (by rw [chA_len]; omega), List.nil_append,
      show (k + 1) * 5 - 5 = k * 5 by omega, show (k + 1) * 5 + 5 - 5 = k * 5 + 5 by omega, List.append_assoc]
/-- a row of the call's own that has elements -/
structure OwnAtC (base g cap : Nat) (cur : Array Value) (l : List Cr) (w : World) : Prop where
  hb : base ≤ g
  hB : Blk w g 38 cur
  hn : l.length ≤ cap
  hm : cap ≤ maxLen
  hs : cur.size = cap * 5
  ht : cur.toList.take (l.length * 5) = flatC l
theorem OwC.at_ {base g cap n : Nat} {w : World} {l : List Cr} (h : OwC base w (.slice (some ⟨g, 0, none⟩) n cap) l) : ∃ cur, OwnAtC base g cap cur l w := by
  rcases h.2 with ⟨h, _⟩ | ⟨g', cap', cur, hv, h1, h2, h3, h4, h5, h6⟩
  · cases h
  · injection hv with e1 e2 e3
    injection e1 with e1
    injection e1 with e1
    subst e1 e3
    exact ⟨cur, h1, h2, h3, h4, h5, h6⟩
theorem OwnAtC.ow {base g cap : Nat} {cur : Array Value} {l : List Cr} {w : World} (h : OwnAtC base g cap cur l w) : OwC base w (.slice (some ⟨g, 0, none⟩) l.length cap) l :=
  ⟨flatC_len l, .inr ⟨g, cap, cur, rfl, h.hb, h.hB, h.hn, h.hm, h.hs, h.ht⟩⟩
theorem OwnAtC.has {base g cap : Nat} {cur : Array Value} {l : List Cr} {w : World} (h : OwnAtC base g cap cur l w) {k : Nat} {c : Cr} (hk : l[k]? = some c) : Has cur (k * 5) (chA c).toList :=
  ⟨fun j u hu => by
    obtain ⟨a, cap2, o, hv, hb, ha, hL⟩ := h.ow.rw_.get (Below.refl _ _) hk
    injection hv with e1
    injection e1 with e1
    subst e1
    have e2 : (⟨g, 0, none⟩ : Addr).add (k * 5) = ⟨g, k * 5, none⟩ := by rw [Addr.add_lit, Nat.zero_add]
    rw [e2] at ha
    injection ha with _ ha
    subst ha
    have := hL j u (by simpa using hu)
    rw [Addr.add_lit, h.hB.cell] at this
    exact this⟩
theorem OwnAtC.set_ {base g cap : Nat} {cur : Array Value} {l : List Cr} {w w' : World} (h : OwnAtC base g cap cur l w) {k : Nat} {c y : Cr} (hk : l[k]? = some c) (hB : Blk w' g 38 (spl cur (k * 5) (chA y).toList)) : OwnAtC base g cap (spl cur (k * 5) (chA y).toList) (l.set k y) w' := by
  have hkl := (List.getElem?_eq_some_iff.1 hk).1
  have hle := (h.has hk).le (by simp [chA])
  rw [chA_len] at hle
  refine ⟨h.hb, hB, by rw [List.length_set]; exact h.hn, h.hm, by rw [spl_size _ _ _ (by rw [chA_len]; exact hle)]; exact h.hs, ?_⟩
  rw [List.length_set, flatC_set y l k hkl, ← h.ht]
  have h3 : l.length * 5 ≤ cur.toList.length := by rw [Array.length_toList (xs := cur), h.hs]; exact Nat.mul_le_mul_right 5 h.hn
  exact take_splK 5 cur.toList (chA y).toList (k * 5) (l.length * 5) rfl (by omega) h3
theorem infoC : (Tryd.prog.info? 38).map (fun i => (i.zero, i.size, i.bytes)) = some (some (.agg (chA zCr)), 5, 40) := by kernel_rfl

theorem flatC_rep : ∀ (n p : Nat), p < n * 5 → (flatC (List.replicate n zCr))[p]? = (chA zCr).toList[p % 5]?
  | 0, p, h => by omega
  | n + 1, p, h => by
    rw [List.replicate_succ, flatC_cons]
    by_cases hp : p < 5
    · rw [List.getElem?_append_left (by rw [chA_len]; exact hp), Nat.mod_eq_of_lt hp]
    · rw [List.getElem?_append_right (by rw [chA_len]; omega), chA_len, flatC_rep n (p - 5) (by omega), ← mod_less (by omega)]
theorem fullC (n : Nat) : (madeCells (chA zCr) (n * 5)).toList = flatC (List.replicate n zCr) := by
  apply List.ext_getElem?
  intro p
  by_cases hp : p < n * 5
  · rw [flatC_rep n p hp]
    have h2 : (madeCells (chA zCr) (n * 5))[p]? = (chA zCr).toList[p % 5]? := by
      have hlt : p % 5 < (chA zCr).toList.length := by rw [chA_len]; exact Nat.mod_lt _ (by omega)
      rw [List.getElem?_eq_getElem hlt]
      simp [madeCells, chA]
      exact ⟨p, by simp [hp], congrArg (fun o : Option Value => o.getD default) (List.getElem?_eq_getElem hlt)⟩
    simpa using h2
  · rw [List.getElem?_eq_none_iff.2 (by rw [Array.length_toList, size_madeCells]; omega), List.getElem?_eq_none_iff.2 (by rw [flatC_len, List.length_replicate]; omega)]
theorem makeC (n : Nat) (hn : n ≤ 1048576) (w : World) : (Instr.makeSlice 22 (.int .i64 (n : Int)) (.int .i64 (n : Int))).run Tryd.prog w = .ok (.slice (some ⟨w.heap.size, 0, none⟩) n n) (w.alloc (.cells (madeCells (chA zCr) (n * 5)) 38)) := by
  obtain ⟨i0, hi, hz0, hz1, hz2⟩ := info_agg infoC
  have h := run_make (P := Tryd.prog) w 22 38 i0 (.agg (chA zCr)) Tryd.underlying22 hi hz0 .i64 .i64 (n : Int) (n : Int) (by omega) (by omega) (by rw [hz2]; omega) (by omega)
  rw [hz1] at h
  simp only [Int.toNat_natCast] at h
  exact h
theorem own_fullC (n : Nat) (hn : n ≤ 1048576) (w : World) : OwC w.heap.size (w.alloc (.cells (madeCells (chA zCr) (n * 5)) 38)) (.slice (some ⟨w.heap.size, 0, none⟩) n n) (List.replicate n zCr) := by
  unfold OwC
  rw [List.length_replicate]
  refine ⟨by rw [flatC_len, List.length_replicate], .inr ⟨w.heap.size, n, _, rfl, Nat.le_refl _, heap_alloc_new w _, Nat.le_refl _, by unfold maxLen; omega, by simp [size_madeCells], ?_⟩⟩
  rw [← fullC]
  exact List.take_of_length_le (by simp [size_madeCells])


theorem infoW : (Tryd.prog.info? 57).map (fun i => (i.zero, i.size, i.bytes)) = some (some (.agg (cwA zCw)), 6, 48) := info57

theorem flatW_rep : ∀ (n p : Nat), p < n * 6 → (flatW (List.replicate n zCw))[p]? = (cwA zCw).toList[p % 6]?
  | 0, p, h => by omega
  | n + 1, p, h => by
    rw [List.replicate_succ, flatW_cons]
    by_cases hp : p < 6
    · rw [List.getElem?_append_left (by rw [cwA_len]; exact hp), Nat.mod_eq_of_lt hp]
    · rw [List.getElem?_append_right (by rw [cwA_len]; omega), cwA_len, flatW_rep n (p - 6) (by omega), ← mod_less (by omega)]
theorem fullW (n : Nat) : (madeCells (cwA zCw) (n * 6)).toList = flatW (List.replicate n zCw) := by
  apply List.ext_getElem?
  intro p
  by_cases hp : p < n * 6
  · rw [flatW_rep n p hp]
    have h2 : (madeCells (cwA zCw) (n * 6))[p]? = (cwA zCw).toList[p % 6]? := by
      have hlt : p % 6 < (cwA zCw).toList.length := by rw [cwA_len]; exact Nat.mod_lt _ (by omega)
      rw [List.getElem?_eq_getElem hlt]
      simp [madeCells, cwA]
      exact ⟨p, by simp [hp], congrArg (fun o : Option Value => o.getD default) (List.getElem?_eq_getElem hlt)⟩
    simpa using h2
  · rw [List.getElem?_eq_none_iff.2 (by rw [Array.length_toList, size_madeCells]; omega), List.getElem?_eq_none_iff.2 (by rw [flatW_len, List.length_replicate]; omega)]
theorem makeW (n : Nat) (hn : n ≤ 1048576) (w : World) : (Instr.makeSlice 45 (.int .i64 (n : Int)) (.int .i64 (n : Int))).run Tryd.prog w = .ok (.slice (some ⟨w.heap.size, 0, none⟩) n n) (w.alloc (.cells (madeCells (cwA zCw) (n * 6)) 57)) := by
  obtain ⟨i0, hi, hz0, hz1, hz2⟩ := info_agg infoW
  have h := run_make (P := Tryd.prog) w 45 57 i0 (.agg (cwA zCw)) Tryd.underlying45 hi hz0 .i64 .i64 (n : Int) (n : Int) (by omega) (by omega) (by rw [hz2]; omega) (by omega)
  rw [hz1] at h
  simp only [Int.toNat_natCast] at h
  exact h
theorem own_fullW (n : Nat) (hn : n ≤ 1048576) (w : World) : OwW w.heap.size (w.alloc (.cells (madeCells (cwA zCw) (n * 6)) 57)) (.slice (some ⟨w.heap.size, 0, none⟩) n n) (List.replicate n zCw) := by
  unfold OwW
  rw [List.length_replicate]
  refine ⟨by rw [flatW_len, List.length_replicate], .inr ⟨w.heap.size, n, _, rfl, Nat.le_refl _, heap_alloc_new w _, Nat.le_refl _, by unfold maxLen; omega, by simp [size_madeCells], ?_⟩⟩
  rw [← fullW]
  exact List.take_of_length_le (by simp [size_madeCells])


/-! ### the row of steps -/
def stepsV : Array Value := #[.nilFunc, .func (.func 35) #[] #[], .nilFunc, .func (.func 37) #[] #[], .func (.func 38) #[] #[], .nilFunc, .nilFunc, .func (.func 40) #[] #[], .nilFunc, .nilFunc, .func (.func 42) #[] #[], .nilFunc, .nilFunc, .func (.func 44) #[] #[], .func (.func 45) #[] #[], .nilFunc, .nilFunc, .func (.func 46) #[] #[], .nilFunc, .nilFunc, .func (.func 47) #[] #[], .nilFunc, .func (.func 48) #[] #[], .nilFunc, .nilFunc, .nilFunc, .func (.func 50) #[] #[]]
def zeroSs : Array Value := #[.nilFunc, .nilFunc, .nilFunc, .nilFunc, .nilFunc, .nilFunc, .nilFunc, .nilFunc, .nilFunc, .nilFunc, .nilFunc, .nilFunc, .nilFunc, .nilFunc, .nilFunc, .nilFunc, .nilFunc, .nilFunc, .nilFunc, .nilFunc, .nilFunc, .nilFunc, .nilFunc, .nilFunc, .nilFunc, .nilFunc, .nilFunc]
def zeroS3 : Array Value := #[.nilFunc, .nilFunc, .nilFunc]
def row0 : Array Value := #[.nilFunc, .func (.func 35) #[] #[], .nilFunc]
def row1 : Array Value := #[.func (.func 37) #[] #[], .func (.func 38) #[] #[], .nilFunc]
def row2 : Array Value := #[.nilFunc, .func (.func 40) #[] #[], .nilFunc]
def row3 : Array Value := #[.nilFunc, .func (.func 42) #[] #[], .nilFunc]
def row4 : Array Value := #[.nilFunc, .func (.func 44) #[] #[], .func (.func 45) #[] #[]]
def row5 : Array Value := #[.nilFunc, .nilFunc, .func (.func 46) #[] #[]]
def row6 : Array Value := #[.nilFunc, .nilFunc, .func (.func 47) #[] #[]]
def row7 : Array Value := #[.nilFunc, .func (.func 48) #[] #[], .nilFunc]
def row8 : Array Value := #[.nilFunc, .nilFunc, .func (.func 50) #[] #[]]
def rowS (k : Nat) : Array Value := if k = 0 then row0 else if k = 1 then row1 else if k = 2 then row2 else if k = 3 then row3 else if k = 4 then row4 else if k = 5 then row5 else if k = 6 then row6 else if k = 7 then row7 else row8
theorem iSs : (Tryd.prog.info? 53).map (·.size) = some 27 := by kernel_rfl
theorem iS3 : (Tryd.prog.info? 52).map (·.size) = some 3 := by kernel_rfl
theorem alSs (w : World) : (Instr.alloc 53 true (.tuple #[])).run Tryd.prog w = .ok (.pointer (some ⟨w.heap.size, 0, none⟩)) (w.alloc (.cells zeroSs 53)) := by kernel_rfl
theorem alS3 (w : World) : (Instr.alloc 52 true (.tuple #[])).run Tryd.prog w = .ok (.pointer (some ⟨w.heap.size, 0, none⟩)) (w.alloc (.cells zeroS3 52)) := by kernel_rfl
theorem uS3 : Tryd.prog.underlying 52 = some (.struct (Tryd.prog.fieldsOf 52)) := by kernel_rfl
theorem nine_cases {P : Nat → Prop} (h0 : P 0) (h1 : P 1) (h2 : P 2) (h3 : P 3) (h4 : P 4) (h5 : P 5) (h6 : P 6) (h7 : P 7) (h8 : P 8) (k : Nat) (hk : k < 9) : P k := by
  rcases (show k = 0 ∨ k = 1 ∨ k = 2 ∨ k = 3 ∨ k = 4 ∨ k = 5 ∨ k = 6 ∨ k = 7 ∨ k = 8 from by omega) with rfl | rfl | rfl | rfl | rfl | rfl | rfl | rfl | rfl <;> assumption
theorem ixS (k : Nat) (hk : k < 9) (w : World) : (Instr.index 53 (.agg stepsV) (.int .i64 (k : Int))).run Tryd.prog w = .ok (.agg (rowS k)) w :=
  nine_cases (P := fun k => (Instr.index 53 (.agg stepsV) (.int .i64 (k : Int))).run Tryd.prog w = .ok (.agg (rowS k)) w) (by kernel_rfl) (by kernel_rfl) (by kernel_rfl) (by kernel_rfl) (by kernel_rfl) (by kernel_rfl) (by kernel_rfl) (by kernel_rfl) (by kernel_rfl) k hk
theorem szS (k : Nat) (hk : k < 9) : (rowS k).size = 3 := nine_cases (P := fun k => (rowS k).size = 3) rfl rfl rfl rfl rfl rfl rfl rfl rfl k hk
theorem oneS (k : Nat) (hk : k < 9) : (rowS k).all (·.oneCell') = true := nine_cases (P := fun k => (rowS k).all (·.oneCell') = true) (by kernel_rfl) (by kernel_rfl) (by kernel_rfl) (by kernel_rfl) (by kernel_rfl) (by kernel_rfl) (by kernel_rfl) (by kernel_rfl) (by kernel_rfl) k hk

set_option maxRecDepth 100000 in
set_option maxHeartbeats 2000000 in
theorem wsteps_any (w : World) :
    Calls Tryd.prog 23 #[] w fun e w' => e = .returned (.agg stepsV) ∧ Below w.heap.size w w' := by
  go_enter Tryd.func23, Tryd.ntmps23
  go_wp2_with (first
    | (refine wpList_newV rfl 53 rfl _ alSs ?_; intro w1 b1 B1)
    | (refine wpList_storeL rfl 53 (.tmp 0) (.tmp 10) rfl rfl _ rfl stepsV rfl 53 zeroSs B1 iSs rfl (by kernel_rfl) ?_; intro w2 m2 B2))
  refine bodyPost_ret (v := .agg stepsV) (res_row rfl _ _ w.heap.size 53 stepsV _ rfl B2 Tryd.underlying53 rfl iSs) rfl ⟨rfl, b1.trans (m2.below b1.size (fun k hk => by omega))⟩

/-! ### what each step does -/
def sF (D : Int → Bool) (k : Nat) (l : List Cw) : List Cw :=
  if k = 0 then filt none1 g1 nb l else if k = 1 then filt whtW g2 nb l else if k = 2 then filt none1 g3 nb l else if k = 3 then filt none1 g4 nb l else if k = 4 then (filt none1 (g5 D) nb l).map t5
  else if k = 5 then l.map t6 else if k = 6 then l.map t7 else if k = 7 then filt none1 g8 nb l else l.map t9
def runF (D : Int → Bool) (l : List Cw) : Nat → List Cw
  | 0 => l
  | k + 1 => sF D k (runF D l k)
theorem filt_len (past : Cw → Bool) (gone : Cw → Cw → Cw → Bool) (l : List Cw) : (filt past gone nb l).length ≤ l.length := by
  have := pf_len (gnI past gone l) l l.length
  rwa [pf_all] at this
theorem sF_len (D : Int → Bool) (k : Nat) (l : List Cw) : (sF D k l).length ≤ l.length := by
  unfold sF
  split
  · exact filt_len _ _ _
  · split
    · exact filt_len _ _ _
    · split
      · exact filt_len _ _ _
      · split
        · exact filt_len _ _ _
        · split
          · rw [List.length_map]; exact filt_len _ _ _
          · split
            · rw [List.length_map]; exact Nat.le_refl _
            · split
              · rw [List.length_map]; exact Nat.le_refl _
              · split
                · exact filt_len _ _ _
                · rw [List.length_map]; exact Nat.le_refl _
theorem runF_len (D : Int → Bool) (l : List Cw) : ∀ k, (runF D l k).length ≤ l.length
  | 0 => Nat.le_refl _
  | k + 1 => Nat.le_trans (sF_len D k _) (runF_len D l k)
theorem runF_nine {W : Int → Int} {D : Int → Bool} (hD : D 10 = false ∧ D 13 = false) (l : List Cr) : runF D (l.map (emb W)) 9 = (collapse W D l).map (emb W) := nine hD l

theorem wap_any (k : Nat) (hk : k < 9) (base : Nat) (l : List Cw) (v : Value) (w : World) (hO : OwW base w v l) (hbase : base ≤ w.heap.size) (hlen : l.length ≤ 1048576) (hTab : ∀ W, Below base w W → Tab W) :
    Calls Tryd.prog 24 #[.agg (rowS k), v] w fun e w' => ∃ u, e = .returned u ∧ OwW base w' u (sF wideB k l) ∧ Below base w w' :=
  nine_cases (P := fun k => Calls Tryd.prog 24 #[.agg (rowS k), v] w fun e w' => ∃ u, e = .returned u ∧ OwW base w' u (sF wideB k l) ∧ Below base w w')
    (wapN1_any 35 g1 base l v w hO hbase hlen (enters_of Tryd.func35 (by kernel_rfl) rfl) fun b c a W _ => g1_any b c a W)
    (wapW1_any 38 g2 base l v w hO hbase hlen (enters_of Tryd.func38 (by kernel_rfl) rfl) fun b c a W _ => g2_any b c a W)
    (wapN1_any 40 g3 base l v w hO hbase hlen (enters_of Tryd.func40 (by kernel_rfl) rfl) fun b c a W _ => g3_any b c a W)
    (wapN1_any 42 g4 base l v w hO hbase hlen (enters_of Tryd.func42 (by kernel_rfl) rfl) fun b c a W _ => g4_any b c a W)
    (wapN2_any 44 (g5 wideB) 45 t5 base l v w hO hbase hlen (enters_of Tryd.func44 (by kernel_rfl) rfl) (fun b c a W hW => g5_any b c a W (hTab W hW)) (enters_of Tryd.func45 (by kernel_rfl) rfl) fun x g o cur W h1 h2 => wt5_any x g o cur W h1 h2)
    (wapN0_any 46 t6 base l v w hO hbase hlen (enters_of Tryd.func46 (by kernel_rfl) rfl) fun x g o cur W h1 h2 => wt6_any x g o cur W h1 h2)
    (wapN0_any 47 t7 base l v w hO hbase hlen (enters_of Tryd.func47 (by kernel_rfl) rfl) fun x g o cur W h1 h2 => wt7_any x g o cur W h1 h2)
    (wapN1_any 48 g8 base l v w hO hbase hlen (enters_of Tryd.func48 (by kernel_rfl) rfl) fun b c a W _ => g8_any b c a W)
    (wapN0_any 50 t9 base l v w hO hbase hlen (enters_of Tryd.func50 (by kernel_rfl) rfl) fun x g o cur W h1 h2 => wt9_any x g o cur W h1 h2)
    k hk
end Go.Proofs.YtejcfhfmdijimaaDoor
