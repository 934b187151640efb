/- Contracts of package class's search: the closures, (*table).class, Of, Mark. No condition. -/
import Derived.Test.YtnoenccpbbkdeaaCRows
import Derived.Test.YtnoenccpbbkdeaaGG
import Derived.Laws.MakeOwn
namespace Go.Proofs.Ytnoenccpbbkdeaa
open Go.ChangeShapes Go.WideShapes Go.ChangeAt Go.RowKit

theorem flat3 (f g h : CRow → Value) : ∀ (l : List CRow) (i : Nat) (x : CRow), l[i]? = some x →
    (l.flatMap fun x => [f x, g x, h x])[i * 3]? = some (f x) ∧ (l.flatMap fun x => [f x, g x, h x])[i * 3 + 1]? = some (g x) ∧ (l.flatMap fun x => [f x, g x, h x])[i * 3 + 2]? = some (h x)
  | [], i, x, hx => by simp at hx
  | y :: t, 0, x, hx => by
    simp at hx
    subst hx
    simp
  | y :: t, i + 1, x, hx => by
    simp at hx
    have ih := flat3 f g h t i x hx
    have e : ∀ k, k < 3 → (i + 1) * 3 + k = i * 3 + k + 3 := fun k _ => by omega
    refine ⟨?_, ?_, ?_⟩
    · rw [show (i + 1) * 3 = i * 3 + 3 by omega]; simpa using ih.1
    · rw [e 1 (by omega)]; simpa using ih.2.1
    · rw [e 2 (by omega)]; simpa using ih.2.2

/-- the table lies in block g -/
def TabAt (w : World) (g : Nat) : Prop := Blk w g 78 tcells
theorem TabAt.cells {w : World} {g : Nat} (h : TabAt w g) {i : Nat} {x : CRow} (hx : crows[i]? = some x) :
    w.cell? ⟨g, i * 3, none⟩ = some (.int .i32 x.1) ∧ w.cell? ⟨g, i * 3 + 1, none⟩ = some (.int .i32 x.2.1) ∧ w.cell? ⟨g, i * 3 + 2, none⟩ = some (.int .u8 x.2.2) := by
  have c := flat3 (fun x => .int .i32 x.1) (fun x => .int .i32 x.2.1) (fun x => .int .u8 x.2.2) crows i x hx
  have e : ∀ j, w.cell? ⟨g, j, none⟩ = tcells[j]? := fun j => Blk.cell h j
  rw [e, e, e]
  unfold tcells
  simpa using c
theorem TabAt.below {w w' : World} {g : Nat} (h : TabAt w g) (b : Below w.heap.size w w') : TabAt w' g := Blk.keep (S := fun _ => False) h (Mod.of_below b) id

set_option maxRecDepth 100000 in
set_option maxHeartbeats 1000000 in
theorem ccl_any (i pr pt g : Nat) (r : Int) (x : CRow) (w : World) (hi : i < 188) (hx : crows[i]? = some x) (hr : w.cell? ⟨pr, 0, none⟩ = some (.int .i32 r)) (ht : w.cell? ⟨pt, 0, none⟩ = some (.pointer (some ⟨g, 0, none⟩))) (hT : TabAt w g) :
    Calls Try.prog 56 #[.int .i64 i, .pointer (some ⟨pr, 0, none⟩), .pointer (some ⟨pt, 0, none⟩)] w fun e w' => e = .returned (.bool (decide (r ≤ x.2.1))) ∧ Below w.heap.size w w' := by
  obtain ⟨_, hc, _⟩ := hT.cells hx
  obtain ⟨y, hy⟩ : ∃ y, x.2.1 = y := ⟨_, rfl⟩
  rw [hy] at hc ⊢
  clear hx hT hy
  have hiz : (i : Int) < 188 := by omega
  go_enter Try.func56, Try.ntmps56
  go_wp2
  go_quiet (fail)
  go_wp2
  go_ret
  exact ⟨retb (by simp), below_drewN (Below.refl _ _) _⟩

/-- what the search asks of a place -/
def askB (r : Int) (i : Nat) : Bool := match crows[i]? with
  | some x => decide (r ≤ x.2.1)
  | none => true
theorem ask_some {r : Int} {i : Nat} {x : CRow} (h : crows[i]? = some x) : askB r i = decide (r ≤ x.2.1) := by unfold askB; rw [h]
theorem crows_at (i : Nat) (h : i < 188) : ∃ x, crows[i]? = some x := ⟨crows[i]'(by rw [crows_len]; exact h), List.getElem?_eq_getElem _⟩
theorem ord_lt : ∀ (l : List CRow), ordB l = true → ∀ (a b : Nat) (x y : CRow), a < b → l[a]? = some x → l[b]? = some y → x.2.1 < y.1
  | [], _, a, b, x, y, _, hx, _ => by simp at hx
  | z :: t, ho, a, b, x, y, hab, hx, hy => by
    obtain ⟨hz, ht⟩ := ordB_cons ho
    cases b with
    | zero => omega
    | succ b =>
      simp at hy
      cases a with
      | zero =>
        simp at hx
        subst hx
        exact hz y (List.mem_of_getElem? hy)
      | succ a =>
        simp at hx
        exact ord_lt t ht a b x y (by omega) hx hy
theorem ask_mono (r : Int) (a b : Nat) (hab : a ≤ b) (hb : b < 188) (h : askB r a = true) : askB r b = true := by
  obtain ⟨x, hx⟩ := crows_at a (by omega)
  obtain ⟨y, hy⟩ := crows_at b hb
  rw [ask_some hx] at h
  rw [ask_some hy]
  simp at h ⊢
  by_cases e : a = b
  · subst e
    rw [hx] at hy
    cases hy
    exact h
  · have h1 := ord_lt crows crows_ord a b x y (by omega) hx hy
    have h2 := List.all_eq_true.1 crows_le y (List.mem_of_getElem? hy)
    simp at h2
    omega
theorem found_of {r : Int} {k : Nat} (hk : k ≤ 188) (h : (∀ j, j < k → askB r j = false) ∧ (k < 188 → askB r k = true)) : Found crows r k := by
  refine ⟨by rw [crows_len]; exact hk, fun j x hj hx => ?_, fun x hx => ?_⟩
  · have := h.1 j hj
    rw [ask_some hx] at this
    simpa using this
  · have hl := (List.getElem?_eq_some_iff.1 hx).1
    rw [crows_len] at hl
    have := h.2 hl
    rw [ask_some hx] at this
    simpa using this

theorem enters24 : ∀ args w, (callFunc 56 args).run Try.prog w = .ok (.enter 56 args) w := enters_of Try.func56 (by kernel_rfl) rfl

/-- the world in which the search is called: two boxes -/
def boxed (w : World) (g : Nat) (r : Int) : World := (w.alloc (.cells #[.pointer (some ⟨g, 0, none⟩)] 87)).alloc (.cells #[.int .i32 r] 21)
theorem boxed_facts {w W : World} {g : Nat} {r : Int} (hT : TabAt w g) (hW : Below (boxed w g r).heap.size (boxed w g r) W) :
    W.cell? ⟨w.heap.size + 1, 0, none⟩ = some (.int .i32 r) ∧ W.cell? ⟨w.heap.size, 0, none⟩ = some (.pointer (some ⟨g, 0, none⟩)) ∧ TabAt W g ∧ Below w.heap.size w W := by
  have b1 := below_alloc w (.cells #[.pointer (some ⟨g, 0, none⟩)] 87)
  have b2 := below_alloc (w.alloc (.cells #[.pointer (some ⟨g, 0, none⟩)] 87)) (.cells #[.int .i32 r] 21)
  have c1 := cell_new1 w (.pointer (some ⟨g, 0, none⟩)) 87
  have c2 := cell_new1 (w.alloc (.cells #[.pointer (some ⟨g, 0, none⟩)] 87)) (.int .i32 r) 21
  have s1 : (w.alloc (.cells #[.pointer (some ⟨g, 0, none⟩)] 87)).heap.size = w.heap.size + 1 := by simp
  have s2 : (boxed w g r).heap.size = w.heap.size + 2 := by simp [boxed]
  rw [s1] at c2
  refine ⟨below_cell1 hW (by omega) c2, below_cell1 hW (by omega) (below_cell1 b2 (by omega) c1), ((hT.below b1).below b2).below hW, below_seq b1 (below_seq b2 hW)⟩

set_option maxRecDepth 100000 in
set_option maxHeartbeats 2000000 in
theorem cclass_any (g : Nat) (r : Int) (w : World) (hT : TabAt w g) :
    Calls Try.prog 49 #[.pointer (some ⟨g, 0, none⟩), .int .i32 r] w fun e w' => e = .returned (.int .u8 (clsOf r)) ∧ Below w.heap.size w w' := by
  have S : Hid (Calls Try.prog 55 #[.int .i64 (188 : Nat), .func (.func 56) #[] #[.pointer (some ⟨w.heap.size + 1, 0, none⟩), .pointer (some ⟨w.heap.size, 0, none⟩)]] (boxed w g r) fun e w' => ∃ k : Nat, e = .returned (.int .i64 k) ∧ k ≤ 188 ∧ Hid ((∀ j, j < k → askB r j = false) ∧ (k < 188 → askB r k = true)) ∧ Below (boxed w g r).heap.size (boxed w g r) w') := by
    refine search_any _ _ 188 (askB r) _ (by omega) enters24 (fun W i hW hi => ?_) (ask_mono r)
    obtain ⟨x, hx⟩ := crows_at i hi
    rw [ask_some hx]
    obtain ⟨h1, h2, h3, _⟩ := boxed_facts hT hW
    exact ccl_any i (w.heap.size + 1) w.heap.size g r x W hi hx h1 h2 h3
  have HT := Lib.hid hT
  clear hT
  go_enter Try.func49, Try.ntmps49
  go_wp2_with fail
  refine S.out.mono ?_
  rintro e w1 ⟨k, rfl, hk, F, b1⟩
  obtain ⟨h1, h2, h3, hb⟩ := boxed_facts HT.out b1
  have HE := Lib.hid (cls_found r k (found_of hk F.out))
  clear b1 S F
  by_cases hlt : k < 188
  · obtain ⟨x, hx⟩ := crows_at k hlt
    obtain ⟨c1, _, c3⟩ := h3.cells hx
    have HC : Hid ((if x.1 ≤ r then x.2.2 else 0) = clsOf r) := by
      have := HE.out
      unfold clsAt at this
      rw [hx] at this
      exact this
    obtain ⟨a, ha⟩ : ∃ a, x.1 = a := ⟨_, rfl⟩
    obtain ⟨c, hc⟩ : ∃ c, x.2.2 = c := ⟨_, rfl⟩
    rw [ha] at c1
    rw [hc] at c3
    rw [ha, hc] at HC
    clear hx ha hc h3 HE
    have hkz : (k : Int) < 188 := by omega
    by_cases hle : a ≤ r
    · go_wp2_with fail
      go_quiet (fail)
      go_wp2_with fail
      go_ret
      exact ⟨ret1 (by rw [← HC.out, if_pos (by omega)]), below_drewN hb _⟩
    · have hd : decide (a ≤ r) = false := by simpa using hle
      go_wp2_with fail
      go_quiet (fail)
      go_wp2_with fail
      go_ret
      exact ⟨ret1 (by rw [← HC.out, if_neg (by omega)]), below_drewN hb _⟩
  · have hkn : k = 188 := by omega
    have HC : Hid (0 = clsOf r) := by
      have := HE.out
      unfold clsAt at this
      rw [List.getElem?_eq_none (by rw [crows_len]; omega)] at this
      exact this
    subst hkn
    clear hk h3 HE
    go_wp2_with fail
    go_quiet (fail)
    go_wp2_with fail
    go_ret
    exact ⟨ret1 (by rw [← HC.out]), below_drewN hb _⟩
end Go.Proofs.Ytnoenccpbbkdeaa

/- Contracts of class.Of and class.Mark. No condition. -/
namespace Go.Proofs.Ytnoenccpbbkdeaa
open Go.ChangeShapes Go.WideShapes Go.ChangeAt Go.RowKit

/-- the table that a caller has stored -/
theorem stored (w1 : World) : TabAt ((w1.alloc (.cells tzero 78)).setRow w1.heap.size tcells) w1.heap.size ∧ Below w1.heap.size w1 ((w1.alloc (.cells tzero 78)).setRow w1.heap.size tcells) :=
  ⟨setRow_heap _ _ _ _ _ _ (heap_alloc_new w1 _), (below_alloc w1 _).trans ⟨rfl, rfl, rfl, by simp, fun k hk => setRow_other _ _ _ _ (by omega)⟩⟩

set_option maxRecDepth 100000 in
set_option maxHeartbeats 2000000 in
theorem cof_any (r : Int) (w : World) :
    Calls Try.prog 27 #[.int .i32 r] w fun e w' => e = .returned (.int .u8 (clsOf r)) ∧ Below w.heap.size w w' := by
  go_enter Try.func27, Try.ntmps27
  go_wp2_with fail
  refine (rows_any _).mono ?_
  rintro e w1 ⟨rfl, b1⟩
  rename_i Q K1 h1 K2 h2
  refine h2 _ _ ?_
  clear h2 K2
  refine Go.Great.wpList_allocTo rfl (some 3) rfl (.pointer (some ⟨w1.heap.size, 0, none⟩)) (.cells tzero 78) (by kernel_rfl) ?_
  refine wpList_store_row rfl 78 (.tmp 3) (.tmp 4) rfl w1.heap.size tcells rfl rfl 78 tzero (heap_alloc_new w1 _) (by kernel_rfl) (by kernel_rfl) (by kernel_rfl) ?_
  obtain ⟨t2, b2⟩ := stored w1
  generalize (w1.alloc (.cells tzero 78)).setRow w1.heap.size tcells = w2 at *
  refine wpList_nil ?_
  refine h1 _ _ ?_
  clear h1 K1
  go_wp2_with fail
  refine (cclass_any _ r _ t2).mono ?_
  rintro e w3 ⟨rfl, b3⟩
  go_wp2_with fail
  go_ret
  exact ⟨rfl, below_seq b1 (below_seq b2 b3)⟩

set_option maxRecDepth 100000 in
set_option maxHeartbeats 2000000 in
theorem cmark_any (r : Int) (w : World) (b : Bool) (hb : (clsOf r == 9) = b) :
    Calls Try.prog 17 #[.int .i32 r] w fun e w' => e = .returned (.bool b) ∧ Below w.heap.size w w' := by
  have C : Hid (∀ w : World, Calls Try.prog 27 #[.int .i32 r] w fun e w' => e = .returned (.int .u8 (clsOf r)) ∧ Below w.heap.size w w') := cof_any r
  obtain ⟨c, hc⟩ : ∃ c, clsOf r = c := ⟨_, rfl⟩
  rw [hc] at C hb
  clear hc
  go_enter Try.func17, Try.ntmps17
  go_wp2_with fail
  refine (C.out _).mono ?_
  rintro e w1 ⟨rfl, b1⟩
  go_wp2_with fail
  go_ret
  exact ⟨retb (by simp), b1⟩
end Go.Proofs.Ytnoenccpbbkdeaa

/- Contracts of class.All and of the document's Same. Condition: at most 100000 numbers. -/
namespace Go.Proofs.Ytnoenccpbbkdeaa
open Go.ChangeShapes Go.WideShapes Go.ChangeAt Go.RowKit

theorem run_make_rowN {P : Program} (t e : TypeId) (i : TypeInfo) (z : Value) (ht : P.underlying t = some (.slice e)) (hi : P.info? e = some i) (hz : i.zero = some z)
    (kl kc : IntKind) (n c : Nat) (hnc : n ≤ c) (hbytes : i.bytes * c ≤ 281474976710656) (h63 : c ≤ 9223372036854775807) (w : World) :
    (Instr.makeSlice t (.int kl (n : Int)) (.int kc (c : Int))).run P w = .ok (.slice (some ⟨w.heap.size, 0, none⟩) n c) (w.alloc (.cells (madeCells z.cells (c * i.size)) e)) := by
  have hb : (i.bytes : Int) * (c : Int) ≤ 281474976710656 := by
    have h : ((i.bytes * c : Nat) : Int) ≤ 281474976710656 := by omega
    rwa [Int.natCast_mul] at h
  have hr := run_make (P := P) w t e i z ht hi hz kl kc n c (by omega) (by omega) hb (by omega)
  simp only [Int.toNat_natCast] at hr
  exact hr

theorem info8 : (Try.prog.info? 5).map (fun i => (i.zero, i.size, i.bytes)) = some (some (.int .u8 0), 1, 1) := by kernel_rfl
/-- n bytes of zero -/
def zeros8 (n : Nat) : Array Value := madeCells #[.int .u8 0] n
theorem zeros8_size (n : Nat) : (zeros8 n).size = n := by simp [zeros8, madeCells]
theorem mk8 (n : Nat) (hn : n ≤ 100000) (w : World) :
    (Instr.makeSlice 29 (.int .i64 (n : Int)) (.int .i64 (n : Int))).run Try.prog w = .ok (.slice (some ⟨w.heap.size, 0, none⟩) n n) (w.alloc (.cells (zeros8 n) 5)) := by
  obtain ⟨i0, hi, hz0, hz1, hz2⟩ := info_parts info8
  have := run_make_rowN (P := Try.prog) 29 5 i0 (.int .u8 0) Try.underlying29 hi hz0 .i64 .i64 n n (Nat.le_refl _) (by rw [hz2]; omega) (by omega) w
  rw [hz1, Nat.mul_one] at this
  exact this

/-- the block holds the classes of the first k numbers -/
def Clss (zs : List Int) (k : Nat) (cs : Array Value) : Prop := cs.size = zs.length ∧ ∀ j z, j < k → zs[j]? = some z → cs[j]? = some (.int .u8 (clsOf z))
theorem Clss.zero (zs : List Int) : Clss zs 0 (zeros8 zs.length) := ⟨zeros8_size _, fun j z hj => by omega⟩
theorem Clss.step {zs : List Int} {k : Nat} {cs : Array Value} (h : Clss zs k cs) {z : Int} (hz : zs[k]? = some z) : Clss zs (k + 1) (cs.setIfInBounds k (.int .u8 (clsOf z))) := by
  have hk : k < cs.size := by rw [h.1]; exact (List.getElem?_eq_some_iff.1 hz).1
  refine ⟨by simpa using h.1, fun j y hj hy => ?_⟩
  by_cases e : j = k
  · subst e
    rw [hz] at hy
    cases hy
    simp [hk]
  · rw [Array.getElem?_setIfInBounds_ne (fun h => e h.symm)]
    exact h.2 j y (by omega) hy

set_option maxRecDepth 100000 in
set_option maxHeartbeats 4000000 in
theorem call_any (v : Value) (n : Nat) (zs : List Int) (w : World) (hn : zs.length = n) (hm : n ≤ 100000) (hR : Row (fun _ => False) w v (zs.map (Value.int .i32))) :
    Calls Try.prog 31 #[v] w fun e w' => ∃ G cs, e = .returned (.slice (some ⟨G, 0, none⟩) n n) ∧ w.heap.size ≤ G ∧ Blk w' G 5 cs ∧ Clss zs n cs ∧ Below w.heap.size w w' := by
  have HM := Lib.hid (mk8 n hm)
  have HN := Lib.hid hn
  have HRw := Lib.hid hR
  obtain ⟨A, cap, rfl⟩ := hR.form
  rw [List.length_map, hn] at HRw ⊢
  clear hn hR
  go_enter Try.func31, Try.ntmps31
  go_wp2_with fail
  refine (rows_any _).mono ?_
  rintro e w1 ⟨rfl, b1⟩
  rename_i Q K1 h1 K2 h2
  refine h2 _ _ ?_
  clear h2 K2
  refine Go.Great.wpList_allocTo rfl (some 3) rfl (.pointer (some ⟨w1.heap.size, 0, none⟩)) (.cells tzero 78) (by kernel_rfl) ?_
  refine wpList_store_row rfl 78 (.tmp 3) (.tmp 7) rfl w1.heap.size tcells rfl rfl 78 tzero (heap_alloc_new w1 _) (by kernel_rfl) (by kernel_rfl) (by kernel_rfl) ?_
  obtain ⟨t2, b2⟩ := stored w1
  generalize (w1.alloc (.cells tzero 78)).setRow w1.heap.size tcells = w2 at *
  have b12 := below_seq b1 b2
  have l2 : w1.heap.size < w2.heap.size := t2.lt
  have l1 := b1.size
  refine wpList_nil ?_
  refine h1 _ _ ?_
  clear h1 K1 b1 b2
  have hmk := HM.out
  go_wp2_with fail
  clear hmk
  go_loopg [13] n (fun kx s13 wr => ∃ (k : Nat) (cs : Array Value), s13 = .int .i64 k ∧ k ≤ n ∧ kx = n - k ∧ Below w.heap.size w wr ∧ w2.heap.size < wr.heap.size ∧ TabAt wr w1.heap.size ∧ Blk wr w2.heap.size 5 cs ∧ Hid (Clss zs k cs))
  case atStart => exact ⟨0, zeros8 n, rfl, by omega, by omega, below_seq b12 (below_alloc _ _), by simp, t2.below (below_alloc _ _), Blk.new _ _ _, by rw [← HN.out]; exact Clss.zero zs⟩
  case round =>
    obtain ⟨k, cs, rfl, hk, rfl, bel, hsz, hT, hG, HK⟩ := hrel
    by_cases hlt : k < n
    · have hkl : k < zs.length := by rw [HN.out]; exact hlt
      obtain ⟨z, hz⟩ : ∃ z, zs[k]? = some z := ⟨zs[k], List.getElem?_eq_getElem hkl⟩
      have HZ := Lib.hid hz
      obtain ⟨a, cap2, hv, hab, _, hcell⟩ := HRw.out.at_ (by simp; omega)
      obtain rfl : A = some a := by injection hv
      have hcz : wr.cell? (a.add k) = some (.int .i32 z) := (bel.cell (p := a.add k) (by rw [block_of_add]; exact hab)).trans (hcell k _ (by rw [List.getElem?_map, hz]; rfl))
      have hcs : k < cs.size := by rw [HK.out.1]; exact hkl
      have hold : cs[k]? = some cs[k] := Array.getElem?_eq_getElem hcs
      generalize cs[k] = old at hold
      have HO := Lib.hid hold
      have hkz : (k : Int) < n := by omega
      clear hv hcell hz hold hcs hkl
      go_wp2_with fail
      refine (cclass_any _ z _ hT).mono ?_
      rintro e w4 ⟨rfl, b4⟩
      have hG4 := hG.keep (S := fun _ => False) (Mod.of_below b4) id
      have c4 := (hG4.cell k).trans HO.out
      have f4 := hG4.frozen k
      have hs4 := b4.size
      have bel4 := bel.trans (b4.mono bel.size)
      have hT4 := hT.below b4
      go_wp2_with fail
      go_roundg (n - (k + 1))
      case measure => omega
      case rel => exact ⟨k + 1, cs.setIfInBounds k (.int .u8 (clsOf z)), by go_num, by omega, rfl, bel4.setCell (by show w.heap.size ≤ w2.heap.size; omega) _, by simp [World.setCell]; omega, Blk.keep (S := fun j => j = w2.heap.size) hT4 (Mod.setCell (S := fun j => j = w2.heap.size) (Mod.refl _ _) (p := ⟨w2.heap.size, k, none⟩) (.inl rfl) _) (by omega), hG4.set_ k _, HK.out.step HZ.out⟩
    · have hkn : k = n := by omega
      subst hkn
      go_wp2_with fail
      go_ret
      exact ⟨_, cs, rfl, by omega, hG, HK.out, bel⟩

end Go.Proofs.Ytnoenccpbbkdeaa
