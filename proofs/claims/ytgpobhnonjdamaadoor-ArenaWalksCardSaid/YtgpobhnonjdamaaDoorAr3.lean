/- A tree in memory; contracts of arena's Len, find, Node, End, Common, and of cmp.Or at two numbers. Conditions: what the pointer leads to lies in memory as New lays it, or is none. -/
import Derived.Test.YtgpobhnonjdamaaDoorAr2
namespace Go.Proofs.YtgpobhnonjdamaaDoor
open Go.ChangeShapes Go.WideShapes Go.ChangeAt Go.RowKit

structure TreeAt (w : World) (g gn ge cn ce : Nat) (l : List Nod) : Prop where
  ht : Blk w g 66 #[.slice (some ⟨gn, 0, none⟩) l.length cn, .slice (some ⟨ge, 0, none⟩) l.length ce]
  hgn : gn < w.heap.size
  hn : ∀ i x, l[i]? = some x → Lies w ⟨gn, i * 22, none⟩ x.cells
  hge : ge < w.heap.size
  he : ∀ i, i < l.length → ∃ e : Nat, EndOf (psOf l) i e ∧ w.cell? ⟨ge, i, none⟩ = some (.int .i64 (e : Int))
theorem lies_keep {w w' : World} {p : Addr} {cs : Array Value} (h : Lies w p cs) (hk : w'.heap[p.block]? = w.heap[p.block]?) : Lies w' p cs := fun j v hv => by
  exact (World.cell?_of_block (a := p.add j) (by rw [block_of_add]; exact hk)).trans (h j v hv)
theorem TreeAt.keep {w w' : World} {g gn ge cn ce : Nat} {l : List Nod} (h : TreeAt w g gn ge cn ce l) (hs : w.heap.size ≤ w'.heap.size) (hk : ∀ k, k = g ∨ k = gn ∨ k = ge → w'.heap[k]? = w.heap[k]?) : TreeAt w' g gn ge cn ce l := by
  obtain ⟨h1, h2, h3, h4, h5⟩ := h
  refine ⟨(hk g (.inl rfl)).trans h1, Nat.lt_of_lt_of_le h2 hs, fun i x hi => lies_keep (h3 i x hi) (hk gn (.inr (.inl rfl))), Nat.lt_of_lt_of_le h4 hs, fun i hi => ?_⟩
  obtain ⟨e, he, hc⟩ := h5 i hi
  exact ⟨e, he, (World.cell?_of_block (a := ⟨ge, i, none⟩) (hk ge (.inr (.inr rfl)))).trans hc⟩
theorem TreeAt.below {w w' : World} {g gn ge cn ce : Nat} {l : List Nod} (h : TreeAt w g gn ge cn ce l) (b : Below w.heap.size w w') : TreeAt w' g gn ge cn ce l := by
  refine h.keep b.size fun k hk => b.block k ?_
  have h1 := h.ht.lt
  have h2 := h.hgn
  have h3 := h.hge
  rcases hk with rfl | rfl | rfl <;> assumption
theorem TreeAt.c0 {w : World} {g gn ge cn ce : Nat} {l : List Nod} (h : TreeAt w g gn ge cn ce l) : w.cell? ⟨g, 0, none⟩ = some (.slice (some ⟨gn, 0, none⟩) l.length cn) := h.ht.cell 0
theorem TreeAt.c1 {w : World} {g gn ge cn ce : Nat} {l : List Nod} (h : TreeAt w g gn ge cn ce l) : w.cell? ⟨g, 1, none⟩ = some (.slice (some ⟨ge, 0, none⟩) l.length ce) := h.ht.cell 1
/-- v is a tree of the nodes l -/
def Tr (w : World) (v : Value) (l : List Nod) : Prop := ∃ g gn ge cn ce, v = .pointer (some ⟨g, 0, none⟩) ∧ TreeAt w g gn ge cn ce l
theorem Tr.below {w w' : World} {v : Value} {l : List Nod} (h : Tr w v l) (b : Below w.heap.size w w') : Tr w' v l := by
  obtain ⟨g, gn, ge, cn, ce, hv, h⟩ := h
  exact ⟨g, gn, ge, cn, ce, hv, h.below b⟩
/-- v is a tree of n nodes, or none (then n is 0) -/
def LenIs (w : World) (v : Value) (n : Nat) : Prop := (v = .pointer none ∧ n = 0) ∨ ∃ g A c, v = .pointer (some ⟨g, 0, none⟩) ∧ w.cell? ⟨g, 0, none⟩ = some (.slice A n c)
theorem LenIs.below {w w' : World} {v : Value} {n : Nat} (h : LenIs w v n) (b : Below w.heap.size w w') : LenIs w' v n := by
  rcases h with h | ⟨g, A, c, hv, hc⟩
  · exact .inl h
  · exact .inr ⟨g, A, c, hv, (b.cell (World.block_lt_of_cell? _ _ hc)).trans hc⟩
theorem Tr.len {w : World} {v : Value} {l : List Nod} (h : Tr w v l) : LenIs w v l.length := by
  obtain ⟨g, gn, ge, cn, ce, hv, h⟩ := h
  exact .inr ⟨g, _, _, hv, h.c0⟩
/-- what find says -/
def fndE (n : Nat) (k : Int) : Int := if n = 0 then 1 else if k < 0 ∨ (n : Int) ≤ k then 7 else 0
theorem fndE_in {n k : Nat} (h : k < n) : fndE n (k : Int) = 0 := by unfold fndE; rw [if_neg (by omega), if_neg (by omega)]
theorem fndE_out {n : Nat} {k : Int} (h : 0 < n) (hk : k < 0 ∨ (n : Int) ≤ k) : fndE n k = 7 := by unfold fndE; rw [if_neg (by omega), if_pos hk]
theorem fndE_zero (k : Int) : fndE 0 k = 1 := rfl
theorem fndE_cases (n : Nat) (k : Int) : fndE n k = 1 ∨ fndE n k = 7 ∨ (fndE n k = 0 ∧ 0 ≤ k ∧ k < n) := by
  unfold fndE
  split
  · exact .inl rfl
  · split
    · exact .inr (.inl rfl)
    · exact .inr (.inr ⟨rfl, by omega, by omega⟩)

set_option maxRecDepth 100000 in
set_option maxHeartbeats 1000000 in
theorem alen_any (v : Value) (n : Nat) (w : World) (h : LenIs w v n) :
    Calls Tryd.prog 31 #[v] w fun e w' => e = .returned (.int .i64 (n : Int)) ∧ w = w' := by
  rcases h with ⟨rfl, rfl⟩ | ⟨g, A, c, rfl, hc⟩
  · go_enter Tryd.func31, Tryd.ntmps31
    go_wp2_with fail
    go_ret
    exact ⟨rfl, rfl⟩
  · go_enter Tryd.func31, Tryd.ntmps31
    go_wp2_with fail
    go_ret
    exact ⟨rfl, rfl⟩

set_option maxRecDepth 100000 in
set_option maxHeartbeats 1000000 in
theorem afind_any (v : Value) (n : Nat) (k : Int) (w : World) (h : LenIs w v n) :
    Calls Tryd.prog 36 #[v, .int .i64 k] w fun e w' => e = .returned (.int .i64 (fndE n k)) ∧ w = w' := by
  have C := Lib.hid (alen_any v n w h)
  clear h
  by_cases h0 : n = 0
  · subst h0
    rw [fndE_zero]
    go_enter Tryd.func36, Tryd.ntmps36
    go_wp2_with fail
    refine C.out.mono ?_
    rintro e w2 ⟨rfl, rfl⟩
    go_wp2_with fail
    go_ret
    exact ⟨rfl, rfl⟩
  · have hn : ¬ (n : Int) = 0 := by omega
    by_cases h1 : k < 0
    · rw [fndE_out (by omega) (.inl h1)]
      go_enter Tryd.func36, Tryd.ntmps36
      go_wp2_with fail
      refine C.out.mono ?_
      rintro e w2 ⟨rfl, rfl⟩
      go_wp2_with fail
      go_ret
      exact ⟨rfl, rfl⟩
    · have h1' : 0 ≤ k := by omega
      have hf : fndE n k = if (n : Int) ≤ k then 7 else 0 := by
        unfold fndE
        rw [if_neg h0]
        by_cases h2 : (n : Int) ≤ k
        · rw [if_pos (.inr h2), if_pos h2]
        · rw [if_neg (by omega), if_neg h2]
      rw [hf]
      clear hf
      by_cases h2 : (n : Int) ≤ k
      · rw [if_pos h2]
        go_enter Tryd.func36, Tryd.ntmps36
        go_wp2_with fail
        refine C.out.mono ?_
        rintro e w2 ⟨rfl, rfl⟩
        go_wp2_with fail
        refine C.out.mono ?_
        rintro e w2 ⟨rfl, rfl⟩
        go_wp2_with fail
        go_ret
        exact ⟨rfl, rfl⟩
      · rw [if_neg h2]
        have h3 : k < (n : Int) := by omega
        clear h2
        go_enter Tryd.func36, Tryd.ntmps36
        go_wp2_with fail
        refine C.out.mono ?_
        rintro e w2 ⟨rfl, rfl⟩
        go_wp2_with fail
        refine C.out.mono ?_
        rintro e w2 ⟨rfl, rfl⟩
        go_wp2_with fail
        go_ret
        exact ⟨rfl, rfl⟩

set_option maxRecDepth 100000 in
set_option maxHeartbeats 1000000 in
theorem anode_no (v : Value) (n : Nat) (k : Int) (w : World) (h : LenIs w v n) (hf : fndE n k ≠ 0) :
    Calls Tryd.prog 11 #[v, .int .i64 k] w fun e w' => e = .returned (.tuple #[.agg Nod.zero.cells, .int .i64 (fndE n k)]) ∧ Below w.heap.size w w' := by
  have C : Hid (∀ W, Below w.heap.size w W → Calls Tryd.prog 36 #[v, .int .i64 k] W fun e w' => e = .returned (.int .i64 (fndE n k)) ∧ W = w') := fun W hW => afind_any v n k W (h.below hW)
  have bd : ∀ w : World, (Instr.build 37 #[]).run Tryd.prog w = .ok (.agg Nod.zero.cells) w := fun _ => by kernel_rfl
  have h1 := fndE_cases n k
  obtain ⟨f, hff⟩ : ∃ f, fndE n k = f := ⟨_, rfl⟩
  rw [hff] at C hf h1 ⊢
  clear h hff
  go_enter Tryd.func11, Tryd.ntmps11
  go_wp2_with (refine alNV rfl rfl ?_; intro w1 b1 B1)
  refine (C.out _ b1).mono ?_
  rintro e w2 ⟨rfl, rfl⟩
  go_wp2_with (refine stN rfl (.tmp 4) (.tmp 12) rfl rfl _ rfl .zero rfl .zero B1 ?_; intro w2 m2 B2)
  (try simp only [Exit.inBlock, Exit.then])
  refine ⟨rfl, _, res_row_tmp rfl _ _ w.heap.size 37 Nod.zero.cells _ rfl B2 uN rfl iN, ?_⟩
  exact ⟨rfl, b1.trans (m2.below b1.size (fun k hk => by omega))⟩

set_option maxRecDepth 100000 in
set_option maxHeartbeats 1000000 in
theorem anode_any (v : Value) (l : List Nod) (k : Nat) (x : Nod) (w : World) (h : Tr w v l) (hk : l[k]? = some x) :
    Calls Tryd.prog 11 #[v, .int .i64 (k : Int)] w fun e w' => e = .returned (.tuple #[.agg x.cells, .int .i64 0]) ∧ Below w.heap.size w w' := by
  have hkl : k < l.length := (List.getElem?_eq_some_iff.1 hk).1
  have C : Hid (∀ W, Below w.heap.size w W → Calls Tryd.prog 36 #[v, .int .i64 (k : Int)] W fun e w' => e = .returned (.int .i64 0) ∧ W = w') := fun W hW => by
    have := afind_any v l.length k W (h.len.below hW)
    rwa [fndE_in hkl] at this
  obtain ⟨g, gn, ge, cn, ce, rfl, hT⟩ := h
  have HT := Lib.hid hT
  have hL := hT.hn k x hk
  have HL := Lib.hid hL
  have hgn := hT.hgn
  obtain ⟨n, hn⟩ : ∃ n, l.length = n := ⟨_, rfl⟩
  have HC := Lib.hid hT.c0
  rw [hn] at HC hkl
  clear hT hk hL hn
  have hz : (k : Int) < n := by omega
  go_enter Tryd.func11, Tryd.ntmps11
  go_wp2_with (refine alNV rfl rfl ?_; intro w1 b1 B1; have c0 := (b1.cell (World.block_lt_of_cell? _ _ HC.out)).trans HC.out)
  refine (C.out _ b1).mono ?_
  rintro e w2 ⟨rfl, rfl⟩
  have L1 := HL.out.below b1
  go_wp2_with (first
    | (refine ldN rfl (.tmp 19) rfl _ rfl x L1 ?_)
    | (refine stN rfl (.tmp 4) (.tmp 20) rfl rfl _ rfl x rfl .zero B1 ?_; intro w2 m2 B2))
  (try simp only [Exit.inBlock, Exit.then])
  refine ⟨rfl, _, res_row_tmp rfl _ _ w.heap.size 37 x.cells _ rfl B2 uN rfl iN, ?_⟩
  exact ⟨rfl, b1.trans (m2.below b1.size (fun k hk => by omega))⟩

set_option maxRecDepth 100000 in
set_option maxHeartbeats 1000000 in
theorem aend_no (v : Value) (n : Nat) (k : Int) (w : World) (h : LenIs w v n) (hf : fndE n k ≠ 0) :
    Calls Tryd.prog 13 #[v, .int .i64 k] w fun e w' => e = .returned (.tuple #[.int .i64 0, .int .i64 (fndE n k)]) ∧ w = w' := by
  have C := Lib.hid (afind_any v n k w h)
  obtain ⟨f, hff⟩ : ∃ f, fndE n k = f := ⟨_, rfl⟩
  rw [hff] at C hf ⊢
  clear h hff
  go_enter Tryd.func13, Tryd.ntmps13
  go_wp2_with fail
  refine C.out.mono ?_
  rintro e w2 ⟨rfl, rfl⟩
  go_wp2_with fail
  go_ret2
  exact ⟨rfl, rfl⟩

set_option maxRecDepth 100000 in
set_option maxHeartbeats 1000000 in
theorem aend_any (v : Value) (l : List Nod) (k : Nat) (en : Nat) (w : World) (h : Tr w v l) (hk : k < l.length) (hE : EndOf (psOf l) k en) :
    Calls Tryd.prog 13 #[v, .int .i64 (k : Int)] w fun e w' => e = .returned (.tuple #[.int .i64 (en : Int), .int .i64 0]) ∧ w = w' := by
  have C := Lib.hid (afind_any v l.length k w h.len)
  rw [fndE_in hk] at C
  obtain ⟨g, gn, ge, cn, ce, rfl, hT⟩ := h
  obtain ⟨e2, he, hc⟩ := hT.he k hk
  obtain rfl := hE.uniq he
  have c1 := hT.c1
  obtain ⟨n, hn⟩ : ∃ n, l.length = n := ⟨_, rfl⟩
  rw [hn] at c1 hk
  clear hT hE he hn
  have hz : (k : Int) < n := by omega
  go_enter Tryd.func13, Tryd.ntmps13
  go_wp2_with fail
  refine C.out.mono ?_
  rintro e w2 ⟨rfl, rfl⟩
  go_wp2_with fail
  go_ret2
  exact ⟨rfl, rfl⟩

/-! ### Common -/
def or2 (a b : Int) : Int := if a = 0 then b else a

set_option maxRecDepth 100000 in
set_option maxHeartbeats 1000000 in
theorem cor_any (g : Nat) (a b : Int) (w : World) (hB : Blk w g 26 #[.int .i64 a, .int .i64 b]) :
    Calls Tryd.prog 39 #[.slice (some ⟨g, 0, none⟩) 2 2] w fun e w' => e = .returned (.int .i64 (or2 a b)) ∧ w = w' := by
  have c0 : w.cell? ⟨g, 0, none⟩ = some (.int .i64 a) := hB.cell 0
  have c1 : w.cell? ⟨g, 1, none⟩ = some (.int .i64 b) := hB.cell 1
  clear hB
  go_enter Tryd.func39, Tryd.ntmps39
  go_wp2_with fail
  go_loopg [8] 2 (fun kx s8 wr => w = wr ∧ ∃ k : Nat, s8 = .int .i64 k ∧ k ≤ 2 ∧ kx = 2 - k ∧ (0 < k → a = 0) ∧ (1 < k → b = 0))
  case atStart => exact ⟨rfl, 0, rfl, by omega, rfl, fun h => by omega, fun h => by omega⟩
  case round =>
    obtain ⟨rfl, k, rfl, hk, rfl, h1, h2⟩ := hrel
    have : k = 0 ∨ k = 1 ∨ k = 2 := by omega
    rcases this with rfl | rfl | rfl
    · clear h1 h2
      by_cases ha : a = 0
      · go_wp2_with fail
        go_roundg 1
        case measure => omega
        case rel => exact ⟨rfl, 1, rfl, by omega, rfl, fun _ => ha, fun h => by omega⟩
      · have e : Hid (or2 a b = a) := if_neg ha
        go_wp2_with fail
        go_ret
        exact ⟨ret1 e.out.symm, rfl⟩
    · obtain rfl := h1 (by omega)
      have e : Hid (or2 0 b = b) := if_pos rfl
      clear h1 h2
      by_cases hb : b = 0
      · go_wp2_with fail
        go_roundg 0
        case measure => omega
        case rel => exact ⟨rfl, 2, rfl, by omega, rfl, fun _ => (by simp), fun _ => hb⟩
      · go_wp2_with fail
        go_ret
        exact ⟨ret1 e.out.symm, rfl⟩
    · obtain rfl := h1 (by omega)
      obtain rfl := h2 (by omega)
      clear h1 h2
      go_wp2_with fail
      go_ret
      exact ⟨rfl, rfl⟩

theorem bs2 (a b : Int) (w : World) : (Instr.buildSlice 92 2 #[(0, .int .i64 a), (1, .int .i64 b)]).run Tryd.prog w = .ok (.slice (some ⟨w.heap.size, 0, none⟩) 2 2) (w.alloc (.cells #[.int .i64 a, .int .i64 b] 26)) := by kernel_rfl

set_option maxRecDepth 100000 in
set_option maxHeartbeats 1000000 in
theorem acommon_no (v : Value) (n : Nat) (a b : Int) (w : World) (h : LenIs w v n) (hf : or2 (fndE n a) (fndE n b) ≠ 0) :
    Calls Tryd.prog 16 #[v, .int .i64 a, .int .i64 b] w fun e w' => e = .returned (.tuple #[.int .i64 0, .int .i64 (or2 (fndE n a) (fndE n b))]) ∧ Below w.heap.size w w' := by
  have C1 := Lib.hid (afind_any v n a w h)
  have C2 := Lib.hid (afind_any v n b w h)
  have C3 := Lib.hid (fun g W => cor_any g (fndE n a) (fndE n b) W)
  obtain ⟨x, hx⟩ : ∃ x, fndE n a = x := ⟨_, rfl⟩
  obtain ⟨y, hy⟩ : ∃ q, fndE n b = q := ⟨_, rfl⟩
  obtain ⟨z, hz⟩ : ∃ q, or2 x y = q := ⟨_, rfl⟩
  rw [hx] at C1 C3 hf ⊢
  rw [hy] at C2 C3 hf ⊢
  rw [hz] at C3 hf ⊢
  have hb2 := bs2 x y
  clear h hx hy hz
  go_enter Tryd.func16, Tryd.ntmps16
  go_wp2_with fail
  refine C1.out.mono ?_
  rintro e w2 ⟨rfl, rfl⟩
  go_wp2_with fail
  refine C2.out.mono ?_
  rintro e w2 ⟨rfl, rfl⟩
  go_wp2_with fail
  refine (C3.out _ _ (Blk.new _ _ _)).mono ?_
  rintro e w2 ⟨rfl, rfl⟩
  go_wp2_with fail
  go_ret2
  exact ⟨rfl, below_alloc _ _⟩

set_option maxRecDepth 100000 in
set_option maxHeartbeats 2000000 in
theorem acommon_lt (v : Value) (l : List Nod) (a b : Nat) (w : World) (h : Tr w v l) (hT : Tre (psOf l)) (hab : a < b) (hhn : b < l.length) :
    Calls Tryd.prog 16 #[v, .int .i64 (a : Int), .int .i64 (b : Int)] w fun e w' => ∃ c : Nat, e = .returned (.tuple #[.int .i64 (c : Int), .int .i64 0]) ∧ Com (psOf l) a b c ∧ Below w.heap.size w w' := by
  have hba : ¬ b < a := by omega
  have hll : a ≤ b := by omega
  have hlz : a < l.length := by omega
  have C1 := Lib.hid (afind_any v l.length a w h.len)
  have C2 := Lib.hid (afind_any v l.length b w h.len)
  have C3 := Lib.hid (fun g W => cor_any g 0 0 W)
  have e0 : or2 0 0 = 0 := rfl
  rw [fndE_in (by omega)] at C1 C2
  rw [e0] at C3
  clear e0
  have HTr := Lib.hid hT
  obtain ⟨g, gn, ge, cn, ce, rfl, hTA⟩ := h
  have HTA := Lib.hid (hTA.below (below_alloc w (.cells #[.int .i64 0, .int .i64 0] 26)))
  obtain ⟨n, hl⟩ : ∃ n, l.length = n := ⟨_, rfl⟩
  have HL := Lib.hid hl
  rw [hl] at hhn
  have hb2 := bs2 0 0
  clear hT hTA hl hlz
  go_enter Tryd.func16, Tryd.ntmps16
  go_wp2_with fail
  refine C1.out.mono ?_
  rintro e w2 ⟨rfl, rfl⟩
  go_wp2_with fail
  refine C2.out.mono ?_
  rintro e w2 ⟨rfl, rfl⟩
  go_wp2_with fail
  refine (C3.out _ _ (Blk.new _ _ _)).mono ?_
  rintro e w2 ⟨rfl, rfl⟩
  obtain ⟨w1, hw1⟩ : ∃ w1, w.alloc (.cells #[.int .i64 0, .int .i64 0] 26) = w1 := ⟨_, rfl⟩
  have b1 : Below w.heap.size w w1 := hw1 ▸ below_alloc _ _
  rw [hw1] at HTA ⊢
  clear hw1 hb2 C1 C2 C3
  go_wp2_with fail
  go_loopg [9] (a + 1) (fun kx s9 wr => w1 = wr ∧ ∃ k : Nat, s9 = .int .i64 k ∧ k ≤ b ∧ kx = k + 1 ∧ Hid (∀ c, Com (psOf l) k b c → Com (psOf l) a b c))
  case atStart => exact ⟨rfl, a, rfl, hll, rfl, Lib.hid fun _ h => h⟩
  case round =>
    obtain ⟨rfl, k, rfl, hk, rfl, HI_⟩ := hrel
    have hkl : k < l.length := by rw [HL.out]; omega
    obtain ⟨en, hE, ce1⟩ := HTA.out.he k hkl
    have c1 := HTA.out.c1
    have c0 := HTA.out.c0
    rw [HL.out] at c1 c0
    have hz : (k : Int) < n := by omega
    have HE := Lib.hid hE
    clear hE
    by_cases hlt : b < en
    · have hle : ¬ (en : Int) ≤ b := by omega
      have FIN := Lib.hid (HI_.out k (Com.self (HE.out.all b hk hlt)))
      clear HI_ HE
      go_wp2_with fail
      go_ret2
      exact ⟨k, rfl, FIN.out, b1⟩
    · have hle : (en : Int) ≤ b := by omega
      have hnab : ¬ Abv (psOf l) k b := fun h => by
        have := ((HE.out.out HTr.out (by rw [psOf_len, HL.out]; exact hhn)).1 h).2
        omega
      obtain ⟨x, hx⟩ := at_of hkl
      have hpr := pr_of hx
      have h0 : 0 ≤ x.p := by
        rcases Nat.eq_zero_or_pos k with rfl | hk0
        · exact absurd (Abv.root HTr.out b (by rw [psOf_len, HL.out]; exact hhn)) hnab
        · have := (HTr.out.par k hk0 (by rw [psOf_len]; exact hkl)).1
          omega
      obtain ⟨q1, q2⟩ := par_bd HTr.out hx
      have hLi := HTA.out.hn k x hx
      have hc := hLi.p
      have b' : Hid (∀ c, Com (psOf l) x.p.toNat b c → Com (psOf l) a b c) := Lib.hid fun c h => HI_.out c (Com.up (by rw [hpr]; exact h0) hnab (by rw [hpr]; exact h))
      obtain ⟨p, hp⟩ : ∃ p, x.p = p := ⟨_, rfl⟩
      rw [hp] at q1 q2 hc b' h0
      obtain ⟨m, rfl⟩ : ∃ m : Nat, p = m := ⟨p.toNat, by omega⟩
      rw [Int.toNat_natCast] at b'
      clear HI_ hLi hpr hx hp hnab q1 HE
      go_wp2_with fail
      go_roundg (m + 1)
      case measure => omega
      case rel => exact ⟨rfl, m, rfl, by omega, rfl, b'⟩

set_option maxRecDepth 100000 in
set_option maxHeartbeats 2000000 in
theorem acommon_gt (v : Value) (l : List Nod) (a b : Nat) (w : World) (h : Tr w v l) (hT : Tre (psOf l)) (hab : b < a) (hhn : a < l.length) :
    Calls Tryd.prog 16 #[v, .int .i64 (a : Int), .int .i64 (b : Int)] w fun e w' => ∃ c : Nat, e = .returned (.tuple #[.int .i64 (c : Int), .int .i64 0]) ∧ Com (psOf l) b a c ∧ Below w.heap.size w w' := by
  have hba : ¬ a < b := by omega
  have hll : b ≤ a := by omega
  have hlz : b < l.length := by omega
  have C1 := Lib.hid (afind_any v l.length a w h.len)
  have C2 := Lib.hid (afind_any v l.length b w h.len)
  have C3 := Lib.hid (fun g W => cor_any g 0 0 W)
  have e0 : or2 0 0 = 0 := rfl
  rw [fndE_in (by omega)] at C1 C2
  rw [e0] at C3
  clear e0
  have HTr := Lib.hid hT
  obtain ⟨g, gn, ge, cn, ce, rfl, hTA⟩ := h
  have HTA := Lib.hid (hTA.below (below_alloc w (.cells #[.int .i64 0, .int .i64 0] 26)))
  obtain ⟨n, hl⟩ : ∃ n, l.length = n := ⟨_, rfl⟩
  have HL := Lib.hid hl
  rw [hl] at hhn
  have hb2 := bs2 0 0
  clear hT hTA hl hlz
  go_enter Tryd.func16, Tryd.ntmps16
  go_wp2_with fail
  refine C1.out.mono ?_
  rintro e w2 ⟨rfl, rfl⟩
  go_wp2_with fail
  refine C2.out.mono ?_
  rintro e w2 ⟨rfl, rfl⟩
  go_wp2_with fail
  refine (C3.out _ _ (Blk.new _ _ _)).mono ?_
  rintro e w2 ⟨rfl, rfl⟩
  obtain ⟨w1, hw1⟩ : ∃ w1, w.alloc (.cells #[.int .i64 0, .int .i64 0] 26) = w1 := ⟨_, rfl⟩
  have b1 : Below w.heap.size w w1 := hw1 ▸ below_alloc _ _
  rw [hw1] at HTA ⊢
  clear hw1 hb2 C1 C2 C3
  go_wp2_with fail
  go_loopg [9] (b + 1) (fun kx s9 wr => w1 = wr ∧ ∃ k : Nat, s9 = .int .i64 k ∧ k ≤ a ∧ kx = k + 1 ∧ Hid (∀ c, Com (psOf l) k a c → Com (psOf l) b a c))
  case atStart => exact ⟨rfl, b, rfl, hll, rfl, Lib.hid fun _ h => h⟩
  case round =>
    obtain ⟨rfl, k, rfl, hk, rfl, HI_⟩ := hrel
    have hkl : k < l.length := by rw [HL.out]; omega
    obtain ⟨en, hE, ce1⟩ := HTA.out.he k hkl
    have c1 := HTA.out.c1
    have c0 := HTA.out.c0
    rw [HL.out] at c1 c0
    have hz : (k : Int) < n := by omega
    have HE := Lib.hid hE
    clear hE
    by_cases hlt : a < en
    · have hle : ¬ (en : Int) ≤ a := by omega
      have FIN := Lib.hid (HI_.out k (Com.self (HE.out.all a hk hlt)))
      clear HI_ HE
      go_wp2_with fail
      go_ret2
      exact ⟨k, rfl, FIN.out, b1⟩
    · have hle : (en : Int) ≤ a := by omega
      have hnab : ¬ Abv (psOf l) k a := fun h => by
        have := ((HE.out.out HTr.out (by rw [psOf_len, HL.out]; exact hhn)).1 h).2
        omega
      obtain ⟨x, hx⟩ := at_of hkl
      have hpr := pr_of hx
      have h0 : 0 ≤ x.p := by
        rcases Nat.eq_zero_or_pos k with rfl | hk0
        · exact absurd (Abv.root HTr.out a (by rw [psOf_len, HL.out]; exact hhn)) hnab
        · have := (HTr.out.par k hk0 (by rw [psOf_len]; exact hkl)).1
          omega
      obtain ⟨q1, q2⟩ := par_bd HTr.out hx
      have hLi := HTA.out.hn k x hx
      have hc := hLi.p
      have a' : Hid (∀ c, Com (psOf l) x.p.toNat a c → Com (psOf l) b a c) := Lib.hid fun c h => HI_.out c (Com.up (by rw [hpr]; exact h0) hnab (by rw [hpr]; exact h))
      obtain ⟨p, hp⟩ : ∃ p, x.p = p := ⟨_, rfl⟩
      rw [hp] at q1 q2 hc a' h0
      obtain ⟨m, rfl⟩ : ∃ m : Nat, p = m := ⟨p.toNat, by omega⟩
      rw [Int.toNat_natCast] at a'
      clear HI_ hLi hpr hx hp hnab q1 HE
      go_wp2_with fail
      go_roundg (m + 1)
      case measure => omega
      case rel => exact ⟨rfl, m, rfl, by omega, rfl, a'⟩

set_option maxRecDepth 100000 in
set_option maxHeartbeats 2000000 in
theorem acommon_eq (v : Value) (l : List Nod) (a : Nat) (w : World) (h : Tr w v l) (hT : Tre (psOf l)) (hhn : a < l.length) :
    Calls Tryd.prog 16 #[v, .int .i64 (a : Int), .int .i64 (a : Int)] w fun e w' => ∃ c : Nat, e = .returned (.tuple #[.int .i64 (c : Int), .int .i64 0]) ∧ Com (psOf l) a a c ∧ Below w.heap.size w w' := by
  have C1 := Lib.hid (afind_any v l.length a w h.len)
  have C2 := Lib.hid (afind_any v l.length a w h.len)
  have C3 := Lib.hid (fun g W => cor_any g 0 0 W)
  have e0 : or2 0 0 = 0 := rfl
  rw [fndE_in (by omega)] at C1 C2
  rw [e0] at C3
  clear e0
  have HTr := Lib.hid hT
  obtain ⟨g, gn, ge, cn, ce, rfl, hTA⟩ := h
  have HTA := Lib.hid (hTA.below (below_alloc w (.cells #[.int .i64 0, .int .i64 0] 26)))
  obtain ⟨n, hl⟩ : ∃ n, l.length = n := ⟨_, rfl⟩
  have HL := Lib.hid hl
  rw [hl] at hhn
  have hb2 := bs2 0 0
  clear hT hTA hl
  go_enter Tryd.func16, Tryd.ntmps16
  go_wp2_with fail
  refine C1.out.mono ?_
  rintro e w2 ⟨rfl, rfl⟩
  go_wp2_with fail
  refine C2.out.mono ?_
  rintro e w2 ⟨rfl, rfl⟩
  go_wp2_with fail
  refine (C3.out _ _ (Blk.new _ _ _)).mono ?_
  rintro e w2 ⟨rfl, rfl⟩
  obtain ⟨w1, hw1⟩ : ∃ w1, w.alloc (.cells #[.int .i64 0, .int .i64 0] 26) = w1 := ⟨_, rfl⟩
  have b1 : Below w.heap.size w w1 := hw1 ▸ below_alloc _ _
  rw [hw1] at HTA ⊢
  clear hw1 hb2 C1 C2 C3
  go_wp2_with fail
  go_loopg [9] (a + 1) (fun kx s9 wr => w1 = wr ∧ ∃ k : Nat, s9 = .int .i64 k ∧ k ≤ a ∧ kx = k + 1 ∧ Hid (∀ c, Com (psOf l) k a c → Com (psOf l) a a c))
  case atStart => exact ⟨rfl, a, rfl, Nat.le_refl _, rfl, Lib.hid fun _ h => h⟩
  case round =>
    obtain ⟨rfl, k, rfl, hk, rfl, HI_⟩ := hrel
    have hkl : k < l.length := by rw [HL.out]; omega
    obtain ⟨en, hE, ce1⟩ := HTA.out.he k hkl
    have c1 := HTA.out.c1
    have c0 := HTA.out.c0
    rw [HL.out] at c1 c0
    have hz : (k : Int) < n := by omega
    have HE := Lib.hid hE
    clear hE
    by_cases hlt : a < en
    · have hle : ¬ (en : Int) ≤ a := by omega
      have FIN := Lib.hid (HI_.out k (Com.self (HE.out.all a hk hlt)))
      clear HI_ HE
      go_wp2_with fail
      go_ret2
      exact ⟨k, rfl, FIN.out, b1⟩
    · have hle : (en : Int) ≤ a := by omega
      have hnab : ¬ Abv (psOf l) k a := fun h => by
        have := ((HE.out.out HTr.out (by rw [psOf_len, HL.out]; exact hhn)).1 h).2
        omega
      obtain ⟨x, hx⟩ := at_of hkl
      have hpr := pr_of hx
      have h0 : 0 ≤ x.p := by
        rcases Nat.eq_zero_or_pos k with rfl | hk0
        · exact absurd (Abv.root HTr.out a (by rw [psOf_len, HL.out]; exact hhn)) hnab
        · have := (HTr.out.par k hk0 (by rw [psOf_len]; exact hkl)).1
          omega
      obtain ⟨q1, q2⟩ := par_bd HTr.out hx
      have hLi := HTA.out.hn k x hx
      have hc := hLi.p
      have a' : Hid (∀ c, Com (psOf l) x.p.toNat a c → Com (psOf l) a a c) := Lib.hid fun c h => HI_.out c (Com.up (by rw [hpr]; exact h0) hnab (by rw [hpr]; exact h))
      obtain ⟨p, hp⟩ : ∃ p, x.p = p := ⟨_, rfl⟩
      rw [hp] at q1 q2 hc a' h0
      obtain ⟨m, rfl⟩ : ∃ m : Nat, p = m := ⟨p.toNat, by omega⟩
      rw [Int.toNat_natCast] at a'
      clear HI_ hLi hpr hx hp hnab q1 HE
      go_wp2_with fail
      go_roundg (m + 1)
      case measure => omega
      case rel => exact ⟨rfl, m, rfl, by omega, rfl, a'⟩

theorem acommon_any (v : Value) (l : List Nod) (a b : Nat) (w : World) (h : Tr w v l) (hT : Tre (psOf l)) (ha : a < l.length) (hb : b < l.length) :
    Calls Tryd.prog 16 #[v, .int .i64 (a : Int), .int .i64 (b : Int)] w fun e w' => ∃ c : Nat, e = .returned (.tuple #[.int .i64 (c : Int), .int .i64 0]) ∧ Com (psOf l) a b c ∧ Below w.heap.size w w' := by
  rcases Nat.lt_trichotomy a b with hab | rfl | hab
  · exact acommon_lt v l a b w h hT hab hb
  · exact acommon_eq v l a w h hT ha
  · exact (acommon_gt v l a b w h hT hab ha).mono fun e w' ⟨c, he, hc, hw⟩ => ⟨c, he, hc.symm, hw⟩
end Go.Proofs.YtgpobhnonjdamaaDoor
