/- Contract of head (package stickfullaw07): the calls whose answers are known. Condition: the tables lie as the program's text lays them. -/
import Derived.Test.YtgpobhnonjdamaaDoorArNewB
import Derived.Test.YtgpobhnonjdamaaDoorArRef1
namespace Go.Proofs.YtgpobhnonjdamaaDoor
open Go.ChangeShapes Go.WideShapes Go.ChangeAt Go.RowKit

theorem abv_iff {ps : List Int} (h : Tre ps) (a : Nat) : ∀ b, Abv ps a b ↔ a = b ∨ a ∈ ups ps b := by
  intro b
  induction b using Nat.strongRecOn with
  | ind b ih =>
    by_cases h0 : 0 ≤ pr ps b
    · have hl := (h.lt b h0).1
      rw [ups_step h h0, List.mem_cons]
      constructor
      · intro hA
        by_cases e : a = b
        · exact .inl e
        · exact .inr ((ih _ hl).1 (hA.parent e).2)
      · rintro (rfl | h1)
        · exact .refl
        · exact .up h0 ((ih _ hl).2 h1)
    · rw [ups_root (by omega)]
      constructor
      · intro hA
        by_cases e : a = b
        · exact .inl e
        · exact absurd (hA.parent e).1 h0
      · rintro (rfl | h1)
        · exact .refl
        · cases h1

def exL : List Nod := [{ Nod.zero with p := -1 }, { Nod.zero with k := 2 }, { Nod.zero with k := 1, p := 1 }, { Nod.zero with k := 4, p := 1, wd := -1 }, { Nod.zero with k := 1, p := 3 }, { Nod.zero with k := 1 }]
def exB : List Nod := [{ Nod.zero with p := -1 }, { Nod.zero with k := 1 }, { Nod.zero with k := 1, p := 1 }]
def exC : List Nod := [{ Nod.zero with p := -1 }, { Nod.zero with k := 2, wd := 1 }]
theorem ex_chk : chkT exL = 0 := by decide +kernel
theorem ex_chkN : chkT [] = 70 := by decide +kernel
theorem ex_chkB : chkT exB = 70 := by decide +kernel
theorem ex_chkC : chkT exC = 2 := by decide +kernel
theorem ex_tre : Tre (psOf exL) := ((good_iff exL).1 ex_chk).tre
theorem ex_kids0 : kidsL (psOf exL) 0 = [1, 5] := by decide +kernel
theorem ex_kids1 : kidsL (psOf exL) 1 = [2, 3] := by decide +kernel
theorem ex_ups : ups (psOf exL) 1 = [0] ∧ ups (psOf exL) 2 = [1, 0] ∧ ups (psOf exL) 3 = [1, 0] ∧ ups (psOf exL) 4 = [3, 1, 0] ∧ ups (psOf exL) 5 = [0] := by decide +kernel
theorem ex_ctx2 : ctx exL 2 = 0 := by decide +kernel
theorem ex_ctx4 : ctx exL 4 = 3 := by decide +kernel
theorem ex_dep4 : dep (psOf exL) 4 = 3 := by decide +kernel
theorem ex_end1 : EndOf (psOf exL) 1 5 := by
  obtain ⟨u1, u2, u3, u4, u5⟩ := ex_ups
  refine ⟨by omega, by decide, fun b h1 h2 => ?_, fun _ => ?_⟩
  · rw [abv_iff ex_tre]
    rcases (show b = 1 ∨ b = 2 ∨ b = 3 ∨ b = 4 by omega) with rfl | rfl | rfl | rfl
    · exact .inl rfl
    · rw [u2]; decide
    · rw [u3]; decide
    · rw [u4]; decide
  · rw [abv_iff ex_tre, u5]
    decide
theorem ex_com : Com (psOf exL) 2 4 1 := by
  obtain ⟨u1, u2, u3, u4, u5⟩ := ex_ups
  refine ⟨?_, ?_, fun x h1 h2 => ?_⟩
  · rw [abv_iff ex_tre, u2]; decide
  · rw [abv_iff ex_tre, u4]; decide
  · rw [abv_iff ex_tre, u2] at h1
    rw [abv_iff ex_tre, u4] at h2
    rw [abv_iff ex_tre, u1]
    simp at h1 h2 ⊢
    omega
theorem ex_com2 : Com (psOf exL) 4 5 0 := by
  obtain ⟨u1, u2, u3, u4, u5⟩ := ex_ups
  refine ⟨?_, ?_, fun x h1 h2 => ?_⟩
  · rw [abv_iff ex_tre, u4]; decide
  · rw [abv_iff ex_tre, u5]; decide
  · rw [abv_iff ex_tre, u4] at h1
    rw [abv_iff ex_tre, u5] at h2
    rw [abv_iff ex_tre, ups_root (by rw [ex_tre.root]; omega)]
    simp at h1 h2 ⊢
    omega
theorem wf_ex {l : List Nod} (h : (l.all fun x => decide (0 ≤ x.k) && decide (x.k ≤ 255) && decide (x.d.n < 65536) && decide (x.t.size ≤ 9223372036854775807) && decide (0 ≤ x.vk)) = true) : WfL l := fun i x hx => by
  have := List.all_eq_true.1 h x (List.mem_of_getElem? hx)
  simp only [Bool.and_eq_true, decide_eq_true_eq] at this
  obtain ⟨⟨⟨⟨h1, h2⟩, h3⟩, h4⟩, h5⟩ := this
  exact ⟨h1, h2, h3, h4, h5⟩
theorem Blk.row {w : World} {g n c : Nat} {t : TypeId} {cs : Array Value} {xs : List Value} (h : Blk w g t cs) (hx : cs.toList = xs) (hn : xs.length = n) : Row (fun _ => False) w (.slice (some ⟨g, 0, none⟩) n c) xs := by
  subst hn
  refine .inr ⟨_, c, rfl, .inr ⟨h.lt, id⟩, fun j u hu => h.lies j u ?_⟩
  rw [← hx] at hu
  simpa using hu
theorem Blk.ns {w : World} {g n c : Nat} {t : TypeId} {cs : Array Value} {l : List Nod} (h : Blk w g t cs) (hx : cs.toList = flatN l) (hn : l.length = n) : Ns w (.slice (some ⟨g, 0, none⟩) n c) l := by
  subst hn
  refine .inr ⟨_, c, by rw [List.length_map], .inr ⟨h.lt, id⟩, fun i x hi j u hu => h.lies _ u ?_⟩
  have := flat_get 22 _ (fun x hx => by obtain ⟨d, _, rfl⟩ := List.mem_map.1 hx; rfl) i x hi j u hu
  unfold flatN at hx
  rw [← hx] at this
  simpa using this

set_option maxRecDepth 100000 in
set_option maxHeartbeats 4000000 in
theorem example_any (w : World) :
    Calls Tryd.prog 32 #[] w fun e w' => ∃ v, e = .returned v ∧ Ns w' v exL ∧ Below w.heap.size w w' := by
  go_enter Tryd.func32, Tryd.ntmps32
  go_wp2_with fail
  go_ret
  exact ⟨_, rfl, Blk.ns (Blk.new w 37 _) rfl rfl, below_alloc w _⟩

set_option maxRecDepth 100000 in
set_option maxHeartbeats 16000000 in
theorem head_any (w : World) (hTab : Tab w) :
    Calls Tryd.prog 9 #[] w fun e w' => e = .returned (.bool true) ∧ Below w.heap.size w w' := by
  have CX := Lib.hid (example_any w)
  have hTp := hTab.pos
  have CN : Hid (∀ (W : World) (v : Value), Below w.heap.size w W → Ns W v exL → Calls Tryd.prog 10 #[v] W (NewPost W exL)) := Lib.hid fun W v b h => anew_any exL v W h (wf_ex (by decide +kernel)) (hTab.below hTp b)
  have KN : Hid (∀ W : World, Below w.heap.size w W → Calls Tryd.prog 30 #[.slice none 0 0] W fun e w' => e = .returned (.int .i64 70) ∧ Below W.heap.size W w') := Lib.hid fun W b => by
    have := acheck_any [] (.slice none 0 0) W (.inl ⟨rfl, rfl⟩) (wf_ex rfl) (hTab.below hTp b)
    rwa [ex_chkN] at this
  have KB : Hid (∀ (W : World) (v : Value), Below w.heap.size w W → Ns W v exB → Calls Tryd.prog 30 #[v] W fun e w' => e = .returned (.int .i64 70) ∧ Below W.heap.size W w') := Lib.hid fun W v b h => by
    have := acheck_any exB v W h (wf_ex (by decide +kernel)) (hTab.below hTp b)
    rwa [ex_chkB] at this
  have KC : Hid (∀ (W : World) (v : Value), Below w.heap.size w W → Ns W v exC → Calls Tryd.prog 30 #[v] W fun e w' => e = .returned (.int .i64 2) ∧ Below W.heap.size W w') := Lib.hid fun W v b h => by
    have := acheck_any exC v W h (wf_ex (by decide +kernel)) (hTab.below hTp b)
    rwa [ex_chkC] at this
  have HTB := Lib.hid hTab
  clear hTab
  go_enter Tryd.func9, Tryd.ntmps9
  go_wp2_with fail
  refine CX.out.mono ?_
  rintro e w1 ⟨v, rfl, hN, b1⟩
  go_wp2_with fail
  refine (CN.out w1 v b1 hN).mono ?_
  rintro e w2 (⟨_, p, rfl, hTr, b2⟩ | ⟨hne, _⟩)
  rotate_left
  · exact absurd ex_chk hne
  have b02 := below_seq b1 b2
  obtain ⟨g, rfl⟩ : ∃ g, p = .pointer (some ⟨g, 0, none⟩) := by obtain ⟨g, _, _, _, _, h, _⟩ := hTr; exact ⟨g, h⟩
  have T2 := HTB.out.below hTp b02
  have C0 : Hid (∀ W, Below w2.heap.size w2 W → Calls Tryd.prog 14 #[.pointer (some ⟨g, 0, none⟩), .int .i64 0] W fun e w' => ∃ u, e = .returned (.tuple #[u, .int .i64 0]) ∧ Row (fun _ => False) w' u ([1, 5].map iv) ∧ Below W.heap.size W w') := Lib.hid fun W b => by
    have := akids_any _ exL 0 W (hTr.below b) ex_tre (by decide) (by decide)
    rwa [ex_kids0] at this
  have C1 : Hid (∀ W, Below w2.heap.size w2 W → Calls Tryd.prog 14 #[.pointer (some ⟨g, 0, none⟩), .int .i64 1] W fun e w' => ∃ u, e = .returned (.tuple #[u, .int .i64 0]) ∧ Row (fun _ => False) w' u ([2, 3].map iv) ∧ Below W.heap.size W w') := Lib.hid fun W b => by
    have := akids_any _ exL 1 W (hTr.below b) ex_tre (by decide) (by decide)
    rwa [ex_kids1] at this
  have C2 : Hid (∀ W, Below w2.heap.size w2 W → Calls Tryd.prog 13 #[.pointer (some ⟨g, 0, none⟩), .int .i64 1] W fun e w' => e = .returned (.tuple #[.int .i64 5, .int .i64 0]) ∧ Below W.heap.size W w') := Lib.hid fun W b =>
    (aend_any _ exL 1 5 W (hTr.below b) (by decide) ex_end1).mono fun e w' ⟨he, hw⟩ => ⟨he, hw ▸ Below.refl _ _⟩
  have C3 : Hid (∀ W, Below w2.heap.size w2 W → Calls Tryd.prog 12 #[.pointer (some ⟨g, 0, none⟩), .int .i64 4] W fun e w' => e = .returned (.tuple #[.int .i64 3, .int .i64 0]) ∧ Below W.heap.size W w') := Lib.hid fun W b => by
    have := adepth_any _ exL 4 W (hTr.below b) ex_tre (by decide) (by decide)
    rwa [ex_dep4] at this
  have hk8 : ∀ (i : Nat) (x : Nod), exL[i]? = some x → 0 ≤ x.k ∧ x.k ≤ 8 := fun i x h => by
    have := List.all_eq_true.1 (show (exL.all fun x => decide (0 ≤ x.k) && decide (x.k ≤ 8)) = true by decide +kernel) x (List.mem_of_getElem? h)
    simpa using this
  have C4 : Hid (∀ W, Below w2.heap.size w2 W → Calls Tryd.prog 15 #[.pointer (some ⟨g, 0, none⟩), .int .i64 2] W fun e w' => e = .returned (.tuple #[.int .i64 0, .int .i64 0]) ∧ Below W.heap.size W w') := Lib.hid fun W b => by
    have := actx_any _ exL 2 W (hTr.below b) ex_tre (by decide) (T2.below T2.pos b) hk8 rfl
    rwa [ex_ctx2] at this
  have C5 : Hid (∀ W, Below w2.heap.size w2 W → Calls Tryd.prog 15 #[.pointer (some ⟨g, 0, none⟩), .int .i64 4] W fun e w' => e = .returned (.tuple #[.int .i64 3, .int .i64 0]) ∧ Below W.heap.size W w') := Lib.hid fun W b => by
    have := actx_any _ exL 4 W (hTr.below b) ex_tre (by decide) (T2.below T2.pos b) hk8 rfl
    rwa [ex_ctx4] at this
  have C6 : Hid (∀ W, Below w2.heap.size w2 W → Calls Tryd.prog 16 #[.pointer (some ⟨g, 0, none⟩), .int .i64 2, .int .i64 4] W fun e w' => e = .returned (.tuple #[.int .i64 1, .int .i64 0]) ∧ Below W.heap.size W w') := Lib.hid fun W b =>
    (acommon_any _ exL 2 4 W (hTr.below b) ex_tre (by decide) (by decide)).mono fun e w' ⟨c, he, hc, hb⟩ => by
      obtain rfl := hc.uniq ex_tre ex_com
      exact ⟨he, hb⟩
  have C7 : Hid (∀ W, Below w2.heap.size w2 W → Calls Tryd.prog 16 #[.pointer (some ⟨g, 0, none⟩), .int .i64 4, .int .i64 5] W fun e w' => e = .returned (.tuple #[.int .i64 0, .int .i64 0]) ∧ Below W.heap.size W w') := Lib.hid fun W b =>
    (acommon_any _ exL 4 5 W (hTr.below b) ex_tre (by decide) (by decide)).mono fun e w' ⟨c, he, hc, hb⟩ => by
      obtain rfl := hc.uniq ex_tre ex_com2
      exact ⟨he, hb⟩
  clear hTr T2 CX CN hk8 hN b1 b2 HTB
  go_wp2_with fail
  refine (C0.out _ (Below.refl _ _)).mono ?_
  rintro e w3 ⟨v0, rfl, hr0, b3⟩
  have HR0 := Lib.hid hr0
  go_wp2_with fail
  refine (C1.out _ b3).mono ?_
  rintro e w4 ⟨v1, rfl, hr1, b4⟩
  have HR1 := Lib.hid hr1
  have b24 := below_seq b3 b4
  go_wp2_with fail
  refine (C2.out _ b24).mono ?_
  rintro e w5 ⟨rfl, b5⟩
  have b25 := below_seq b24 b5
  go_wp2_with fail
  refine (C3.out _ b25).mono ?_
  rintro e w6 ⟨rfl, b6⟩
  have b26 := below_seq b25 b6
  go_wp2_with fail
  refine (C4.out _ b26).mono ?_
  rintro e w7 ⟨rfl, b7⟩
  have b27 := below_seq b26 b7
  go_wp2_with fail
  refine (C5.out _ b27).mono ?_
  rintro e w8 ⟨rfl, b8⟩
  have b28 := below_seq b27 b8
  go_wp2_with fail
  refine (C6.out _ b28).mono ?_
  rintro e w9 ⟨rfl, b9⟩
  have b29 := below_seq b28 b9
  go_wp2_with fail
  refine (C7.out _ b29).mono ?_
  rintro e w10 ⟨rfl, b10⟩
  have b2a := below_seq b29 b10
  have hr0' := HR0.out.below (below_seq (below_seq (below_seq (below_seq (below_seq (below_seq (below_seq b4 b5) b6) b7) b8) b9) b10) (below_alloc w10 (.cells #[.int .i64 1, .int .i64 5] 3)))
  have hr1' := HR1.out.below (below_seq (below_seq (below_seq (below_seq (below_seq b5 b6) b7) b8) b9) b10)
  have HR0' := Lib.hid hr0'
  have HR1' := Lib.hid hr1'
  have b0a := below_seq b02 b2a
  clear C0 C1 C2 C3 C4 C5 C6 C7 hr0 hr1 HR0 HR1 b3 b4 b5 b6 b7 b8 b9 b10 b24 b25 b26 b27 b28 b29 b2a b02 hr0' hr1'
  go_wp2_with fail
  refine (rints_any _ _ [1, 5] _ HR0'.out (Blk.row (Blk.new w10 3 #[.int .i64 1, .int .i64 5]) rfl rfl) (by decide)).mono ?_
  rintro e w11 ⟨rfl, b11⟩
  have b1a := below_seq (below_alloc w10 (.cells #[.int .i64 1, .int .i64 5] 3)) b11
  have b0b := below_seq b0a b1a
  have hr1' := Lib.hid (HR1'.out.below (below_seq b1a (below_alloc w11 (.cells #[.int .i64 2, .int .i64 3] 3))))
  clear HR0' HR1' b11 b1a b0a
  go_wp2_with fail
  refine (rints_any _ _ [2, 3] _ hr1'.out (Blk.row (Blk.new w11 3 #[.int .i64 2, .int .i64 3]) rfl rfl) (by decide)).mono ?_
  rintro e w12 ⟨rfl, b12⟩
  have b0c := below_seq b0b (below_seq (below_alloc w11 (.cells #[.int .i64 2, .int .i64 3] 3)) b12)
  clear hr1' b12 b0b
  go_wp2_with fail
  refine (KN.out _ b0c).mono ?_
  rintro e w13 ⟨rfl, b13⟩
  have b0d := below_seq b0c b13
  clear b0c b13
  go_wp2_with fail
  refine (KB.out _ _ (below_seq b0d (below_alloc w13 _)) (Blk.ns (Blk.new w13 37 _) rfl rfl)).mono ?_
  rintro e w14 ⟨rfl, b14⟩
  have b0e := below_seq b0d (below_seq (below_alloc w13 _) b14)
  clear b0d b14
  go_wp2_with fail
  refine (KC.out _ _ (below_seq b0e (below_alloc w14 _)) (Blk.ns (Blk.new w14 37 _) rfl rfl)).mono ?_
  rintro e w15 ⟨rfl, b15⟩
  have b0f := below_seq b0e (below_seq (below_alloc w14 _) b15)
  clear b0e b15
  go_wp2_with fail
  go_ret
  exact ⟨rfl, b0f⟩
end Go.Proofs.YtgpobhnonjdamaaDoor
