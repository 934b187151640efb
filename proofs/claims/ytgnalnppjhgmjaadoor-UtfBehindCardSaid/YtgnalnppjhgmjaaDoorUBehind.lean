/- UtfBehind: for every input the law returns true, and its arguments read behind the call as they did before. No condition on the input; the package variable that the program's text lays (the table of forms) is as it was laid (the card ties it to the text). -/
import Derived.Test.YtgnalnppjhgmjaaDoorUHead
import Derived.Test.YtgnalnppjhgmjaaDoorULaid
import Derived.Test.YtgnalnppjhgmjaaDoorRows
import Derived.Test.YtgnalnppjhgmjaaDoorCards
import Derived.Test.YtgnalnppjhgmjaaDoorTie
import Derived.Deep.DeepHandedRow
import Derived.Lib.LaidTab
import Derived.WalkKit
import Derived.ProofKit
import Derived.OpenShut
import Derived.ShutString
import Derived.ChangeOld
import Derived.Below
import Derived.Deep.LoopGhost
namespace Go.Proofs.YtgnalnppjhgmjaaDoor.utfBehind
open Go.ChangeShapes Go.WideShapes Go.ChangeAt Go.RowKit
open Go.ChangeMaps (open_string shut_string)
set_option linter.unusedVariables false

theorem own : ownKnob Tryd.prog.godebug = none := by kernel_rfl
theorem laidOut : laidOutB Tryd.prog = true := by kernel_rfl

/-- WHAT THE WALK IS TOLD OF A SLICE OF INTEGERS THAT CAME IN: it is nil; or it leads to a row of 'cap' cells, the numbers 'zs' (the first 'len' are its elements, the rest its spare room), each fitting its kind. -/
def IsRow (k : IntKind) (w : World) (a : Option Addr) (len cap : Nat) (zs : List Int) : Prop :=
  (a = none ∧ len = 0 ∧ cap = 0 ∧ zs = []) ∨
  ∃ x, a = some x ∧ len ≤ cap ∧ cap ≤ maxLen ∧ zs.length = cap ∧ (∀ i, i < zs.length → w.cell? (x.add i) = some (.int k (zs.getD i 0))) ∧ ∀ n ∈ zs, (Lit.int k n).wf = true

theorem wf32 {a : Int} (h : (Lit.int .i32 a).wf = true) : -2147483648 ≤ a ∧ a ≤ 2147483647 := by
  simpa [Lit.wf, IntKind.min, IntKind.max, IntKind.signed, IntKind.bits] using h

theorem chs_append : ∀ (l m : List (Int × Nat)) (k : Nat), chs k (l ++ m) = chs k l ++ chs (k + (l.map Prod.snd).sum) m
  | [], m, k => by simp [chs]
  | (r, n) :: t, m, k => by
    rw [List.cons_append, chs, chs_append t m (k + n), chs]
    simp [Nat.add_assoc]

theorem chs_shift : ∀ (m : List (Int × Nat)) (k d i : Nat) (h : i < m.length), (chs (k + d) m)[i]'(by rw [chs_len]; exact h) = { (chs k m)[i]'(by rw [chs_len]; exact h) with at_ := ((chs k m)[i]'(by rw [chs_len]; exact h)).at_ + d }
  | [], _, _, _, h => by simp at h
  | (r, n) :: t, k, d, 0, _ => by simp [chs]
  | (r, n) :: t, k, d, i + 1, h => by
    have := chs_shift t (k + n) d i (by simpa using h)
    simp only [chs, List.getElem_cons_succ]
    rw [← this]
    congr 2
    omega

theorem chs_at : ∀ (m : List (Int × Nat)) (k i : Nat) (h : i < m.length), ∃ q : Nat, q ≤ k + (m.map Prod.snd).sum ∧ (chs k m)[i]'(by rw [chs_len]; exact h) = ⟨m[i].1, 0, q, m[i].2, 0⟩
  | [], _, _, h => by simp at h
  | (r, n) :: t, k, 0, _ => ⟨k, by omega, by simp [chs]⟩
  | (r, n) :: t, k, i + 1, h => by
    obtain ⟨q, hq, e⟩ := chs_at t (k + n) i (by simpa using h)
    refine ⟨q, by simp; omega, ?_⟩
    simpa [chs] using e

theorem Own.first {w : World} {base : Nat} {A : Option Addr} {n c k : Nat} {l : List Ch} (h : Own w base (.slice A n c) l) (hk : k ≤ l.length) : Own w base (.slice A k c) (l.take k) ∧ n ≤ c := by
  have hlen : ∀ l : List Ch, (l.flatMap Ch.cells).length = l.length * 5 := by
    intro l
    induction l with
    | nil => rfl
    | cons c t ih => rw [List.flatMap_cons, List.length_append, ih, List.length_cons, show c.cells.length = 5 from rfl]; omega
  have htk : (l.take k).flatMap Ch.cells = (l.flatMap Ch.cells).take (k * 5) := by
    have e : l.flatMap Ch.cells = (l.take k).flatMap Ch.cells ++ (l.drop k).flatMap Ch.cells := by rw [← List.flatMap_append, List.take_append_drop]
    rw [e, List.take_left' (by rw [hlen, List.length_take]; omega)]
  have hl : (l.take k).length = k := by rw [List.length_take]; omega
  rcases h.2 with ⟨e, h0⟩ | ⟨g, cap, cur, e, hb, hg, h1, h2, h3, h4⟩
  · injection e with e1 e2 e3
    subst e1; subst e2; subst e3
    have hk0 : k = 0 := by omega
    subst hk0
    exact ⟨by rw [List.take_zero]; exact Own.nil w base, Nat.le_refl _⟩
  · injection e with e1 e2 e3
    subst e1; subst e2; subst e3
    refine ⟨⟨by rw [hlen], .inr ⟨g, c, cur, by rw [hl], hb, hg, by rw [hl]; omega, h2, h3, ?_⟩⟩, h1⟩
    rw [hl, htk, ← h4, List.take_take, Nat.min_eq_left (by omega)]

/-- what Encode gives at the slice -/
def Encs (v : Value) (zs : List Int) (w : World) : Prop := Calls Tryd.prog 16 #[v] w fun e w' => ∃ s, e = .returned (.string s) ∧ bs s = Utf.enc zs ∧ Below w.heap.size w w'

set_option maxRecDepth 100000 in
set_option maxHeartbeats 1000000 in
theorem out_a (A : Option Addr) (n c : Nat) (s : ByteArray) (w : World) (hT : Tab w) (h : 500 < n) (hm : n ≤ 9223372036854775807) :
    Calls Tryd.prog 6 #[.slice A n c, .string s] w fun e w' => e = .returned (.bool true) ∧ Below w.heap.size w w' := by
  have hz : (500 : Int) < (n : Int) := by omega
  go_enter Tryd.func6, Tryd.ntmps6
  go_wp2_with fail
  refine (uhead_any _ (by with_reducible (repeat (first | assumption | apply Tab.alloc | apply Tab.drew | apply Tab.drewN | (refine Tab.below ?_ (by assumption)) | (refine Tab.drawn ?_ (by assumption)))))).mono ?_
  rintro e w1 ⟨rfl, b1⟩
  go_wp2_with fail
  go_ret
  exact ⟨rfl, b1⟩

set_option maxRecDepth 100000 in
set_option maxHeartbeats 1000000 in
theorem out_b (A : Option Addr) (n c : Nat) (s : ByteArray) (w : World) (hT : Tab w) (hn : ¬ 500 < n) (h : 2000 < s.size) (hm : s.size ≤ 9223372036854775807) :
    Calls Tryd.prog 6 #[.slice A n c, .string s] w fun e w' => e = .returned (.bool true) ∧ Below w.heap.size w w' := by
  have hz : ¬ (500 : Int) < (n : Int) := by omega
  have hz2 : (2000 : Int) < (s.size : Int) := by omega
  go_enter Tryd.func6, Tryd.ntmps6
  go_wp2_with fail
  refine (uhead_any _ (by with_reducible (repeat (first | assumption | apply Tab.alloc | apply Tab.drew | apply Tab.drewN | (refine Tab.below ?_ (by assumption)) | (refine Tab.drawn ?_ (by assumption)))))).mono ?_
  rintro e w1 ⟨rfl, b1⟩
  go_wp2_with fail
  go_ret
  exact ⟨rfl, b1⟩

set_option maxRecDepth 100000 in
set_option maxHeartbeats 4000000 in
theorem main_any (A : Option Addr) (n c : Nat) (zs : List Int) (s : ByteArray) (w : World) (hT : Tab w) (hn : ¬ 500 < n) (hzn : Hid (zs.length = n)) (h : ¬ 2000 < s.size) (E : Encs (.slice A n c) zs w) :
    Calls Tryd.prog 6 #[.slice A n c, .string s] w fun e w' => e = .returned (.bool true) ∧ Below w.heap.size w w' := by
  have hz : ¬ (500 : Int) < (n : Int) := by omega
  have hz2 : ¬ (2000 : Int) < (s.size : Int) := by omega
  have HE := Lib.hid E
  clear E
  go_enter Tryd.func6, Tryd.ntmps6
  go_wp2_with fail
  refine HE.out.mono ?_
  rintro e w1 ⟨f, rfl, hf, b1⟩
  have hfs : f.size ≤ 2000 := by
    have := enc_len zs
    rw [← hf, bs_len, hzn.out] at this
    omega
  have HF := Lib.hid hf
  have hfs2 : (f ++ s).size ≤ 4000 := by rw [ByteArray.size_append]; omega
  obtain ⟨vb, hv⟩ : ∃ b, Utf.valid (bs s) = b := ⟨_, rfl⟩
  have V1 : Hid (∀ w, Tab w → Calls Tryd.prog 14 #[.string s] w fun e w' => e = .returned (.bool vb) ∧ Below w.heap.size w w') := fun w hTw => by
    have h := uvalid_any s w hTw (by omega)
    rw [hv] at h
    exact h
  have V2 : Hid (∀ w, Tab w → Calls Tryd.prog 14 #[.string (f ++ s)] w fun e w' => e = .returned (.bool vb) ∧ Below w.heap.size w w') := fun w hTw => by
    have h := uvalid_any (f ++ s) w hTw (by omega)
    rw [bs_append, hf, Utf.valid_enc, hv] at h
    exact h
  -- the three lists
  obtain ⟨lb, hlb⟩ : ∃ l, Utf.decs (bs f) = l := ⟨_, rfl⟩
  obtain ⟨lc, hlc⟩ : ∃ l, Utf.decs (bs s) = l := ⟨_, rfl⟩
  have hla : Utf.decs (bs (f ++ s)) = lb ++ lc := by rw [bs_append, hf, Utf.decs_enc, hlc, ← hlb, hf, Utf.decs_enc0]
  have hsum : (lb.map Prod.snd).sum = f.size := by rw [← hlb, Utf.decs_sum, bs_len]
  have SC : Hid ((lc.map Prod.snd).sum = s.size) := by show _ = _; rw [← hlc, Utf.decs_sum, bs_len]
  have hlbn : lb.length ≤ 2000 := by have := Utf.decs_length (bs f); rw [hlb, bs_len] at this; omega
  have hlcn : lc.length ≤ 2000 := by have := Utf.decs_length (bs s); rw [hlc, bs_len] at this; omega
  have D1 : Hid (∀ w, Tab w → Calls Tryd.prog 10 #[.string (f ++ s)] w fun e w' => ∃ v, e = .returned v ∧ Below w.heap.size w w' ∧ Own w' w.heap.size v (chs 0 lb ++ chs f.size lc)) := fun w hTw => by
    have h := udecode_any (f ++ s) w hTw (by omega)
    rw [hla, chs_append, hsum, Nat.zero_add] at h
    exact h
  have D2 : Hid (∀ w, Tab w → Calls Tryd.prog 10 #[.string f] w fun e w' => ∃ v, e = .returned v ∧ Below w.heap.size w w' ∧ Own w' w.heap.size v (chs 0 lb)) := fun w hTw => by
    have h := udecode_any f w hTw (by omega)
    rw [hlb] at h
    exact h
  have D3 : Hid (∀ w, Tab w → Calls Tryd.prog 10 #[.string s] w fun e w' => ∃ v, e = .returned v ∧ Below w.heap.size w w' ∧ Own w' w.heap.size v (chs 0 lc)) := fun w hTw => by
    have h := udecode_any s w hTw (by omega)
    rw [hlc] at h
    exact h
  obtain ⟨nb, hnb⟩ : ∃ k, lb.length = k := ⟨_, rfl⟩
  obtain ⟨nc, hnc⟩ : ∃ k, lc.length = k := ⟨_, rfl⟩
  have NB := Lib.hid hnb
  have NC := Lib.hid hnc
  rw [hnb] at hlbn
  rw [hnc] at hlcn
  clear hf hv hlb hlc hla hsum hnb hnc
  go_wp2_with fail
  refine (D1.out _ (by with_reducible (repeat (first | assumption | apply Tab.alloc | apply Tab.drew | apply Tab.drewN | (refine Tab.below ?_ (by assumption)) | (refine Tab.drawn ?_ (by assumption)))))).mono ?_
  rintro e w2 ⟨va, rfl, b2, oa⟩
  go_wp2_with fail
  refine (D2.out _ (by with_reducible (repeat (first | assumption | apply Tab.alloc | apply Tab.drew | apply Tab.drewN | (refine Tab.below ?_ (by assumption)) | (refine Tab.drawn ?_ (by assumption)))))).mono ?_
  rintro e w3 ⟨vb3, rfl, b3, ob⟩
  go_wp2_with fail
  refine (D3.out _ (by with_reducible (repeat (first | assumption | apply Tab.alloc | apply Tab.drew | apply Tab.drewN | (refine Tab.below ?_ (by assumption)) | (refine Tab.drawn ?_ (by assumption)))))).mono ?_
  rintro e w4 ⟨vc, rfl, b4, oc⟩
  have oa4 := (oa.kept b3).kept b4
  have ob4 := ob.kept b4
  obtain ⟨Aa, ca, rfl⟩ := oa.form
  obtain ⟨Ab, cb, rfl⟩ := ob.form
  obtain ⟨Ac, cc, rfl⟩ := oc.form
  obtain ⟨na, hna⟩ : ∃ k, nb + nc = k := ⟨_, rfl⟩
  have NA := Lib.hid hna
  have hadd : (nb : Int) + (nc : Int) = (na : Int) := by omega
  have hnab : nb ≤ na ∧ na ≤ 4000 := by omega
  have lA : (chs 0 lb ++ chs f.size lc).length = na := by rw [List.length_append, chs_len, chs_len, NB.out, NC.out, NA.out]
  have lB : (chs 0 lb).length = nb := by rw [chs_len, NB.out]
  have lC : (chs 0 lc).length = nc := by rw [chs_len, NC.out]
  rw [lA, lB, lC]
  rw [lA] at oa4
  rw [lB] at ob4
  rw [lC] at oc
  clear hna lA lB lC
  have hca := (Own.first oa4 (k := nb) (by rw [List.length_append, chs_len, NB.out]; omega)).2
  have hsc : (lc.map Prod.snd).sum ≤ 2000 := by rw [SC.out]; omega
  have FORM : Hid (nc = 0 ∨ ∃ ga gc, Aa = some ⟨ga, 0, none⟩ ∧ Ac = some ⟨gc, 0, none⟩ ∧ ga < w4.heap.size ∧ gc < w4.heap.size ∧ ∀ k, k < nc → ∃ (r : Int) (q p n2 : Nat), (p : Int) - (f.size : Int) = (q : Int) ∧ p ≤ 4000 ∧
      (w4.cell? ⟨ga, (nb + k) * 5, none⟩ = some (.int .i32 r) ∧ w4.cell? ⟨ga, (nb + k) * 5 + 1, none⟩ = some (.int .i64 0) ∧ w4.cell? ⟨ga, (nb + k) * 5 + 2, none⟩ = some (.int .i64 p) ∧ w4.cell? ⟨ga, (nb + k) * 5 + 3, none⟩ = some (.int .i64 n2) ∧ w4.cell? ⟨ga, (nb + k) * 5 + 4, none⟩ = some (.int .u8 0)) ∧
      (w4.cell? ⟨gc, k * 5, none⟩ = some (.int .i32 r) ∧ w4.cell? ⟨gc, k * 5 + 1, none⟩ = some (.int .i64 0) ∧ w4.cell? ⟨gc, k * 5 + 2, none⟩ = some (.int .i64 q) ∧ w4.cell? ⟨gc, k * 5 + 3, none⟩ = some (.int .i64 n2) ∧ w4.cell? ⟨gc, k * 5 + 4, none⟩ = some (.int .u8 0))) := by
    rcases Nat.eq_zero_or_pos nc with c0 | c0
    · exact Or.inl c0
    · right
      obtain ⟨ga, x1, e1, _, g1, H1⟩ := oa4.form1 (by rw [List.length_append, chs_len, chs_len, NC.out]; omega)
      obtain ⟨gc, x2, e2, _, g2, H2⟩ := oc.form1 (by rw [chs_len, NC.out]; omega)
      injection e1 with e1
      injection e2 with e2
      refine ⟨ga, gc, e1, e2, g1, g2, fun k hk => ?_⟩
      have hk2 : k < lc.length := by rw [NC.out]; exact hk
      obtain ⟨q, hq, eq⟩ := chs_at lc 0 k hk2
      have es := chs_shift lc 0 f.size k hk2
      rw [Nat.zero_add] at es
      have h1 := H1 (nb + k) (by rw [List.length_append, chs_len, chs_len, NB.out, NC.out]; omega)
      have h2 := H2 k (by rw [chs_len]; exact hk2)
      have eidx : (chs 0 lb ++ chs f.size lc)[nb + k]'(by rw [List.length_append, chs_len, chs_len, NB.out, NC.out]; omega) = (chs f.size lc)[k]'(by rw [chs_len]; exact hk2) := by
        rw [List.getElem_append_right (by rw [chs_len, NB.out]; omega)]
        congr 1
        rw [chs_len, NB.out]
        omega
      rw [eidx, es, eq] at h1
      rw [eq] at h2
      simp only [Nat.zero_add] at h1 h2
      refine ⟨lc[k].1, q, q + f.size, lc[k].2, by omega, by omega, ?_, h2⟩
      simpa using h1
  clear oa ob D1 D2 D3 oc
  go_wp2_with fail
  go_loopg [9] 3000 (fun gh s9 wx => Below w4.heap.size w4 wx ∧ ∃ k : Nat, s9 = .int .i64 k ∧ k ≤ nc ∧ gh = 3000 - k)
  case atStart => exact ⟨Below.refl _ _, 0, rfl, by omega, rfl⟩
  case round =>
    obtain ⟨bel, k, rfl, hk, rfl⟩ := hrel
    obtain ⟨wo, rfl⟩ : ∃ wo : World, wo = wr := ⟨_, rfl⟩
    by_cases hlt : k < nc
    · have hltz : (k : Int) < (nc : Int) := by omega
      rcases FORM.out with c0 | ⟨ga, gc, rfl, rfl, hga, hgc, HK⟩
      · omega
      · obtain ⟨r, q, p, n2, hpq, hp, ⟨a1, a2, a3, a4, a5⟩, ⟨d1, d2, d3, d4, d5⟩⟩ := HK k hlt
        rw [← bel.cell hga] at a1 a2 a3 a4 a5
        rw [← bel.cell hgc] at d1 d2 d3 d4 d5
        have hne := fun w => neqC ⟨r, 0, q, n2, 0⟩ ⟨r, 0, q, n2, 0⟩ true (decide_eq_true rfl) w
        simp only [Bool.not_true] at hne
        have hidx : (nb : Int) + (k : Int) < (na : Int) := by omega
        have hwo := bel.size
        have hnea : wo.heap.size ≠ ga := by omega
        have hnec : wo.heap.size ≠ gc := by omega
        clear HK
        go_wp2_with fail
        have hgc2 : gc < wo.heap.size := by omega
        have f1 := fun o : Obj => (World.cell?_alloc_lt wo o ⟨gc, k * 5, none⟩ hgc2).trans d1
        have f2 := fun o : Obj => (World.cell?_alloc_lt wo o ⟨gc, k * 5 + 1, none⟩ hgc2).trans d2
        have f3 := fun o : Obj => (World.cell?_alloc_lt wo o ⟨gc, k * 5 + 2, none⟩ hgc2).trans d3
        have f4 := fun o : Obj => (World.cell?_alloc_lt wo o ⟨gc, k * 5 + 3, none⟩ hgc2).trans d4
        have f5 := fun o : Obj => (World.cell?_alloc_lt wo o ⟨gc, k * 5 + 4, none⟩ hgc2).trans d5
        go_quiet (fail)
        go_wp2_with fail
        go_roundg (3000 - (k + 1))
        case measure => omega
        case rel => exact ⟨below_seq bel (below_seq (below_alloc _ _) (below_drawn ⟨_, rfl⟩)), k + 1, by go_num, by omega, rfl⟩
    · have hltz : ¬ (k : Int) < (nc : Int) := by omega
      have oa5 := (Own.first (oa4.kept bel) (k := nb) (by rw [List.length_append, chs_len, NB.out]; omega)).1
      rw [List.take_left' (by rw [chs_len, NB.out])] at oa5
      have ob5 := ob4.kept bel
      clear hadd
      go_wp2_with fail
      refine (same_eq oa5 ob5 (by rw [chs_len, NB.out]; omega)).mono ?_
      rintro e w5 ⟨rfl, d5⟩
      have b5 := below_drawn d5
      clear d5 oa5 ob5
      go_wp2_with fail
      refine (V2.out _ (by with_reducible (repeat (first | assumption | apply Tab.alloc | apply Tab.drew | apply Tab.drewN | (refine Tab.below ?_ (by assumption)) | (refine Tab.drawn ?_ (by assumption)))))).mono ?_
      rintro e w6 ⟨rfl, b6⟩
      go_wp2_with fail
      refine (V1.out _ (by with_reducible (repeat (first | assumption | apply Tab.alloc | apply Tab.drew | apply Tab.drewN | (refine Tab.below ?_ (by assumption)) | (refine Tab.drawn ?_ (by assumption)))))).mono ?_
      rintro e w7 ⟨rfl, b7⟩
      cases vb
      all_goals
        go_wp2_with fail
        refine (uhead_any _ (by with_reducible (repeat (first | assumption | apply Tab.alloc | apply Tab.drew | apply Tab.drewN | (refine Tab.below ?_ (by assumption)) | (refine Tab.drawn ?_ (by assumption)))))).mono ?_
        rintro e w8 ⟨rfl, b8⟩
        go_wp2_with fail
        go_ret
        exact ⟨rfl, below_seq b1 (below_seq b2 (below_seq b3 (below_seq b4 (below_seq bel (below_seq b5 (below_seq b6 (below_seq b7 b8)))))))⟩

theorem walk (a0 : Option Addr) (len0 cap0 : Nat) (z0 : List Int) (a1 : ByteArray) (w : World) (hT : Tab w) (w0 : IsRow .i32 w a0 len0 cap0 z0) (w1 : a1.size ≤ maxLen) :
    Calls Tryd.prog 6 #[.slice a0 len0 cap0, .string a1] w fun e w' => e = .returned (.bool true) ∧ Below w.heap.size w w' := by
  unfold maxLen at w1
  have hbig : len0 ≤ 9223372036854775807 := by
    rcases w0 with ⟨_, rfl, _, _⟩ | ⟨x, _, h1, h2, _⟩
    · omega
    · unfold maxLen at h2; omega
  by_cases h1 : 500 < len0
  · exact out_a a0 len0 cap0 a1 w hT h1 hbig
  · by_cases h2 : 2000 < a1.size
    · exact out_b a0 len0 cap0 a1 w hT h1 h2 w1
    · rcases w0 with ⟨rfl, rfl, rfl, rfl⟩ | ⟨x, rfl, hl, hm, hz, hcell, hwz⟩
      · exact main_any none 0 0 [] a1 w hT (by omega) rfl h2 (uencode_nil w)
      · have hlen : (z0.take len0).length = len0 := by rw [List.length_take]; omega
        have hc : ∀ j, j < (z0.take len0).length → w.cell? (x.add j) = some (.int .i32 ((z0.take len0).getD j 0)) := fun j hj => by
          rw [hcell j (by omega)]
          have : j < len0 := by omega
          simp [List.getD, this]
        have hr : ∀ z ∈ z0.take len0, -2147483648 ≤ z ∧ z ≤ 2147483647 := fun z hz => wf32 (hwz z (List.mem_of_mem_take hz))
        have ha : (z0.take len0).length = 0 ∨ x.block < w.heap.size := by
          rcases Nat.eq_zero_or_pos (z0.take len0).length with h | h
          · exact Or.inl h
          · right
            rw [← block_add x 0]
            exact World.block_lt_of_cell? _ _ (hc 0 h)
        have := uencode_some x (z0.take len0) cap0 w (by omega) ha hc hr
        rw [hlen] at this
        exact main_any (some x) len0 cap0 (z0.take len0) a1 w hT h1 hlen h2 this

/-! ### THE ROW's STEP -/
theorem laid_met (os : Os) : laidMet Tryd.prog Rows.utfBehindRow.laid ((laidWorld os).forCall (fun _ _ => 0) ⟨#[], #[.slice none 0 0, .string ByteArray.empty], []⟩).memory :=
  laidMet_of_run' 8 (by kernel_rfl) (by kernel_rfl)
theorem reads (os : Os) {H : Type} (enc : TypeId × Value → H) : ∃ places, DataW.whole enc Tryd.prog ((laidWorld os).forCall (fun _ _ => 0) ⟨#[], #[.slice none 0 0, .string ByteArray.empty], []⟩).memory Tryd.f6.params.toList Rows.utfBehindSpec.vars false (#[.slice none 0 0, .string ByteArray.empty] : Array Value).toList 8 = some ([.nil, .lit (.string [])], [], places) :=
  ⟨[], by kernel_rfl⟩

set_option maxRecDepth 100000 in
theorem lifted (os : Os) (started : os.Started) (H : Type) (enc : TypeId × Value → H) (F : Stop.Interp) :
    ReturnsInHanded {} Tryd.checked os 6 .any ((OpenSpec.ofChange Rows.utfBehindSpec).preRow enc Tryd.prog Tryd.f6 Rows.utfBehindRow.domain false Rows.utfBehindRow.laid) (((OpenSpec.ofChange Rows.utfBehindSpec).at F).post enc Tryd.prog Tryd.f6 false true false false) := by
  obtain ⟨places, hx⟩ := reads os enc
  refine returnsInHanded_of_row (C := Tryd.checked) (s := OpenSpec.ofChange Rows.utfBehindSpec) own started (by kernel_rfl) Tryd.func6
    (witness_row_at (enc := enc) (C := Tryd.checked) false (laidWorld os) #[.slice none 0 0, .string ByteArray.empty] rfl (by kernel_rfl) (by kernel_rfl) (by kernel_rfl)
      (OpenSpec.preRow_of_cond 8 hx (by kernel_rfl) (fun k hk => by cases hk) (by kernel_rfl) (laid_met os))) ?_
  intro W base args ds gs before hval0 hW _ _ _ hL _ _
  have hval : ∀ (j : Nat) t v, Tryd.f6.params[j]? = some t → args[j]? = some v → Value.okWide Tryd.prog W .any base t v := hval0
  have hW' := hW
  obtain ⟨p, q, hA0, hV, rfl, hfz, hnd⟩ := hW
  have hA : DataW.TrodAll enc Tryd.prog W 0 (fun _ => true) true Tryd.f6.params.toList args.toList ds p := hA0
  rw [Tryd.params6] at hA hval
  obtain ⟨v0, vs0, d0, ds0, p0, q0, hargs, rfl, rfl, h0, r0⟩ := trodAll_cons hA
  obtain ⟨v1, vs1, d1, ds1, p1, q1, rfl, rfl, rfl, h1, r1⟩ := trodAll_cons r0
  obtain ⟨rfl, rfl, rfl⟩ := trodAll_nil r1
  obtain rfl : args = #[v0, v1] := by cases args; simp_all
  obtain ⟨rfl, rfl⟩ := trodVars_none hV
  obtain ⟨a0, len0, cap0, rfl⟩ := okWide_slice Tryd.underlying28 (hval 0 28 v0 rfl rfl)
  have k0 := h0
  have lt0 : ∀ x ∈ p0, x.block < W.heap.size := by obtain ⟨m, hm⟩ := k0; exact DataW.trod_lt m _ _ _ hm
  obtain ⟨z0, w0⟩ : ∃ zs, IsRow .i32 W a0 len0 cap0 zs := by
    obtain ⟨fuel, hf⟩ := h0
    rcases open_ints Tryd.underlying28 Tryd.underlying21 (by kernel_rfl) hf with ⟨hcs, _⟩ | ⟨x, l, c, zs, hcs, _, hl, hm, hz, _, hcell, hwz⟩
    · simp [Value.cells] at hcs
      obtain ⟨rfl, rfl, rfl⟩ := hcs
      exact ⟨[], .inl ⟨rfl, rfl, rfl, rfl⟩⟩
    · simp [Value.cells] at hcs
      obtain ⟨rfl, rfl, rfl⟩ := hcs
      exact ⟨zs, .inr ⟨_, rfl, hl, hm, by simpa using hz, hcell, hwz⟩⟩
  obtain ⟨a1, rfl, rfl, rfl, w1⟩ := open_string Tryd.underlying9 (hval 1 9 v1 rfl rfl) h1
  clear hA0 hval0
  refine (walk a0 len0 cap0 z0 a1 W (tab_of hL) w0 w1).mono fun e W' ⟨he, bel⟩ => ?_
  subst he
  exact ⟨_, rfl, _, _, _, [], _, [], hW', trodAll_mk1 (shut_bool Tryd.underlying4 _), (trodAll_cons_mk (Below.trod laidOut (by kernel_rfl) (of_decide_eq_true (by kernel_rfl)) k0 bel lt0) (trodAll_cons_mk (shut_string Tryd.underlying9 w1) trodAll_mk0)), rfl, bel.frame _, fun h => by cases h⟩

theorem said : Rows.UtfBehindSaid :=
  OpenClaim.holds_of_cond 6 Tryd.f6 rfl rfl rfl rfl rfl rfl rfl ⟨rfl, rfl, rfl, rfl, rfl⟩ rfl rfl rfl rfl rfl (by kernel_rfl) Tryd.func6 (by kernel_rfl)
    (of_decide_eq_true (by kernel_rfl)) (by unfold Func.isWrapper; first | (rw [if_pos (by decide +kernel)]; kernel_rfl) | (rw [if_neg (by decide +kernel)]; exact ⟨rfl, rfl⟩))
    (fun os started H enc _ F => by rw [OpenClaim.pre_eq_preRow]; exact lifted os started H enc F)

/-- no parameter wants a stand-in; the program's own looks are off -/
theorem plain (f : FuncId) (fn : Func) (hf : Tryd.pinned.checked.prog.funcNamed "stickful/stickfullaw02.UtfBehind" = some f) (hfn : Tryd.pinned.checked.prog.funcs[f]? = some fn) :
    false = Tryd.pinned.checked.prog.looks [] ∧ ∀ (j : Nat) t, fn.params[j]? = some t → Tryd.pinned.checked.prog.wantsStandIn t = false := by
  obtain rfl : f = 6 := Option.some.inj ((show Tryd.prog.funcNamed "stickful/stickfullaw02.UtfBehind" = some 6 by kernel_rfl).symm.trans hf) |>.symm
  obtain rfl : fn = Tryd.f6 := (Option.some.inj (Tryd.func6.symm.trans hfn)).symm
  refine ⟨by kernel_rfl, fun j t ht => ?_⟩
  rw [Tryd.params6] at ht
  have hm : t ∈ [28, 9] := by simpa using Array.mem_of_getElem? ht
  have hall : ([28, 9].all fun u => !Tryd.prog.wantsStandIn u) = true := by kernel_rfl
  exact (show Tryd.prog.wantsStandIn t = false by simpa using List.all_eq_true.1 hall t hm)

/-- ████ THE STATEMENT: THE TIED CARD ████ -/
theorem card : Rows.UtfBehindCardSaid :=
  Claim7.holds_tied_plain_at .later [] _ _ _ _ said (fun _ h => by cases h) (by kernel_rfl) (fun _ h => by cases h) utfBehind_row_tie rfl ⟨rfl, rfl⟩ (by kernel_rfl) rfl plain (by kernel_rfl)
#print axioms card
end Go.Proofs.YtgnalnppjhgmjaaDoor.utfBehind
