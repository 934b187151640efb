/- UtfAgain: for every input the law returns true, and its arguments read behind the call as they did before. No condition on the input; the package variable that the program's text lays (the table of forms) is as it was laid (the card ties it to the text). -/
import Derived.Test.YtgnalnppjhgmjaaDoorUHead
import Derived.Test.YtgnalnppjhgmjaaDoorULaid
import Derived.Test.YtgnalnppjhgmjaaDoorRows
import Derived.Test.YtgnalnppjhgmjaaDoorCards
import Derived.Test.YtgnalnppjhgmjaaDoorTie
import Derived.Deep.DeepHandedRow
import Derived.Lib.LaidTab
import Derived.WalkKit
import Derived.ProofKit
import Derived.OpenShut
import Derived.ShutString
import Derived.ChangeOld
import Derived.Below
import Derived.OwnWalk
import Derived.Maps.AppendAt
import Derived.Deep.AppendLies
import Derived.Deep.DeepCutAuto
import Derived.Deep.CutBlock
namespace Go.Proofs.YtgnalnppjhgmjaaDoor.utfAgain
open Go.ChangeShapes Go.WideShapes Go.ChangeAt Go.RowKit
open Go.ChangeMaps (open_string shut_string)
set_option linter.unusedVariables false      -- a walk need not use every 'w<i>' (that an integer argument fits its kind)

theorem own : ownKnob Tryd.prog.godebug = none := by kernel_rfl

theorem Tryd.infoI : (Tryd.prog.info? 21).map (fun i => (i.zero, i.size, i.bytes)) = some (some (.int .i32 0), 1, 4) := by kernel_rfl

/-- a row of numbers -/
def OwnI (w : World) (base : Nat) (v : Value) (zs : List Int) : Prop := w.ownsRow base 21 1 v zs.length (zs.map (Value.int .i32))

theorem OwnI.kept {w w' : World} {base : Nat} {v : Value} {l : List Int} (h : OwnI w base v l) (hb : Below w.heap.size w w') : OwnI w' base v l := by
  refine ⟨h.1, ?_⟩
  rcases h.2 with hn | ⟨g, cap, cur, rfl, h1, hg, rest⟩
  · exact .inl hn
  · refine .inr ⟨g, cap, cur, rfl, h1, ?_, rest⟩
    rw [hb.block g (Array.getElem?_eq_some_iff.1 hg).1]
    exact hg

theorem ownI_of {w : World} {b b' : Nat} {v : Value} {zs : List Int} {n : Nat} (hn : zs.length = n) (hb : b' ≤ b) (h : w.ownsRow b 21 1 v n ((zs.map (Value.int .i32)).take n)) : OwnI w b' v zs := by
  subst hn
  rw [List.take_of_length_le (by rw [List.length_map]; omega)] at h
  refine ⟨h.1, ?_⟩
  rcases h.2 with hnil | ⟨gg, cap, cur, e1, e2, rest⟩
  · exact .inl hnil
  · exact .inr ⟨gg, cap, cur, e1, Nat.le_trans hb e2, rest⟩

/-- utf.Encode at a row of the call's own -/
theorem enc_own {w : World} {base : Nat} {v : Value} {zs : List Int} (h : OwnI w base v zs) (hn : zs.length ≤ 5000) (hr : ∀ z ∈ zs, Utf.Pt z) :
    Calls Tryd.prog 16 #[v] w fun e w' => ∃ s, e = .returned (.string s) ∧ bs s = Utf.enc zs ∧ Below w.heap.size w w' := by
  rcases h.2 with ⟨rfl, h0⟩ | ⟨g, cap, cur, rfl, h1, hg, rest⟩
  · have : zs = [] := List.length_eq_zero_iff.1 h0
    subst this
    exact uencode_nil w
  · refine uencode_some ⟨g, 0, none⟩ zs cap w hn (Or.inr (Array.getElem?_eq_some_iff.1 hg).1) (fun j hj => ?_) (fun z hz => by have := hr z hz; unfold Utf.Pt at this; omega)
    refine World.ownsRow.cells h (g := g) rfl j _ ?_
    simp [List.getD, hj]

set_option maxRecDepth 100000 in
set_option maxHeartbeats 1000000 in
theorem walk_long (s : ByteArray) (w : World) (hT : Tab w) (h : 3000 < s.size) (hm : s.size ≤ 9223372036854775807) :
    Calls Tryd.prog 7 #[.string s] w fun e w' => e = .returned (.bool true) ∧ Below w.heap.size w w' := by
  have hz : (3000 : Int) < (s.size : Int) := by omega
  go_enter Tryd.func7, Tryd.ntmps7
  go_wp2_with fail
  refine (uhead_any _ (by with_reducible (repeat (first | assumption | apply Tab.alloc | apply Tab.drew | apply Tab.drewN | (refine Tab.below ?_ (by assumption)) | (refine Tab.drawn ?_ (by assumption)))))).mono ?_
  rintro e w1 ⟨rfl, b1⟩
  go_wp2_with fail
  go_ret
  exact ⟨rfl, b1⟩

/-- the numbers of a text's characters -/
def pts (s : ByteArray) : List Int := (Utf.decs (bs s)).map Prod.fst

theorem again_facts (s t : ByteArray) (h : bs t = Utf.enc (pts s)) (hs : s.size ≤ 3000) :
    t.size ≤ 12000 ∧ Utf.valid (bs t) = true ∧ (Utf.decs (bs t)).length = (pts s).length ∧ ∀ i (hi : i < (Utf.decs (bs t)).length) (hj : i < (pts s).length), (Utf.decs (bs t))[i].1 = (pts s)[i] := by
  have hl : (pts s).length ≤ 3000 := by
    have := Utf.decs_length (bs s)
    rw [bs_len] at this
    unfold pts
    rw [List.length_map]
    omega
  have e : Utf.decs (bs t) = (pts s).map (fun r => (Utf.fix r, (Utf.one r).length)) := by rw [h]; exact Utf.decs_enc0 _
  refine ⟨?_, ?_, ?_, ?_⟩
  · have := enc_len (pts s)
    rw [← h, bs_len] at this
    omega
  · rw [h]; exact Utf.valid_enc0 _
  · rw [e, List.length_map]
  · intro i hi hj
    have hp : Utf.Pt (pts s)[i] := by
      have hm := List.getElem_mem hj
      obtain ⟨x, hx, ex⟩ := List.mem_map.1 hm
      rw [← ex]
      exact Utf.decs_pt _ x hx
    have : (Utf.decs (bs t))[i] = (Utf.fix (pts s)[i], (Utf.one (pts s)[i]).length) := by simp [e]
    rw [this]
    show Utf.fix (pts s)[i] = (pts s)[i]
    unfold Utf.fix
    rw [if_pos hp]

set_option maxRecDepth 100000 in
set_option maxHeartbeats 4000000 in
theorem walk_pos (s : ByteArray) (w : World) (hT : Tab w) (h : ¬ 3000 < s.size) (h0 : 0 < (pts s).length) :
    Calls Tryd.prog 7 #[.string s] w fun e w' => e = .returned (.bool true) ∧ Below w.heap.size w w' := by
  obtain ⟨i0, hi, hz0, hz1, hz2⟩ := info_parts Tryd.infoI
  have HI := Lib.hid (And.intro hi (And.intro hz0 (And.intro hz1 hz2)))
  clear hi hz0 hz1 hz2
  have hz : ¬ (3000 : Int) < (s.size : Int) := by omega
  obtain ⟨zs, hzs⟩ : ∃ zs, pts s = zs := ⟨_, rfl⟩
  have HZ := Lib.hid hzs
  have HP : Hid (∀ z ∈ zs, Utf.Pt z) := by
    intro z hz
    rw [← hzs] at hz
    obtain ⟨x, hx, ex⟩ := List.mem_map.1 hz
    rw [← ex]
    exact Utf.decs_pt _ x hx
  obtain ⟨n, hn⟩ : ∃ n, zs.length = n := ⟨_, rfl⟩
  have hlen : n ≤ 3000 := by
    rw [← hn, ← hzs]
    have := Utf.decs_length (bs s)
    rw [bs_len] at this
    unfold pts
    rw [List.length_map]
    omega
  have HN := Lib.hid hn
  rw [hzs, hn] at h0
  have HD : Hid ((Utf.decs (bs s)).length = n) := by show _ = _; rw [← hn, ← hzs]; unfold pts; rw [List.length_map]
  have HG : Hid (∀ i (hi : i < (Utf.decs (bs s)).length), (Utf.decs (bs s))[i].1 = zs.getD i 0) := by
    intro i hi
    rw [← hzs]
    unfold pts
    simp [List.getD, hi]
  clear hzs hn
  go_enter Tryd.func7, Tryd.ntmps7
  go_wp2_with fail
  refine (udecode_any s _ (by with_reducible (repeat (first | assumption | apply Tab.alloc | apply Tab.drew | apply Tab.drewN | (refine Tab.below ?_ (by assumption)) | (refine Tab.drawn ?_ (by assumption))))) (by omega)).mono ?_
  rintro e w1 ⟨v, rfl, b1, o1⟩
  obtain ⟨g, c, rfl, hg, hc1⟩ := o1.rs (by rw [HD.out]; exact h0)
  rw [HD.out]
  have R1 : Hid (∀ i, i < n → w1.cell? ⟨g, i * 5, none⟩ = some (.int .i32 (zs.getD i 0))) := by
    intro i hi
    rw [hc1 i (by rw [HD.out]; exact hi), HG.out i]
  clear o1 hc1
  go_upto_block 0 with fail
  go_cut [4, 5] (fun s4 s5 wx => Below w1.heap.size w1 wx ∧ OwnI wx w.heap.size s4 zs)
  case first =>
    go_wp2_with fail
    go_loopg [4, 5] 4000 (fun gh s4 s5 wx => Below w1.heap.size w1 wx ∧ ∃ k : Nat, s5 = .int .i64 k ∧ k ≤ n ∧ gh = 4000 - k ∧ wx.ownsRow w1.heap.size 21 1 s4 k ((zs.map (Value.int .i32)).take k))
    case atStart => exact ⟨Below.refl _ _, 0, rfl, by omega, rfl, World.ownsRow_nil _ _ _ _⟩
    case round =>
      obtain ⟨bel, k, rfl, hk, rfl, hown⟩ := hrel
      have hsz := bel.size
      by_cases hlt : k < n
      · have hltz : (k : Int) < (n : Int) := by omega
        have hcell : wr.cell? ⟨g, k * 5, none⟩ = some (.int .i32 (zs.getD k 0)) := by
          rw [bel.cell hg]
          exact R1.out k hlt
        have HT : Hid ((zs.map (Value.int .i32)).take (k + 1) = (zs.map (Value.int .i32)).take k ++ [.int .i32 (zs.getD k 0)]) := by
          have hk2 : k < zs.length := by rw [HN.out]; exact hlt
          have hk3 : k < (zs.map (Value.int .i32)).length := by rw [List.length_map]; exact hk2
          show _ = _
          rw [List.take_succ_eq_append_getElem hk3, List.getElem_map]
          simp only [List.getD, List.getElem?_eq_getElem hk2, Option.getD_some]
        generalize zs.getD k 0 = x at *
        go_wp2_with (at_builtin; refine wpList_append_own _ rfl _ _ 28 rfl w1.heap.size 21 i0 (.int .i32 0) 1 4 Tryd.underlying28 HI.out.1 HI.out.2.1 HI.out.2.2.1 HI.out.2.2.2 rfl (by decide) _ _ _ rfl (hown.alloc _) ⟨wr.heap.size, 0, none⟩ 1 1 [.int .i32 x] rfl rfl ?c1 ?c2 ?c3 ?c4 ?c5 ?_)
        case c1 => exact cell_one_new _ _ _
        case c2 => intro u hu; simp at hu; subst hu; rfl
        case c3 => unfold maxLen; omega
        case c4 => omega
        case c5 => simp; omega
        intro v' w2 hown2 hgrow _
        have bel2 : Below w1.heap.size w1 w2 := (bel.alloc hsz _).grown hgrow (by simp; omega) (fun q hq => (hown.lt q hq).1)
        clear hgrow hown hcell
        go_wp2_with fail
        go_roundg (4000 - (k + 1))
        case measure => omega
        case rel => exact ⟨bel2, k + 1, by go_num, by omega, rfl, by rw [HT.out]; exact hown2⟩
      · obtain rfl : k = n := by omega
        have hltz : ¬ (k : Int) < (k : Int) := by omega
        have fin := ownI_of HN.out b1.size hown
        clear hown
        go_wp2_with fail
        go_meet
        exact ⟨bel, fin⟩
  case rest =>
    obtain ⟨bel, op⟩ := hcut
    go_wp2_with fail
    refine (enc_own op (by rw [HN.out]; omega) HP.out).mono ?_
    rintro e w3 ⟨t, rfl, ht, b3⟩
    have op3 := op.kept b3
    obtain ⟨k1, k2, k3, k4⟩ := again_facts s t (by rw [ht, HZ.out]) (by omega)
    rw [HZ.out, HN.out] at k3
    have K3 := Lib.hid k3
    have K4 : Hid (∀ i, i < n → ∀ hi : i < (Utf.decs (bs t)).length, (Utf.decs (bs t))[i].1 = zs.getD i 0) := by
      intro i hin hi
      have hj : i < (pts s).length := by rw [HZ.out, HN.out]; exact hin
      rw [k4 i hi hj]
      have : ∀ (l m : List Int) (hl : i < l.length), l = m → l[i] = m.getD i 0 := by
        intro l m hl e
        subst e
        simp [List.getD, hl]
      exact this _ _ hj HZ.out
    have V : Hid (∀ w, Tab w → Calls Tryd.prog 14 #[.string t] w fun e w' => e = .returned (.bool true) ∧ Below w.heap.size w w') := fun w hTw => by
      have h := uvalid_any t w hTw (by omega)
      rw [k2] at h
      exact h
    have CN : Hid (∀ w, Tab w → Calls Tryd.prog 13 #[.string t] w fun e w' => e = .returned (.int .i64 n) ∧ Below w.heap.size w w') := fun w hTw => by
      have h := ucount_any t w hTw (by omega)
      rw [k3] at h
      exact h
    have HT := Lib.hid ht
    clear ht k2 k3 k4 op
    go_wp2_with fail
    refine (udecode_any t _ (by with_reducible (repeat (first | assumption | apply Tab.alloc | apply Tab.drew | apply Tab.drewN | (refine Tab.below ?_ (by assumption)) | (refine Tab.drawn ?_ (by assumption))))) (by omega)).mono ?_
    rintro e w4 ⟨v4, rfl, b4, o4⟩
    obtain ⟨g4, c4, rfl, hg4, hc4⟩ := o4.rs (by rw [K3.out]; exact h0)
    rw [K3.out]
    have R4 : Hid (∀ i, i < n → w4.cell? ⟨g4, i * 5, none⟩ = some (.int .i32 (zs.getD i 0))) := by
      intro i hi
      rw [hc4 i (by rw [K3.out]; exact hi), K4.out i hi]
    have op4 := op3.kept b4
    clear o4 hc4 op3
    go_wp2_with fail
    refine (V.out _ (by with_reducible (repeat (first | assumption | apply Tab.alloc | apply Tab.drew | apply Tab.drewN | (refine Tab.below ?_ (by assumption)) | (refine Tab.drawn ?_ (by assumption)))))).mono ?_
    rintro e w5 ⟨rfl, b5⟩
    go_wp2_with fail
    refine (CN.out _ (by with_reducible (repeat (first | assumption | apply Tab.alloc | apply Tab.drew | apply Tab.drewN | (refine Tab.below ?_ (by assumption)) | (refine Tab.drawn ?_ (by assumption)))))).mono ?_
    rintro e w6 ⟨rfl, b6⟩
    have B6 := below_seq b5 b6
    have op6 := (op4.kept b5).kept b6
    have B1 : Below w1.heap.size w1 w6 := below_seq bel (below_seq b3 (below_seq b4 B6))
    have R6 : Hid (∀ i, i < n → w6.cell? ⟨g4, i * 5, none⟩ = some (.int .i32 (zs.getD i 0)) ∧ w6.cell? ⟨g, i * 5, none⟩ = some (.int .i32 (zs.getD i 0))) := by
      intro i hi
      refine ⟨?_, ?_⟩
      · rw [B6.cell hg4]; exact R4.out i hi
      · rw [B1.cell hg]; exact R1.out i hi
    clear R4 R1 op4
    go_wp2_with fail
    go_loopg [8] 4000 (fun gh s8 wx => Drawn w6 wx ∧ ∃ k : Nat, s8 = .int .i64 k ∧ k ≤ n ∧ gh = 4000 - k)
    case atStart => exact ⟨Drawn.refl _, 0, rfl, by omega, rfl⟩
    case round =>
      obtain ⟨⟨q, rfl⟩, k, rfl, hk, rfl⟩ := hrel
      by_cases hlt : k < n
      · have hltz : (k : Int) < (n : Int) := by omega
        obtain ⟨c1, c2⟩ := R6.out k hlt
        generalize zs.getD k 0 = x at *
        go_wp2_with fail
        go_quiet (fail)
        go_wp2_with fail
        go_roundg (4000 - (k + 1))
        case measure => omega
        case rel => exact ⟨⟨_, rfl⟩, k + 1, by go_num, by omega, rfl⟩
      · have hltz : ¬ (k : Int) < (n : Int) := by omega
        have op7 : OwnI (w6.drewN q) _ _ zs := op6
        go_wp2_with fail
        refine (enc_own op7 (by rw [HN.out]; omega) HP.out).mono ?_
        rintro e w8 ⟨t2, rfl, ht2, b8⟩
        obtain rfl : t2 = t := bs_inj _ _ (by rw [ht2, HT.out])
        clear ht2
        go_wp2_with fail
        refine (uhead_any _ (by with_reducible (repeat (first | assumption | apply Tab.alloc | apply Tab.drew | apply Tab.drewN | (refine Tab.below ?_ (by assumption)) | (refine Tab.drawn ?_ (by assumption)))))).mono ?_
        rintro e w9 ⟨rfl, b9⟩
        go_wp2_with fail
        go_ret
        exact ⟨by simp, below_seq b1 (below_seq B1 (below_seq (below_drawn ⟨q, rfl⟩) (below_seq b8 b9)))⟩

set_option maxRecDepth 100000 in
set_option maxHeartbeats 2000000 in
theorem walk_zero (s : ByteArray) (w : World) (hT : Tab w) (h : ¬ 3000 < s.size) (h0 : (pts s).length = 0) :
    Calls Tryd.prog 7 #[.string s] w fun e w' => e = .returned (.bool true) ∧ Below w.heap.size w w' := by
  have hz : ¬ (3000 : Int) < (s.size : Int) := by omega
  have hp0 : pts s = [] := List.length_eq_zero_iff.1 h0
  have HZ := Lib.hid hp0
  have HD : Hid ((Utf.decs (bs s)).length = 0) := by show _ = _; unfold pts at h0; rw [List.length_map] at h0; exact h0
  clear hp0 h0
  go_enter Tryd.func7, Tryd.ntmps7
  go_wp2_with fail
  refine (udecode_any s _ (by with_reducible (repeat (first | assumption | apply Tab.alloc | apply Tab.drew | apply Tab.drewN | (refine Tab.below ?_ (by assumption)) | (refine Tab.drawn ?_ (by assumption))))) (by omega)).mono ?_
  rintro e w1 ⟨v, rfl, b1, o1⟩
  obtain ⟨A, c, rfl⟩ := o1.form
  rw [chs_len, HD.out]
  clear o1
  go_upto_block 0 with fail
  go_cut [4, 5] (fun s4 s5 wx => w1 = wx ∧ s4 = .slice none 0 0)
  case first =>
    go_wp2_with fail
    refine wp_loop_rounds 1 ?_
    rw [rounds_succ]
    go_wp2_with fail
    go_meet
    exact ⟨rfl, rfl⟩
  case rest =>
    obtain ⟨rfl, rfl⟩ := hcut
    go_wp2_with fail
    refine (uencode_nil _).mono ?_
    rintro e w3 ⟨t, rfl, ht, b3⟩
    obtain ⟨k1, k2, k3, _⟩ := again_facts s t (by rw [ht, HZ.out]; rfl) (by omega)
    rw [HZ.out, List.length_nil] at k3
    have K3 := Lib.hid k3
    have V : Hid (∀ w, Tab w → Calls Tryd.prog 14 #[.string t] w fun e w' => e = .returned (.bool true) ∧ Below w.heap.size w w') := fun w hTw => by
      have h := uvalid_any t w hTw (by omega)
      rw [k2] at h
      exact h
    have CN : Hid (∀ w, Tab w → Calls Tryd.prog 13 #[.string t] w fun e w' => e = .returned (.int .i64 0) ∧ Below w.heap.size w w') := fun w hTw => by
      have h := ucount_any t w hTw (by omega)
      rw [k3] at h
      exact h
    have HT := Lib.hid ht
    clear ht k2 k3
    go_wp2_with fail
    refine (udecode_any t _ (by with_reducible (repeat (first | assumption | apply Tab.alloc | apply Tab.drew | apply Tab.drewN | (refine Tab.below ?_ (by assumption)) | (refine Tab.drawn ?_ (by assumption))))) (by omega)).mono ?_
    rintro e w4 ⟨v4, rfl, b4, o4⟩
    obtain ⟨A4, c4, rfl⟩ := o4.form
    rw [chs_len, K3.out]
    clear o4
    go_wp2_with fail
    refine (V.out _ (by with_reducible (repeat (first | assumption | apply Tab.alloc | apply Tab.drew | apply Tab.drewN | (refine Tab.below ?_ (by assumption)) | (refine Tab.drawn ?_ (by assumption)))))).mono ?_
    rintro e w5 ⟨rfl, b5⟩
    go_wp2_with fail
    refine (CN.out _ (by with_reducible (repeat (first | assumption | apply Tab.alloc | apply Tab.drew | apply Tab.drewN | (refine Tab.below ?_ (by assumption)) | (refine Tab.drawn ?_ (by assumption)))))).mono ?_
    rintro e w6 ⟨rfl, b6⟩
    go_wp2_with fail
    refine wp_loop_rounds 1 ?_
    rw [rounds_succ]
    go_wp2_with fail
    refine (uencode_nil _).mono ?_
    rintro e w8 ⟨t2, rfl, ht2, b8⟩
    obtain rfl : t2 = t := bs_inj _ _ (by rw [ht2, HT.out])
    clear ht2
    go_wp2_with fail
    refine (uhead_any _ (by with_reducible (repeat (first | assumption | apply Tab.alloc | apply Tab.drew | apply Tab.drewN | (refine Tab.below ?_ (by assumption)) | (refine Tab.drawn ?_ (by assumption)))))).mono ?_
    rintro e w9 ⟨rfl, b9⟩
    go_wp2_with fail
    go_ret
    exact ⟨by simp, below_seq b1 (below_seq b3 (below_seq b4 (below_seq b5 (below_seq b6 (below_seq b8 b9)))))⟩

theorem walk (a0 : ByteArray) (w0 : a0.size ≤ maxLen) (w : World) (hT : Tab w) :
    Calls Tryd.prog 7 #[.string a0] w fun e w' => e = .returned (.bool true) ∧ Below w.heap.size w w' := by
  by_cases h : 3000 < a0.size
  · exact walk_long a0 w hT h (by unfold maxLen at w0; omega)
  · rcases Nat.eq_zero_or_pos (pts a0).length with h0 | h0
    · exact walk_zero a0 w hT h h0
    · exact walk_pos a0 w hT h h0

/-! ### THE ROW's STEP -/
theorem laid_met (os : Os) : laidMet Tryd.prog Rows.utfAgainRow.laid ((laidWorld os).forCall (fun _ _ => 0) ⟨#[], #[.string ByteArray.empty], []⟩).memory :=
  laidMet_of_run' 8 (by kernel_rfl) (by kernel_rfl)
theorem reads (os : Os) {H : Type} (enc : TypeId × Value → H) : ∃ places, DataW.whole enc Tryd.prog ((laidWorld os).forCall (fun _ _ => 0) ⟨#[], #[.string ByteArray.empty], []⟩).memory Tryd.f7.params.toList Rows.utfAgainSpec.vars false (#[.string ByteArray.empty] : Array Value).toList 8 = some ([.lit (.string [])], [], places) :=
  ⟨[], by kernel_rfl⟩

set_option maxRecDepth 100000 in
theorem lifted (os : Os) (started : os.Started) (H : Type) (enc : TypeId × Value → H) (F : Stop.Interp) :
    ReturnsInHanded {} Tryd.checked os 7 .any ((OpenSpec.ofChange Rows.utfAgainSpec).preRow enc Tryd.prog Tryd.f7 Rows.utfAgainRow.domain false Rows.utfAgainRow.laid) (((OpenSpec.ofChange Rows.utfAgainSpec).at F).post enc Tryd.prog Tryd.f7 false true false false) := by
  obtain ⟨places, hx⟩ := reads os enc
  refine returnsInHanded_of_row (C := Tryd.checked) (s := OpenSpec.ofChange Rows.utfAgainSpec) own started (by kernel_rfl) Tryd.func7
    (witness_row_at (enc := enc) (C := Tryd.checked) false (laidWorld os) #[.string ByteArray.empty] rfl (by kernel_rfl) (by kernel_rfl) (by kernel_rfl)
      (OpenSpec.preRow_of_cond 8 hx (by kernel_rfl) (fun k hk => by cases hk) (by kernel_rfl) (laid_met os))) ?_
  intro W base args ds gs before hval0 hW _ _ _ hL _ _
  have hval : ∀ (j : Nat) t v, Tryd.f7.params[j]? = some t → args[j]? = some v → Value.okWide Tryd.prog W .any base t v := hval0
  have hW' := hW
  obtain ⟨p, q, hA0, hV, rfl, hfz, hnd⟩ := hW
  have hA : DataW.TrodAll enc Tryd.prog W 0 (fun _ => true) true Tryd.f7.params.toList args.toList ds p := hA0
  rw [Tryd.params7] at hA hval
  obtain ⟨v0, vs0, d0, ds0, p0, q0, hargs, rfl, rfl, h0, r0⟩ := trodAll_cons hA
  obtain ⟨rfl, rfl, rfl⟩ := trodAll_nil r0
  obtain rfl : args = #[v0] := by cases args; simp_all
  obtain ⟨rfl, rfl⟩ := trodVars_none hV
  obtain ⟨a0, rfl, rfl, rfl, w0⟩ := open_string Tryd.underlying9 (hval 0 9 v0 rfl rfl) h0
  clear hA0 hval0
  refine (walk a0 w0 W (tab_of hL)).mono fun e W' ⟨he, bel⟩ => ?_
  subst he
  exact ⟨_, rfl, _, _, _, [], _, [], hW', trodAll_mk1 (shut_bool Tryd.underlying4 _), (trodAll_cons_mk (shut_string Tryd.underlying9 w0) trodAll_mk0), rfl, bel.frame _, fun h => by cases h⟩

theorem said : Rows.UtfAgainSaid :=
  OpenClaim.holds_of_cond 7 Tryd.f7 rfl rfl rfl rfl rfl rfl rfl ⟨rfl, rfl, rfl, rfl, rfl⟩ rfl rfl rfl rfl rfl (by kernel_rfl) Tryd.func7 (by kernel_rfl)
    (of_decide_eq_true (by kernel_rfl)) (by unfold Func.isWrapper; first | (rw [if_pos (by decide +kernel)]; kernel_rfl) | (rw [if_neg (by decide +kernel)]; exact ⟨rfl, rfl⟩))
    (fun os started H enc _ F => by rw [OpenClaim.pre_eq_preRow]; exact lifted os started H enc F)

/-- no parameter wants a stand-in; the program's own looks are off -/
theorem plain (f : FuncId) (fn : Func) (hf : Tryd.pinned.checked.prog.funcNamed "stickful/stickfullaw02.UtfAgain" = some f) (hfn : Tryd.pinned.checked.prog.funcs[f]? = some fn) :
    false = Tryd.pinned.checked.prog.looks [] ∧ ∀ (j : Nat) t, fn.params[j]? = some t → Tryd.pinned.checked.prog.wantsStandIn t = false := by
  obtain rfl : f = 7 := Option.some.inj ((show Tryd.prog.funcNamed "stickful/stickfullaw02.UtfAgain" = some 7 by kernel_rfl).symm.trans hf) |>.symm
  obtain rfl : fn = Tryd.f7 := (Option.some.inj (Tryd.func7.symm.trans hfn)).symm
  refine ⟨by kernel_rfl, fun j t ht => ?_⟩
  rw [Tryd.params7] at ht
  have hm : t ∈ [9] := by simpa using Array.mem_of_getElem? ht
  have hall : ([9].all fun u => !Tryd.prog.wantsStandIn u) = true := by kernel_rfl
  exact (show Tryd.prog.wantsStandIn t = false by simpa using List.all_eq_true.1 hall t hm)

/-- ████ THE STATEMENT: THE TIED CARD ████ -/
theorem card : Rows.UtfAgainCardSaid :=
  Claim7.holds_tied_plain_at .later [] _ _ _ _ said (fun _ h => by cases h) (by kernel_rfl) (fun _ h => by cases h) utfAgain_row_tie rfl ⟨rfl, rfl⟩ (by kernel_rfl) rfl plain (by kernel_rfl)
#print axioms card
end Go.Proofs.YtgnalnppjhgmjaaDoor.utfAgain
