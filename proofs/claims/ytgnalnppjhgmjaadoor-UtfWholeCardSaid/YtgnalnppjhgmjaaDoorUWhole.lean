/- UtfWhole: for every input the law returns true, and its arguments read behind the call as they did before. No condition on the input; the package variable that the program's text lays (the table of forms) is as it was laid (the card ties it to the text). -/
import Derived.Test.YtgnalnppjhgmjaaDoorUHead
import Derived.Test.YtgnalnppjhgmjaaDoorULaid
import Derived.Test.YtgnalnppjhgmjaaDoorRows
import Derived.Test.YtgnalnppjhgmjaaDoorCards
import Derived.Test.YtgnalnppjhgmjaaDoorTie
import Derived.Deep.DeepHandedRow
import Derived.Lib.LaidTab
import Derived.WalkKit
import Derived.ProofKit
import Derived.OpenShut
import Derived.ShutString
import Derived.ChangeOld
import Derived.Below
import Derived.OwnWalk
import Derived.Maps.AppendAt
import Derived.Deep.AppendLies
import Derived.Deep.DeepCutAuto
import Derived.Deep.CutBlock
import Derived.Deep.RegionHeld3
namespace Go.Proofs.YtgnalnppjhgmjaaDoor.utfWhole
open Go.ChangeShapes Go.WideShapes Go.ChangeAt Go.RowKit
open Go.ChangeMaps (open_string shut_string)
set_option linter.unusedVariables false      -- a walk need not use every 'w<i>' (that an integer argument fits its kind)

theorem own : ownKnob Tryd.prog.godebug = none := by kernel_rfl

theorem Tryd.infoI : (Tryd.prog.info? 21).map (fun i => (i.zero, i.size, i.bytes)) = some (some (.int .i32 0), 1, 4) := by kernel_rfl

/-- a row of numbers -/
def OwnI (w : World) (base : Nat) (v : Value) (zs : List Int) : Prop := w.ownsRow base 21 1 v zs.length (zs.map (Value.int .i32))

theorem OwnI.kept {w w' : World} {base : Nat} {v : Value} {l : List Int} (h : OwnI w base v l) (hb : Below w.heap.size w w') : OwnI w' base v l := by
  refine ⟨h.1, ?_⟩
  rcases h.2 with hn | ⟨g, cap, cur, rfl, h1, hg, rest⟩
  · exact .inl hn
  · refine .inr ⟨g, cap, cur, rfl, h1, ?_, rest⟩
    rw [hb.block g (Array.getElem?_eq_some_iff.1 hg).1]
    exact hg

theorem ownI_of {w : World} {b b' : Nat} {v : Value} {zs : List Int} {n : Nat} (hn : zs.length = n) (hb : b' ≤ b) (h : w.ownsRow b 21 1 v n ((zs.map (Value.int .i32)).take n)) : OwnI w b' v zs := by
  subst hn
  rw [List.take_of_length_le (by rw [List.length_map]; omega)] at h
  refine ⟨h.1, ?_⟩
  rcases h.2 with hnil | ⟨gg, cap, cur, e1, e2, rest⟩
  · exact .inl hnil
  · exact .inr ⟨gg, cap, cur, e1, Nat.le_trans hb e2, rest⟩

/-- utf.Encode at a row of the call's own -/
theorem enc_own {w : World} {base : Nat} {v : Value} {zs : List Int} (h : OwnI w base v zs) (hn : zs.length ≤ 5000) (hr : ∀ z ∈ zs, Utf.Pt z) :
    Calls Tryd.prog 16 #[v] w fun e w' => ∃ s, e = .returned (.string s) ∧ bs s = Utf.enc zs ∧ Below w.heap.size w w' := by
  rcases h.2 with ⟨rfl, h0⟩ | ⟨g, cap, cur, rfl, h1, hg, rest⟩
  · have : zs = [] := List.length_eq_zero_iff.1 h0
    subst this
    exact uencode_nil w
  · refine uencode_some ⟨g, 0, none⟩ zs cap w hn (Or.inr (Array.getElem?_eq_some_iff.1 hg).1) (fun j hj => ?_) (fun z hz => by have := hr z hz; unfold Utf.Pt at this; omega)
    refine World.ownsRow.cells h (g := g) rfl j _ ?_
    simp [List.getD, hj]

set_option maxRecDepth 100000 in
set_option maxHeartbeats 1000000 in
theorem walk_long (s : ByteArray) (w : World) (hT : Tab w) (h : 5000 < s.size) (hm : s.size ≤ 9223372036854775807) :
    Calls Tryd.prog 5 #[.string s] w fun e w' => e = .returned (.bool true) ∧ Below w.heap.size w w' := by
  have hz : (5000 : Int) < (s.size : Int) := by omega
  go_enter Tryd.func5, Tryd.ntmps5
  go_wp2_with fail
  refine (uhead_any _ (by with_reducible (repeat (first | assumption | apply Tab.alloc | apply Tab.drew | apply Tab.drewN | (refine Tab.below ?_ (by assumption)) | (refine Tab.drawn ?_ (by assumption)))))).mono ?_
  rintro e w1 ⟨rfl, b1⟩
  go_wp2_with fail
  go_ret
  exact ⟨rfl, b1⟩

/-- the k-th character of a text -/
theorem char_at : ∀ (m : Nat) (l : List Nat), l.length ≤ m → ∀ k (hk : k < (Utf.decs l).length), ∃ q : Nat, q = (((Utf.decs l).take k).map Prod.snd).sum ∧ q + (Utf.decs l)[k].2 ≤ l.length ∧ 1 ≤ (Utf.decs l)[k].2 ∧ (Utf.decs l)[k].2 ≤ 4 ∧ ((Utf.decs l)[k].1 ≠ 65533 → Utf.one (Utf.decs l)[k].1 = (l.drop q).take (Utf.decs l)[k].2)
  | 0, l, hl, k, hk => by
    have : l = [] := List.length_eq_zero_iff.1 (by omega)
    subst this
    simp [Utf.decs] at hk
  | m + 1, [], _, k, hk => by simp [Utf.decs] at hk
  | m + 1, c :: r, hl, k, hk => by
    have hb := Utf.size_bd c r
    have e : Utf.decs (c :: r) = (Utf.rune (c :: r), Utf.size (c :: r)) :: Utf.decs ((c :: r).drop (Utf.size (c :: r))) := by rw [Utf.decs]
    cases k with
    | zero =>
      refine ⟨0, by simp, ?_⟩
      have e0 : (Utf.decs (c :: r))[0] = (Utf.rune (c :: r), Utf.size (c :: r)) := by simp [e]
      rw [e0]
      refine ⟨by omega, hb.1, hb.2.1, fun h => ?_⟩
      rw [List.drop_zero]
      exact Utf.rune_bytes _ h
    | succ k =>
      have hk2 : k < (Utf.decs ((c :: r).drop (Utf.size (c :: r)))).length := by rw [e] at hk; simpa using hk
      obtain ⟨q, hq, h1, h2, h3, h4⟩ := char_at m ((c :: r).drop (Utf.size (c :: r))) (by rw [List.length_drop]; omega) k hk2
      have ek : (Utf.decs (c :: r))[k + 1] = (Utf.decs ((c :: r).drop (Utf.size (c :: r))))[k] := by simp [e]
      rw [ek]
      refine ⟨Utf.size (c :: r) + q, ?_, ?_, h2, h3, ?_⟩
      · rw [e, List.take_succ_cons, List.map_cons, List.sum_cons, ← hq]
      · rw [List.length_drop] at h1; omega
      · intro h
        rw [h4 h, List.drop_drop]

theorem chs_exact : ∀ (l : List (Int × Nat)) (k i : Nat) (h : i < l.length), (chs k l)[i]'(by rw [chs_len]; exact h) = ⟨l[i].1, 0, ((k + ((l.take i).map Prod.snd).sum : Nat) : Int), l[i].2, 0⟩
  | [], _, _, h => by simp at h
  | (r, n) :: t, k, 0, _ => by simp [chs]
  | (r, n) :: t, k, i + 1, h => by
    have := chs_exact t (k + n) i (by simpa using h)
    simp only [chs, List.getElem_cons_succ]
    rw [this]
    simp
    omega

theorem own_kept2 {w w' : World} {base : Nat} {e : TypeId} {size : Nat} {v : Value} {n : Nat} {xs : List Value} (h : w.ownsRow base e size v n xs) (hb : Below w.heap.size w w') : w'.ownsRow base e size v n xs := by
  refine ⟨h.1, ?_⟩
  rcases h.2 with hn | ⟨g, cap, cur, rfl, h1, hg, rest⟩
  · exact .inl hn
  · refine .inr ⟨g, cap, cur, rfl, h1, ?_, rest⟩
    rw [hb.block g (Array.getElem?_eq_some_iff.1 hg).1]
    exact hg

/-- what the law asks of the k-th character -/
def CharAt (s : ByteArray) (w : World) (g k : Nat) (r : Int) (q m : Nat) : Prop :=
  (w.cell? ⟨g, k * 5, none⟩ = some (.int .i32 r) ∧ w.cell? ⟨g, k * 5 + 1, none⟩ = some (.int .i64 0) ∧ w.cell? ⟨g, k * 5 + 2, none⟩ = some (.int .i64 q) ∧ w.cell? ⟨g, k * 5 + 3, none⟩ = some (.int .i64 m) ∧ w.cell? ⟨g, k * 5 + 4, none⟩ = some (.int .u8 0)) ∧
  (q + m ≤ s.size ∧ 1 ≤ m ∧ m ≤ 4) ∧ Utf.Pt r ∧ (r ≠ 65533 → Utf.one r = bs (s.extract q (q + m)))

set_option maxRecDepth 100000 in
set_option maxHeartbeats 4000000 in
theorem walk_pos (s : ByteArray) (w : World) (hT : Tab w) (h : ¬ 5000 < s.size) (h0 : 0 < (Utf.decs (bs s)).length) :
    Calls Tryd.prog 5 #[.string s] w fun e w' => e = .returned (.bool true) ∧ Below w.heap.size w w' := by
  obtain ⟨i0, hi, hz0, hz1, hz2⟩ := info_parts Tryd.infoI
  have HI := Lib.hid (And.intro hi (And.intro hz0 (And.intro hz1 hz2)))
  clear hi hz0 hz1 hz2
  have hz : ¬ (5000 : Int) < (s.size : Int) := by omega
  obtain ⟨l, hl⟩ : ∃ l, Utf.decs (bs s) = l := ⟨_, rfl⟩
  have HL := Lib.hid hl
  obtain ⟨n, hn⟩ : ∃ n, l.length = n := ⟨_, rfl⟩
  have HN := Lib.hid hn
  rw [hl, hn] at h0
  have hlen : n ≤ 5000 := by
    have := Utf.decs_length (bs s)
    rw [hl, hn, bs_len] at this
    omega
  have HP : Hid (∀ z ∈ l.map Prod.fst, Utf.Pt z) := by
    intro z hz
    obtain ⟨x, hx, ex⟩ := List.mem_map.1 hz
    rw [← ex]
    rw [← hl] at hx
    exact Utf.decs_pt _ x hx
  have HS : Hid ((l.map Prod.snd).sum = s.size) := by show _ = _; rw [← hl, Utf.decs_sum, bs_len]
  clear hl hn
  go_enter Tryd.func5, Tryd.ntmps5
  go_wp2_with fail
  refine (udecode_any s _ (by with_reducible (repeat (first | assumption | apply Tab.alloc | apply Tab.drew | apply Tab.drewN | (refine Tab.below ?_ (by assumption)) | (refine Tab.drawn ?_ (by assumption))))) (by omega)).mono ?_
  rintro e w1 ⟨v, rfl, b1, o1⟩
  rw [HL.out] at o1
  obtain ⟨g, c, rfl, _, hg, H1⟩ := o1.form1 (by rw [chs_len, HN.out]; exact h0)
  rw [chs_len, HN.out]
  have CH : Hid (∀ k, k < n → ∃ (r : Int) (q m : Nat), q = ((l.take k).map Prod.snd).sum ∧ ((l.take (k + 1)).map Prod.snd).sum = q + m ∧ (l.map Prod.fst).getD k 0 = r ∧ CharAt s w1 g k r q m) := by
    intro k hk
    have hk2 : k < l.length := by rw [HN.out]; exact hk
    have hk3 : k < (Utf.decs (bs s)).length := by rw [HL.out]; exact hk2
    obtain ⟨q, hq, a1, a2, a3, a4⟩ := char_at _ (bs s) (Nat.le_refl _) k hk3
    have hc := H1 k (by rw [chs_len]; exact hk2)
    rw [chs_exact l 0 k hk2] at hc
    have e : ∀ (m : List (Int × Nat)) (e : m = l) (h1 : k < m.length), m[k] = l[k] := by intro m e h1; subst e; rfl
    have e2 := e _ HL.out hk3
    rw [HL.out] at hq
    rw [e2] at a1 a2 a3 a4
    simp only [Nat.zero_add] at hc
    rw [← hq] at hc
    refine ⟨l[k].1, q, l[k].2, hq, ?_, ?_, hc, ⟨by rw [bs_len] at a1; exact a1, a2, a3⟩, ?_, ?_⟩
    · rw [List.take_succ_eq_append_getElem hk2, List.map_append, List.sum_append, ← hq]
      simp
    · simp [List.getD, hk2]
    · exact HP.out _ (List.mem_map.2 ⟨l[k], List.getElem_mem hk2, rfl⟩)
    · intro hr
      rw [a4 hr, bs_extract, Nat.add_sub_cancel_left]
  clear o1 H1
  obtain ⟨zs, hzs⟩ : ∃ zs, l.map Prod.fst = zs := ⟨_, rfl⟩
  have HZ := Lib.hid hzs
  rw [hzs] at CH HP
  have ZN : Hid (zs.length = n) := by show _ = _; rw [← hzs, List.length_map, HN.out]
  clear hzs
  go_upto_block 0 with fail
  go_cut [4, 5, 6] (fun s4 s5 s6 wx => Below w1.heap.size w1 wx ∧ s4 = .int .i64 s.size ∧ OwnI wx w.heap.size s5 zs)
  case first =>
    go_wp2_with fail
    go_loopg [4, 5, 6] 6000 (fun gh s4 s5 s6 wx => Below w1.heap.size w1 wx ∧ ∃ k q : Nat, s6 = .int .i64 k ∧ s4 = .int .i64 q ∧ k ≤ n ∧ gh = 6000 - k ∧ Hid (q = ((l.take k).map Prod.snd).sum) ∧ wx.ownsRow w1.heap.size 21 1 s5 k ((zs.map (Value.int .i32)).take k))
    case atStart => exact ⟨Below.refl _ _, 0, 0, rfl, rfl, by omega, rfl, rfl, World.ownsRow_nil _ _ _ _⟩
    case round =>
      obtain ⟨bel, k, q, rfl, rfl, hk, rfl, HQ, hown⟩ := hrel
      obtain ⟨wo, rfl⟩ : ∃ wo : World, wo = wr := ⟨_, rfl⟩
      have hsz := bel.size
      by_cases hlt : k < n
      · have hltz : (k : Int) < (n : Int) := by omega
        obtain ⟨r, q2, m, hq2, hnx, hzr, ⟨d1, d2, d3, d4, d5⟩, ⟨m1, m2, m3⟩, hp, hone⟩ := CH.out k hlt
        obtain rfl : q2 = q := by rw [hq2, HQ.out]
        rw [← bel.cell hg] at d1 d2 d3 d4 d5
        have NX := Lib.hid hnx
        have ONE := Lib.hid hone
        have PT := Lib.hid hp
        have ZR := Lib.hid hzr
        clear hq2 hnx hone hp hzr
        go_upto_region 10 with fail
        go_cut [75] (fun s75 wx => s75 = .bool false ∧ Below (wo.alloc (.cells #[.int .i32 r, .int .i64 0, .int .i64 q2, .int .i64 m, .int .u8 0] 32)).heap.size (wo.alloc (.cells #[.int .i32 r, .int .i64 0, .int .i64 q2, .int .i64 m, .int .u8 0] 32)) wx)
        case first =>
          have x1 : decide ((m : Int) < 1) = false := by simp; omega
          have x2 : decide ((4 : Int) < (m : Int)) = false := by simp; omega
          have x3 : IntKind.i64.wrap ((q2 : Int) + m) = (q2 : Int) + m := IntWalk.i64_in _ (by omega)
          have x4 : decide ((s.size : Int) < (q2 : Int) + m) = false := by simp; omega
          by_cases hr : r = 65533
          · subst hr
            go_quiet (fail)
            go_wp2_with fail
            go_meet
            exact ⟨rfl, below_drawn ⟨_, rfl⟩⟩
          · have P : Hid (∀ (gg : Nat) (W : World), W.cell? ⟨gg, 0, none⟩ = some (.int .i32 r) → Calls Tryd.prog 16 #[.slice (some ⟨gg, 0, none⟩) 1 1] W fun e w' => e = .returned (.string (s.extract q2 (q2 + m))) ∧ Below W.heap.size W w') := by
              intro gg W hW
              have pt := PT.out
              unfold Utf.Pt at pt
              refine (uencode_some ⟨gg, 0, none⟩ [r] 1 W (by simp) (Or.inr (World.block_lt_of_cell? _ _ hW)) (fun j hj => ?_) (by simp; omega)).mono ?_
              · have : j = 0 := by simp at hj; omega
                subst this
                exact hW
              · rintro e w' ⟨t, rfl, ht, b⟩
                have e2 : Utf.enc [r] = Utf.one r := by simp [Utf.enc]
                rw [e2, ONE.out hr] at ht
                obtain rfl : t = s.extract q2 (q2 + m) := bs_inj _ _ ht
                exact ⟨rfl, b⟩
            have hr1 : (r == 65533) = false := by simpa using hr
            have hr2 : (r != 65533) = true := by simpa using hr
            clear hr
            have KK : Hid (∀ w3 : World, Below ((wo.alloc (.cells #[.int .i32 r, .int .i64 0, .int .i64 q2, .int .i64 m, .int .u8 0] 32)).alloc (.cells #[.int .i32 r] 21)).drew.heap.size ((wo.alloc (.cells #[.int .i32 r, .int .i64 0, .int .i64 q2, .int .i64 m, .int .u8 0] 32)).alloc (.cells #[.int .i32 r] 21)).drew w3 → (w3.cell? ⟨wo.heap.size, 0, none⟩ = some (.int .i32 r) ∧ w3.cell? ⟨wo.heap.size, 1, none⟩ = some (.int .i64 0) ∧ w3.cell? ⟨wo.heap.size, 2, none⟩ = some (.int .i64 q2) ∧ w3.cell? ⟨wo.heap.size, 3, none⟩ = some (.int .i64 m) ∧ w3.cell? ⟨wo.heap.size, 4, none⟩ = some (.int .u8 0)) ∧ Below (wo.alloc (.cells #[.int .i32 r, .int .i64 0, .int .i64 q2, .int .i64 m, .int .u8 0] 32)).heap.size (wo.alloc (.cells #[.int .i32 r, .int .i64 0, .int .i64 q2, .int .i64 m, .int .u8 0] 32)) w3) := by
              intro w3 b
              have hlt2 : wo.heap.size < ((wo.alloc (.cells #[.int .i32 r, .int .i64 0, .int .i64 q2, .int .i64 m, .int .u8 0] 32)).alloc (.cells #[.int .i32 r] 21)).drew.heap.size := by simp; omega
              exact ⟨⟨(b.cell hlt2).trans (by simp), (b.cell hlt2).trans (by simp), (b.cell hlt2).trans (by simp), (b.cell hlt2).trans (by simp), (b.cell hlt2).trans (by simp)⟩, (below_alloc _ _).drew.trans (b.mono (by simp))⟩
            have t1 : ((q2 : Int) + (m : Int)).toNat = q2 + m := by omega
            have t2 : (q2 : Int) ≤ (q2 : Int) + (m : Int) := by omega
            have t3 : (q2 : Int) + (m : Int) ≤ (s.size : Int) := by omega
            have t4 : (0 : Int) ≤ (q2 : Int) + (m : Int) := by omega
            have t5 : q2 + m ≤ s.size := m1
            have t6 : q2 ≤ q2 + m := by omega
            go_region_held3 (fun w' => w'.cell? ⟨wo.heap.size, 0, none⟩ = some (.int .i32 r) ∧ w'.cell? ⟨wo.heap.size, 1, none⟩ = some (.int .i64 0) ∧ w'.cell? ⟨wo.heap.size, 2, none⟩ = some (.int .i64 q2) ∧ w'.cell? ⟨wo.heap.size, 3, none⟩ = some (.int .i64 m) ∧ w'.cell? ⟨wo.heap.size, 4, none⟩ = some (.int .u8 0)) (go_keep) (first
              | (go_at_call 16; refine (P.out _ _ ?_).mono ?_; (simp); rintro e w3 ⟨rfl, b3⟩; obtain ⟨⟨k0, k1, k2, k3, k4⟩, BF⟩ := KK.out w3 b3))
            all_goals (go_wp2_with fail; go_meet; exact ⟨rfl, BF⟩)
        case rest =>
          obtain ⟨rfl, b2⟩ := hcut
          have f0 : wc.cell? ⟨wo.heap.size, 0, none⟩ = some (.int .i32 r) := (b2.cell (by simp)).trans (by simp)
          have f3 : wc.cell? ⟨wo.heap.size, 3, none⟩ = some (.int .i64 m) := (b2.cell (by simp)).trans (by simp)
          have bel2 : Below w1.heap.size w1 wc := below_seq bel (below_seq (below_alloc _ _) b2)
          have own2 : wc.ownsRow w1.heap.size 21 1 _ k ((zs.map (Value.int .i32)).take k) := own_kept2 (hown.alloc _) b2
          have HT : Hid ((zs.map (Value.int .i32)).take (k + 1) = (zs.map (Value.int .i32)).take k ++ [.int .i32 r]) := by
            have hk2 : k < zs.length := by rw [ZN.out]; exact hlt
            have hk3 : k < (zs.map (Value.int .i32)).length := by rw [List.length_map]; exact hk2
            have e := ZR.out
            simp only [List.getD, List.getElem?_eq_getElem hk2, Option.getD_some] at e
            show _ = _
            rw [List.take_succ_eq_append_getElem hk3, List.getElem_map, e]
          clear hown b2 bel d1 d2 d3 d4 d5
          go_wp2_with (at_builtin; refine wpList_append_own _ rfl _ _ 28 rfl w1.heap.size 21 i0 (.int .i32 0) 1 4 Tryd.underlying28 HI.out.1 HI.out.2.1 HI.out.2.2.1 HI.out.2.2.2 rfl (by decide) _ _ _ rfl (own2.alloc _) ⟨wc.heap.size, 0, none⟩ 1 1 [.int .i32 r] rfl rfl ?c1 ?c2 ?c3 ?c4 ?c5 ?_)
          case c1 => exact cell_one_new _ _ _
          case c2 => intro u hu; simp at hu; subst hu; rfl
          case c3 => unfold maxLen; omega
          case c4 => omega
          case c5 => have := bel2.size; simp; omega
          intro v' w3 hown3 hgrow _
          have bel3 : Below w1.heap.size w1 w3 := (bel2.alloc bel2.size _).grown hgrow (by simp; have := bel2.size; omega) (fun x hx => (own2.lt x hx).1)
          clear hgrow own2
          go_wp2_with fail
          go_roundg (6000 - (k + 1))
          case measure => omega
          case rel => exact ⟨bel3, k + 1, q2 + m, by go_num, by go_num, by omega, rfl, NX.out.symm, by rw [HT.out]; exact hown3⟩
      · obtain rfl : k = n := by omega
        have hltz : ¬ (k : Int) < (k : Int) := by omega
        have fin := ownI_of ZN.out b1.size hown
        have hqq : q = s.size := by rw [HQ.out, List.take_of_length_le (by rw [HN.out]; omega), HS.out]
        clear hown
        go_wp2_with fail
        go_meet
        exact ⟨bel, rfl, fin⟩
  case rest =>
    obtain ⟨bel, rfl, op⟩ := hcut
    have VT : Hid (∀ t : ByteArray, bs t = Utf.enc zs → (t = s ↔ Utf.valid (bs s) = true)) := by
      intro t ht
      have e := Utf.enc_decs_iff (bs s)
      rw [HL.out, HZ.out, ← ht] at e
      rw [← e]
      exact ⟨fun h => by rw [h], fun h => bs_inj _ _ h⟩
    go_wp2_with fail
    refine (enc_own op (by rw [ZN.out]; exact hlen) HP.out).mono ?_
    rintro e w2 ⟨t, rfl, ht, b2⟩
    have vt := VT.out t ht
    clear ht
    by_cases hv2 : Utf.valid (bs s) = true
    · have q2 : t.toList = s.toList := by rw [vt.2 hv2]
      have q1 : (t.toList == s.toList) = true := by simp [q2]
      clear vt
      go_wp2_with fail
      refine (uvalid_any s _ (by with_reducible (repeat (first | assumption | apply Tab.alloc | apply Tab.drew | apply Tab.drewN | (refine Tab.below ?_ (by assumption)) | (refine Tab.drawn ?_ (by assumption))))) (by omega)).mono ?_
      rintro e w3 ⟨rfl, b3⟩
      rw [hv2]
      go_wp2_with fail
      refine (uhead_any _ (by with_reducible (repeat (first | assumption | apply Tab.alloc | apply Tab.drew | apply Tab.drewN | (refine Tab.below ?_ (by assumption)) | (refine Tab.drawn ?_ (by assumption)))))).mono ?_
      rintro e w4 ⟨rfl, b4⟩
      go_wp2_with fail
      go_ret
      exact ⟨rfl, below_seq b1 (below_seq bel (below_seq b2 (below_seq b3 b4)))⟩
    · have q2 : ¬ t.toList = s.toList := fun h => hv2 (vt.1 (bs_inj _ _ (by unfold bs; rw [← ByteArray.toList_eq, ← ByteArray.toList_eq, h])))
      have q1 : (t.toList == s.toList) = false := by simpa using q2
      rw [Bool.not_eq_true] at hv2
      clear vt
      go_wp2_with fail
      refine (uvalid_any s _ (by with_reducible (repeat (first | assumption | apply Tab.alloc | apply Tab.drew | apply Tab.drewN | (refine Tab.below ?_ (by assumption)) | (refine Tab.drawn ?_ (by assumption))))) (by omega)).mono ?_
      rintro e w3 ⟨rfl, b3⟩
      rw [hv2]
      go_wp2_with fail
      refine (uhead_any _ (by with_reducible (repeat (first | assumption | apply Tab.alloc | apply Tab.drew | apply Tab.drewN | (refine Tab.below ?_ (by assumption)) | (refine Tab.drawn ?_ (by assumption)))))).mono ?_
      rintro e w4 ⟨rfl, b4⟩
      go_wp2_with fail
      go_ret
      exact ⟨rfl, below_seq b1 (below_seq bel (below_seq b2 (below_seq b3 b4)))⟩

set_option maxRecDepth 100000 in
set_option maxHeartbeats 1000000 in
theorem walk_zero (w : World) (hT : Tab w) :
    Calls Tryd.prog 5 #[.string ⟨#[]⟩] w fun e w' => e = .returned (.bool true) ∧ Below w.heap.size w w' := by
  have P1 : Hid (∀ w, Tab w → Calls Tryd.prog 10 #[.string ⟨#[]⟩] w fun e w' => ∃ A c, e = .returned (.slice A 0 c) ∧ Below w.heap.size w w') := fun w hTw => by
    refine (udecode_any ⟨#[]⟩ w hTw (by decide)).mono ?_
    rintro e w' ⟨v, rfl, b, o⟩
    rw [show bs ⟨#[]⟩ = [] from rfl] at o
    obtain ⟨A, c, rfl⟩ := o.form
    rw [chs_len, show Utf.decs [] = [] by simp [Utf.decs]]
    exact ⟨A, c, rfl, b⟩
  have P2 : Hid (∀ w, Calls Tryd.prog 16 #[.slice none 0 0] w fun e w' => e = .returned (.string ⟨#[]⟩) ∧ Below w.heap.size w w') := fun w => by
    refine (uencode_nil w).mono ?_
    rintro e w' ⟨s, rfl, hs, b⟩
    have e3 : s = ⟨#[]⟩ := bs_inj _ _ (by rw [hs]; rfl)
    subst e3
    exact ⟨rfl, b⟩
  have P3 : Hid (∀ w, Tab w → Calls Tryd.prog 14 #[.string ⟨#[]⟩] w fun e w' => e = .returned (.bool true) ∧ Below w.heap.size w w') := fun w hTw => by
    have h := uvalid_any ⟨#[]⟩ w hTw (by decide)
    rw [show bs ⟨#[]⟩ = [] from rfl, show Utf.valid [] = true by simp [Utf.valid]] at h
    exact h
  go_enter Tryd.func5, Tryd.ntmps5
  go_wp2_with fail
  refine (P1.out _ (by with_reducible (repeat (first | assumption | apply Tab.alloc | apply Tab.drew | apply Tab.drewN | (refine Tab.below ?_ (by assumption)) | (refine Tab.drawn ?_ (by assumption)))))).mono ?_
  rintro e w1 ⟨A, c, rfl, b1⟩
  go_wp2_with fail
  go_loopg [4, 5, 6] 10 (fun gh s4 s5 s6 wx => wx = w1 ∧ s6 = .int .i64 0 ∧ s4 = .int .i64 0 ∧ s5 = .slice none 0 0 ∧ gh = 10)
  case atStart => exact ⟨rfl, rfl, rfl, rfl, rfl⟩
  case round =>
    obtain ⟨rfl, rfl, rfl, rfl, rfl⟩ := hrel
    go_wp2_with fail
    refine (P2.out _).mono ?_
    rintro e w2 ⟨rfl, b2⟩
    go_wp2_with fail
    refine (P3.out _ (by with_reducible (repeat (first | assumption | apply Tab.alloc | apply Tab.drew | apply Tab.drewN | (refine Tab.below ?_ (by assumption)) | (refine Tab.drawn ?_ (by assumption)))))).mono ?_
    rintro e w3 ⟨rfl, b3⟩
    go_wp2_with fail
    refine (uhead_any _ (by with_reducible (repeat (first | assumption | apply Tab.alloc | apply Tab.drew | apply Tab.drewN | (refine Tab.below ?_ (by assumption)) | (refine Tab.drawn ?_ (by assumption)))))).mono ?_
    rintro e w4 ⟨rfl, b4⟩
    go_wp2_with fail
    go_ret
    exact ⟨rfl, below_seq b1 (below_seq b2 (below_seq b3 b4))⟩

theorem walk (s : ByteArray) (hm : s.size ≤ maxLen) (w : World) (hT : Tab w) :
    Calls Tryd.prog 5 #[.string s] w fun e w' => e = .returned (.bool true) ∧ Below w.heap.size w w' := by
  by_cases h : 5000 < s.size
  · exact walk_long s w hT h (by unfold maxLen at hm; omega)
  · by_cases h0 : 0 < (Utf.decs (bs s)).length
    · exact walk_pos s w hT h h0
    · have e := Utf.decs_sum (bs s)
      rw [List.length_eq_zero_iff.1 (by omega : (Utf.decs (bs s)).length = 0)] at e
      have e2 : bs s = [] := List.length_eq_zero_iff.1 (by simpa using e.symm)
      obtain rfl : s = ⟨#[]⟩ := bs_inj _ _ (by rw [e2]; rfl)
      exact walk_zero w hT

/-! ### THE ROW's STEP -/
theorem laid_met (os : Os) : laidMet Tryd.prog Rows.utfWholeRow.laid ((laidWorld os).forCall (fun _ _ => 0) ⟨#[], #[.string ByteArray.empty], []⟩).memory :=
  laidMet_of_run' 8 (by kernel_rfl) (by kernel_rfl)
theorem reads (os : Os) {H : Type} (enc : TypeId × Value → H) : ∃ places, DataW.whole enc Tryd.prog ((laidWorld os).forCall (fun _ _ => 0) ⟨#[], #[.string ByteArray.empty], []⟩).memory Tryd.f5.params.toList Rows.utfWholeSpec.vars false (#[.string ByteArray.empty] : Array Value).toList 8 = some ([.lit (.string [])], [], places) :=
  ⟨[], by kernel_rfl⟩

set_option maxRecDepth 100000 in
theorem lifted (os : Os) (started : os.Started) (H : Type) (enc : TypeId × Value → H) (F : Stop.Interp) :
    ReturnsInHanded {} Tryd.checked os 5 .any ((OpenSpec.ofChange Rows.utfWholeSpec).preRow enc Tryd.prog Tryd.f5 Rows.utfWholeRow.domain false Rows.utfWholeRow.laid) (((OpenSpec.ofChange Rows.utfWholeSpec).at F).post enc Tryd.prog Tryd.f5 false true false false) := by
  obtain ⟨places, hx⟩ := reads os enc
  refine returnsInHanded_of_row (C := Tryd.checked) (s := OpenSpec.ofChange Rows.utfWholeSpec) own started (by kernel_rfl) Tryd.func5
    (witness_row_at (enc := enc) (C := Tryd.checked) false (laidWorld os) #[.string ByteArray.empty] rfl (by kernel_rfl) (by kernel_rfl) (by kernel_rfl)
      (OpenSpec.preRow_of_cond 8 hx (by kernel_rfl) (fun k hk => by cases hk) (by kernel_rfl) (laid_met os))) ?_
  intro W base args ds gs before hval0 hW _ _ _ hL _ _
  have hval : ∀ (j : Nat) t v, Tryd.f5.params[j]? = some t → args[j]? = some v → Value.okWide Tryd.prog W .any base t v := hval0
  have hW' := hW
  obtain ⟨p, q, hA0, hV, rfl, hfz, hnd⟩ := hW
  have hA : DataW.TrodAll enc Tryd.prog W 0 (fun _ => true) true Tryd.f5.params.toList args.toList ds p := hA0
  rw [Tryd.params5] at hA hval
  obtain ⟨v0, vs0, d0, ds0, p0, q0, hargs, rfl, rfl, h0, r0⟩ := trodAll_cons hA
  obtain ⟨rfl, rfl, rfl⟩ := trodAll_nil r0
  obtain rfl : args = #[v0] := by cases args; simp_all
  obtain ⟨rfl, rfl⟩ := trodVars_none hV
  obtain ⟨a0, rfl, rfl, rfl, w0⟩ := open_string Tryd.underlying9 (hval 0 9 v0 rfl rfl) h0
  clear hA0 hval0
  refine (walk a0 w0 W (tab_of hL)).mono fun e W' ⟨he, bel⟩ => ?_
  subst he
  exact ⟨_, rfl, _, _, _, [], _, [], hW', trodAll_mk1 (shut_bool Tryd.underlying4 _), (trodAll_cons_mk (shut_string Tryd.underlying9 w0) trodAll_mk0), rfl, bel.frame _, fun h => by cases h⟩

theorem said : Rows.UtfWholeSaid :=
  OpenClaim.holds_of_cond 5 Tryd.f5 rfl rfl rfl rfl rfl rfl rfl ⟨rfl, rfl, rfl, rfl, rfl⟩ rfl rfl rfl rfl rfl (by kernel_rfl) Tryd.func5 (by kernel_rfl)
    (of_decide_eq_true (by kernel_rfl)) (by unfold Func.isWrapper; first | (rw [if_pos (by decide +kernel)]; kernel_rfl) | (rw [if_neg (by decide +kernel)]; exact ⟨rfl, rfl⟩))
    (fun os started H enc _ F => by rw [OpenClaim.pre_eq_preRow]; exact lifted os started H enc F)

/-- no parameter wants a stand-in; the program's own looks are off -/
theorem plain (f : FuncId) (fn : Func) (hf : Tryd.pinned.checked.prog.funcNamed "stickful/stickfullaw02.UtfWhole" = some f) (hfn : Tryd.pinned.checked.prog.funcs[f]? = some fn) :
    false = Tryd.pinned.checked.prog.looks [] ∧ ∀ (j : Nat) t, fn.params[j]? = some t → Tryd.pinned.checked.prog.wantsStandIn t = false := by
  obtain rfl : f = 5 := Option.some.inj ((show Tryd.prog.funcNamed "stickful/stickfullaw02.UtfWhole" = some 5 by kernel_rfl).symm.trans hf) |>.symm
  obtain rfl : fn = Tryd.f5 := (Option.some.inj (Tryd.func5.symm.trans hfn)).symm
  refine ⟨by kernel_rfl, fun j t ht => ?_⟩
  rw [Tryd.params5] at ht
  have hm : t ∈ [9] := by simpa using Array.mem_of_getElem? ht
  have hall : ([9].all fun u => !Tryd.prog.wantsStandIn u) = true := by kernel_rfl
  exact (show Tryd.prog.wantsStandIn t = false by simpa using List.all_eq_true.1 hall t hm)

/-- ████ THE STATEMENT: THE TIED CARD ████ -/
theorem card : Rows.UtfWholeCardSaid :=
  Claim7.holds_tied_plain_at .later [] _ _ _ _ said (fun _ h => by cases h) (by kernel_rfl) (fun _ h => by cases h) utfWhole_row_tie rfl ⟨rfl, rfl⟩ (by kernel_rfl) rfl plain (by kernel_rfl)
#print axioms card
end Go.Proofs.YtgnalnppjhgmjaaDoor.utfWhole
