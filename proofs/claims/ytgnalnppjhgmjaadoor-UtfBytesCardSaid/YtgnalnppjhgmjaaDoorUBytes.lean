/- UtfBytes: for every input the law returns true, and its arguments read behind the call as they did before. No condition on the input; the package variable that the program's text lays (the table of forms) is as it was laid (the card ties it to the text). -/
import Derived.Test.YtgnalnppjhgmjaaDoorUHead
import Derived.Test.YtgnalnppjhgmjaaDoorULaid
import Derived.Test.YtgnalnppjhgmjaaDoorRows
import Derived.Test.YtgnalnppjhgmjaaDoorCards
import Derived.Test.YtgnalnppjhgmjaaDoorTie
import Derived.Deep.DeepHandedRow
import Derived.Lib.LaidTab
import Derived.WalkKit
import Derived.ProofKit
import Derived.OpenShut
import Derived.ShutString
import Derived.ChangeOld
import Derived.Below
import Derived.Deep.LoopGhost
import Derived.Deep.DeepCutAuto
import Derived.Deep.CutBlock
namespace Go.Proofs.YtgnalnppjhgmjaaDoor.utfBytes
open Go.ChangeShapes Go.WideShapes Go.ChangeAt Go.RowKit
open Go.ChangeMaps (open_string shut_string)
set_option linter.unusedVariables false

theorem own : ownKnob Tryd.prog.godebug = none := by kernel_rfl
theorem laidOut : laidOutB Tryd.prog = true := by kernel_rfl

/-- WHAT THE WALK IS TOLD OF A SLICE OF INTEGERS THAT CAME IN: it is nil; or it leads to a row of 'cap' cells, the numbers 'zs' (the first 'len' are its elements, the rest its spare room), each fitting its kind. -/
def IsRow (k : IntKind) (w : World) (a : Option Addr) (len cap : Nat) (zs : List Int) : Prop :=
  (a = none ∧ len = 0 ∧ cap = 0 ∧ zs = []) ∨
  ∃ x, a = some x ∧ len ≤ cap ∧ cap ≤ maxLen ∧ zs.length = cap ∧ (∀ i, i < zs.length → w.cell? (x.add i) = some (.int k (zs.getD i 0))) ∧ ∀ n ∈ zs, (Lit.int k n).wf = true

theorem wfu8 {a : Int} (h : (Lit.int .u8 a).wf = true) : 0 ≤ a ∧ a ≤ 255 := by
  simpa [Lit.wf, IntKind.min, IntKind.max, IntKind.signed, IntKind.bits] using h

set_option maxRecDepth 100000 in
set_option maxHeartbeats 1000000 in
theorem out_a (A : Option Addr) (n c : Nat) (w : World) (hT : Tab w) (h : 2000 < n) (hm : n ≤ 9223372036854775807) :
    Calls Tryd.prog 8 #[.slice A n c] w fun e w' => e = .returned (.bool true) ∧ Below w.heap.size w w' := by
  have hz : (2000 : Int) < (n : Int) := by omega
  go_enter Tryd.func8, Tryd.ntmps8
  go_wp2_with fail
  refine (uhead_any _ (by with_reducible (repeat (first | assumption | apply Tab.alloc | apply Tab.drew | apply Tab.drewN | (refine Tab.below ?_ (by assumption)) | (refine Tab.drawn ?_ (by assumption)))))).mono ?_
  rintro e w1 ⟨rfl, b1⟩
  go_wp2_with fail
  go_ret
  exact ⟨rfl, b1⟩

theorem bs_one (x : Int) (h : 0 ≤ x ∧ x ≤ 255) : bs (strOfNums [x]) = [x.toNat] ∧ (strOfNums [x]).size = 1 := by
  have e := bs_nums [x] (by simpa using h)
  refine ⟨by simpa using e, ?_⟩
  rw [← bs_len, e]
  rfl

/-- the bytes of the two texts -/
def lows (zs : List Nat) : List Nat := zs.map (· % 128)
def highs (zs : List Nat) : List Nat := zs.map (fun x => x % 64 + 192)

theorem lows_facts (zs : List Nat) : Utf.decs (lows zs) = (lows zs).map (fun c : Nat => ((c : Int), 1)) ∧ Utf.valid (lows zs) = true :=
  Utf.decs_low _ (fun c hc => by obtain ⟨x, _, rfl⟩ := List.mem_map.1 hc; omega)
theorem highs_facts (zs : List Nat) : Utf.decs (highs zs) = (highs zs).map (fun _ => (65533, 1)) ∧ (highs zs ≠ [] → Utf.valid (highs zs) = false) :=
  Utf.decs_high _ (fun c hc => by obtain ⟨x, _, rfl⟩ := List.mem_map.1 hc; omega)

theorem low_chs : ∀ (l : List Nat) (k i : Nat) (h : i < l.length), (chs k (l.map (fun c : Nat => ((c : Int), 1))))[i]'(by rw [chs_len, List.length_map]; exact h) = ⟨l[i], 0, k + i, 1, 0⟩
  | [], _, _, h => by simp at h
  | c :: t, k, 0, _ => by simp [chs]
  | c :: t, k, i + 1, h => by
    have := low_chs t (k + 1) i (by simpa using h)
    simp only [List.map_cons, chs, List.getElem_cons_succ]
    rw [this]
    simp
    omega
theorem high_chs : ∀ (l : List Nat) (k i : Nat) (h : i < l.length), (chs k (l.map (fun _ => ((65533 : Int), 1))))[i]'(by rw [chs_len, List.length_map]; exact h) = ⟨65533, 0, k + i, 1, 0⟩
  | [], _, _, h => by simp at h
  | c :: t, k, 0, _ => by simp [chs]
  | c :: t, k, i + 1, h => by
    have := high_chs t (k + 1) i (by simpa using h)
    simp only [List.map_cons, chs, List.getElem_cons_succ]
    rw [this]
    simp
    omega

theorem drawn_cell {w w' : World} (d : Drawn w w') (a : Addr) : w'.cell? a = w.cell? a := by obtain ⟨n, rfl⟩ := d; rfl

set_option maxRecDepth 100000 in
set_option maxHeartbeats 4000000 in
theorem main_pos (a : Addr) (n c : Nat) (zs : List Nat) (w : World) (hT : Tab w) (hz : Hid (zs.length = n)) (h0 : 0 < n) (hn : ¬ 2000 < n) (ha : a.block < w.heap.size)
    (hc : ∀ j, j < n → w.cell? (a.add j) = some (.int .u8 (zs.getD j 0 : Nat))) (hr : ∀ z ∈ zs, z ≤ 255) :
    Calls Tryd.prog 8 #[.slice (some a) n c] w fun e w' => e = .returned (.bool true) ∧ Below w.heap.size w w' := by
  have HC := Lib.hid hc
  have HR := Lib.hid hr
  have hnz : ¬ (2000 : Int) < (n : Int) := by omega
  clear hc hr
  go_enter Tryd.func8, Tryd.ntmps8
  go_upto_block 0 with fail
  go_cut [3, 4, 5] (fun s3 s4 s5 wx => Below w.heap.size w wx ∧ ∃ p q : ByteArray, s3 = .string p ∧ s4 = .string q ∧ p.size = n ∧ q.size = n ∧ Hid (bs p = lows zs) ∧ Hid (bs q = highs zs))
  case first =>
    go_wp2_with fail
    go_loopg [3, 4, 5] 3000 (fun gh s3 s4 s5 wx => Below w.heap.size w wx ∧ ∃ (k : Nat) (p q : ByteArray), s5 = .int .i64 k ∧ s3 = .string p ∧ s4 = .string q ∧ k ≤ n ∧ gh = 3000 - k ∧ Hid (p.size = k) ∧ Hid (q.size = k) ∧ Hid (bs p = lows (zs.take k)) ∧ Hid (bs q = highs (zs.take k)))
    case atStart => exact ⟨Below.refl _ _, 0, _, _, rfl, rfl, rfl, by omega, rfl, rfl, rfl, rfl, rfl⟩
    case round =>
      obtain ⟨bel, k, p, q, rfl, rfl, rfl, hk, rfl, PS, QS, PB, QB⟩ := hrel
      obtain ⟨wo, rfl⟩ : ∃ wo : World, wo = wr := ⟨_, rfl⟩
      by_cases hlt : k < n
      · have hltz : (k : Int) < (n : Int) := by omega
        have hk2 : k < zs.length := by rw [hz.out]; exact hlt
        have hcell : ∀ o : Obj, wo.cell? (a.add k) = some (.int .u8 (zs.getD k 0 : Nat)) ∧ (wo.alloc o).cell? (a.add k) = some (.int .u8 (zs.getD k 0 : Nat)) := fun o => by
          have e : wo.cell? (a.add k) = some (.int .u8 (zs.getD k 0 : Nat)) := by
            rw [bel.cell (by rw [block_add]; exact ha)]
            exact HC.out k hlt
          exact ⟨e, by rw [World.cell?_alloc_lt wo o (a.add k) (by rw [block_add]; have := bel.size; omega)]; exact e⟩
        have hx : zs.getD k 0 ≤ 255 := HR.out _ (by simp [List.getD, hk2])
        have T1 : Hid (lows (zs.take (k + 1)) = lows (zs.take k) ++ [zs.getD k 0 % 128]) := by
          show _ = _
          rw [List.take_succ_eq_append_getElem hk2]
          unfold lows
          rw [List.map_append]
          simp only [List.map_cons, List.map_nil, List.getD, List.getElem?_eq_getElem hk2, Option.getD_some]
        have T2 : Hid (highs (zs.take (k + 1)) = highs (zs.take k) ++ [zs.getD k 0 % 64 + 192]) := by
          show _ = _
          rw [List.take_succ_eq_append_getElem hk2]
          unfold highs
          rw [List.map_append]
          simp only [List.map_cons, List.map_nil, List.getD, List.getElem?_eq_getElem hk2, Option.getD_some]
        generalize zs.getD k 0 = x at *
        obtain ⟨y, hy, Y, hyb⟩ : ∃ y : Nat, (x : Int) % 128 = (y : Int) ∧ Hid (x % 128 = y) ∧ y ≤ 127 := ⟨x % 128, (Int.natCast_emod x 128).symm, rfl, by omega⟩
        obtain ⟨z, hz2, Z, hzb⟩ : ∃ z : Nat, (x : Int) % 64 = (z : Int) ∧ Hid (x % 64 = z) ∧ z ≤ 63 := ⟨x % 64, (Int.natCast_emod x 64).symm, rfl, by omega⟩
        have c1 := (hcell (.cells #[] 0)).1
        have c2 := fun o => (hcell o).2
        have v1 : (convert 35 9 (.slice (some ⟨wo.heap.size, 0, none⟩) 1 1)).run Tryd.prog (wo.alloc (.cells #[.int .u8 (y : Int)] 5)) = .ok (.string (strOfNums [(y : Int)])) (wo.alloc (.cells #[.int .u8 (y : Int)] 5)) := by simpa using conv wo [(y : Int)] 1 rfl
        have v2 : (convert 35 9 (.slice (some ⟨wo.heap.size + 1, 0, none⟩) 1 1)).run Tryd.prog ((wo.alloc (.cells #[.int .u8 (y : Int)] 5)).alloc (.cells #[.int .u8 ((z : Int) + 192)] 5)) = .ok (.string (strOfNums [(z : Int) + 192])) ((wo.alloc (.cells #[.int .u8 (y : Int)] 5)).alloc (.cells #[.int .u8 ((z : Int) + 192)] 5)) := by simpa using conv (wo.alloc (.cells #[.int .u8 (y : Int)] 5)) [(z : Int) + 192] 1 rfl
        obtain ⟨m1, m2⟩ := bs_one (y : Int) (by omega)
        obtain ⟨m3, m4⟩ := bs_one ((z : Int) + 192) (by omega)
        have M := Lib.hid (And.intro m1 (And.intro m2 (And.intro m3 m4)))
        have z1 : p.size ≤ 2000 := by rw [PS.out]; omega
        have z2 : q.size ≤ 2000 := by rw [QS.out]; omega
        have z3 : (strOfNums [(y : Int)]).size ≤ 1 := by rw [m2]; omega
        have z4 : (strOfNums [(z : Int) + 192]).size ≤ 1 := by rw [m4]; omega
        clear hcell m1 m2 m3 m4 hk2
        go_wp2_with fail
        go_roundg (3000 - (k + 1))
        case measure => omega
        case rel =>
          obtain ⟨m1, m2, m3, m4⟩ := M.out
          refine ⟨below_seq bel (below_seq (below_alloc _ _) (below_alloc _ _)), k + 1, _, _, by go_num, rfl, rfl, by omega, rfl, ?_, ?_, ?_, ?_⟩
          · show _ = _; rw [ByteArray.size_append, m2, PS.out]
          · show _ = _; rw [ByteArray.size_append, m4, QS.out]
          · show _ = _; rw [bs_append, m1, PB.out, T1.out, Y.out, Int.toNat_natCast]
          · show _ = _; rw [bs_append, m3, QB.out, T2.out, Z.out]; rfl
      · obtain rfl : k = n := by omega
        rw [List.take_of_length_le (by rw [hz.out]; omega)] at PB QB
        have hltz : ¬ (k : Int) < (k : Int) := by omega
        go_wp2_with fail
        go_meet
        exact ⟨bel, p, q, rfl, rfl, PS.out, QS.out, PB, QB⟩
  case rest =>
    obtain ⟨bel, p, q, rfl, rfl, hp, hq, PB, QB⟩ := hcut
    have hlp : (Utf.decs (bs p)) = (lows zs).map (fun c : Nat => ((c : Int), 1)) := by rw [PB.out]; exact (lows_facts zs).1
    have hlq : (Utf.decs (bs q)) = (highs zs).map (fun _ => (65533, 1)) := by rw [QB.out]; exact (highs_facts zs).1
    have V1 : Hid (∀ w, Tab w → Calls Tryd.prog 14 #[.string p] w fun e w' => e = .returned (.bool true) ∧ Below w.heap.size w w') := fun w hTw => by
      have h := uvalid_any p w hTw (by omega)
      rw [PB.out, (lows_facts zs).2] at h
      exact h
    have V2 : Hid (∀ w, Tab w → Calls Tryd.prog 14 #[.string q] w fun e w' => e = .returned (.bool false) ∧ Below w.heap.size w w') := fun w hTw => by
      have h := uvalid_any q w hTw (by omega)
      have hne : highs zs ≠ [] := by
        intro e
        have := congrArg List.length e
        unfold highs at this
        rw [List.length_map, hz.out, List.length_nil] at this
        omega
      rw [QB.out, (highs_facts zs).2 hne] at h
      exact h
    have LP := Lib.hid hlp
    have LQ := Lib.hid hlq
    have hp2 : p.size ≤ 100000 := by omega
    have hq2 : q.size ≤ 100000 := by omega
    have lp : Hid ((chs 0 ((lows zs).map (fun c : Nat => ((c : Int), 1)))).length = n) := by show _ = _; rw [chs_len, List.length_map]; unfold lows; rw [List.length_map, hz.out]
    have lq : Hid ((chs 0 ((highs zs).map (fun _ => ((65533 : Int), 1)))).length = n) := by show _ = _; rw [chs_len, List.length_map]; unfold highs; rw [List.length_map, hz.out]
    clear hlp hlq hp hq
    go_wp2_with fail
    refine (udecode_any p _ (by with_reducible (repeat (first | assumption | apply Tab.alloc | apply Tab.drew | apply Tab.drewN | (refine Tab.below ?_ (by assumption)) | (refine Tab.drawn ?_ (by assumption))))) hp2).mono ?_
    rintro e w2 ⟨v1, rfl, b2, o1⟩
    go_wp2_with fail
    refine (udecode_any q _ (by with_reducible (repeat (first | assumption | apply Tab.alloc | apply Tab.drew | apply Tab.drewN | (refine Tab.below ?_ (by assumption)) | (refine Tab.drawn ?_ (by assumption))))) hq2).mono ?_
    rintro e w3 ⟨v2, rfl, b3, o2⟩
    rw [LP.out] at o1
    rw [LQ.out] at o2
    obtain ⟨g1, c1, rfl, _, hg1, H1⟩ := o1.form1 (by rw [lp.out]; exact h0)
    obtain ⟨g2, c2, rfl, _, hg2, H2⟩ := o2.form1 (by rw [lq.out]; exact h0)
    rw [lp.out, lq.out]
    have B3 := below_seq bel (below_seq b2 b3)
    have R3 : Hid (∀ k, k < n → ∃ x y : Nat, x ≤ 255 ∧ (x : Int) % 128 = (y : Int) ∧ y ≤ 127 ∧ w3.cell? (a.add k) = some (.int .u8 (x : Nat)) ∧ w3.cell? ⟨g1, k * 5, none⟩ = some (.int .i32 y) ∧ w3.cell? ⟨g1, k * 5 + 2, none⟩ = some (.int .i64 k) ∧ w3.cell? ⟨g2, k * 5, none⟩ = some (.int .i32 65533) ∧ w3.cell? ⟨g2, k * 5 + 3, none⟩ = some (.int .i64 1)) := by
      intro k hk
      have hk2 : k < zs.length := by rw [hz.out]; exact hk
      have hk3 : k < (lows zs).length := by unfold lows; rw [List.length_map]; exact hk2
      have hk4 : k < (highs zs).length := by unfold highs; rw [List.length_map]; exact hk2
      have h1 := H1 k (by rw [lp.out]; exact hk)
      have h2 := H2 k (by rw [lq.out]; exact hk)
      rw [low_chs _ 0 k hk3] at h1
      rw [high_chs _ 0 k hk4] at h2
      have el : (lows zs)[k] = zs[k] % 128 := by simp [lows]
      rw [el] at h1
      simp only [Nat.zero_add] at h1 h2
      refine ⟨zs[k], zs[k] % 128, HR.out _ (List.getElem_mem hk2), (Int.natCast_emod _ 128).symm, by omega, ?_, ?_, ?_, h2.1, h2.2.2.2.1⟩
      · rw [B3.cell (by rw [block_add]; exact ha), HC.out k hk]
        simp [List.getD, hk2]
      · rw [b3.cell hg1]; exact h1.1
      · rw [b3.cell hg1]
        have := h1.2.2.1
        simpa using this
    clear o1 o2 H1 H2
    go_wp2_with fail
    refine (V1.out _ (by with_reducible (repeat (first | assumption | apply Tab.alloc | apply Tab.drew | apply Tab.drewN | (refine Tab.below ?_ (by assumption)) | (refine Tab.drawn ?_ (by assumption)))))).mono ?_
    rintro e w4 ⟨rfl, b4⟩
    go_wp2_with fail
    refine (V2.out _ (by with_reducible (repeat (first | assumption | apply Tab.alloc | apply Tab.drew | apply Tab.drewN | (refine Tab.below ?_ (by assumption)) | (refine Tab.drawn ?_ (by assumption)))))).mono ?_
    rintro e w5 ⟨rfl, b5⟩
    have B5 := below_seq b4 b5
    have hg1b : g1 < w3.heap.size := Nat.lt_of_lt_of_le hg1 b3.size
    have R5 : Hid (∀ k, k < n → ∃ x y : Nat, x ≤ 255 ∧ (x : Int) % 128 = (y : Int) ∧ y ≤ 127 ∧ w5.cell? (a.add k) = some (.int .u8 (x : Nat)) ∧ w5.cell? ⟨g1, k * 5, none⟩ = some (.int .i32 y) ∧ w5.cell? ⟨g1, k * 5 + 2, none⟩ = some (.int .i64 k) ∧ w5.cell? ⟨g2, k * 5, none⟩ = some (.int .i32 65533) ∧ w5.cell? ⟨g2, k * 5 + 3, none⟩ = some (.int .i64 1)) := by
      intro k hk
      obtain ⟨x, y, r1, r2, r3, r4, r5, r6, r7, r8⟩ := R3.out k hk
      have hab : (a.add k).block < w3.heap.size := by rw [block_add]; exact Nat.lt_of_lt_of_le ha B3.size
      exact ⟨x, y, r1, r2, r3, by rw [B5.cell hab]; exact r4, by rw [B5.cell hg1b]; exact r5, by rw [B5.cell hg1b]; exact r6, by rw [B5.cell hg2]; exact r7, by rw [B5.cell hg2]; exact r8⟩
    clear R3
    go_wp2_with fail
    go_loopg [8] 3000 (fun gh s8 wx => Drawn w5 wx ∧ ∃ k : Nat, s8 = .int .i64 k ∧ k ≤ n ∧ gh = 3000 - k)
    case atStart => exact ⟨Drawn.refl _, 0, rfl, by omega, rfl⟩
    case round =>
      obtain ⟨dw, k, rfl, hk, rfl⟩ := hrel
      by_cases hlt : k < n
      · have hltz : (k : Int) < (n : Int) := by omega
        obtain ⟨x, y, r1, r2, r3, r4, r5, r6, r7, r8⟩ := R5.out k hlt
        rw [← drawn_cell dw] at r4 r5 r6 r7 r8
        have M := Lib.hid (fun w => pt_yes (y : Int) w (by unfold Utf.Pt; omega))
        have r1z : (0 : Int) ≤ (x : Int) ∧ (x : Int) ≤ 255 := by omega
        have r2t : (x : Int).tmod 128 = (y : Int) := by rw [Int.tmod_eq_emod_of_nonneg (by omega)]; exact r2
        have q1 : IntKind.u8.wrap (y : Int) = (y : Int) := by rw [IntKind.wrap_u8]; omega
        have q2 : IntKind.i32.wrap (y : Int) = (y : Int) := IntWalk.i32_in _ (by omega)
        go_wp2_with fail
        go_quiet ((go_at_call 18; exact quiet_eq (M.out _)))
        go_wp2_with fail
        go_roundg (3000 - (k + 1))
        case measure => omega
        case rel => exact ⟨dw.drewN _, k + 1, by go_num, by omega, rfl⟩
      · have hltz : ¬ (k : Int) < (n : Int) := by omega
        go_wp2_with fail
        refine (uhead_any _ (by with_reducible (repeat (first | assumption | apply Tab.alloc | apply Tab.drew | apply Tab.drewN | (refine Tab.below ?_ (by assumption)) | (refine Tab.drawn ?_ (by assumption)))))).mono ?_
        rintro e w8 ⟨rfl, b8⟩
        go_wp2_with fail
        go_ret
        exact ⟨rfl, below_seq B3 (below_seq B5 (below_seq (below_drawn dw) b8))⟩

set_option maxRecDepth 100000 in
set_option maxHeartbeats 2000000 in
theorem main_zero (A : Option Addr) (c : Nat) (w : World) (hT : Tab w) :
    Calls Tryd.prog 8 #[.slice A 0 c] w fun e w' => e = .returned (.bool true) ∧ Below w.heap.size w w' := by
  have D : Hid (∀ w, Tab w → Calls Tryd.prog 10 #[.string ⟨#[]⟩] w fun e w' => ∃ B d, e = .returned (.slice B 0 d) ∧ Below w.heap.size w w') := fun w hTw => by
    refine (udecode_any ⟨#[]⟩ w hTw (by decide)).mono ?_
    rintro e w' ⟨v, rfl, b, o⟩
    rw [show bs ⟨#[]⟩ = [] from rfl, Utf.decs] at o
    obtain ⟨B, d, rfl⟩ := o.form
    exact ⟨B, d, rfl, b⟩
  have V : Hid (∀ w, Tab w → Calls Tryd.prog 14 #[.string ⟨#[]⟩] w fun e w' => e = .returned (.bool true) ∧ Below w.heap.size w w') := fun w hTw => by
    have h := uvalid_any ⟨#[]⟩ w hTw (by decide)
    rw [show bs ⟨#[]⟩ = [] from rfl, Utf.valid] at h
    exact h
  go_enter Tryd.func8, Tryd.ntmps8
  go_upto_block 0 with fail
  go_cut [3, 4, 5] (fun s3 s4 s5 wx => w = wx ∧ s3 = .string ⟨#[]⟩ ∧ s4 = .string ⟨#[]⟩)
  case first =>
    go_wp2_with fail
    refine wp_loop_rounds 1 ?_
    rw [rounds_succ]
    go_wp2_with fail
    go_meet
    exact ⟨rfl, rfl, rfl⟩
  case rest =>
    obtain ⟨rfl, rfl, rfl⟩ := hcut
    go_wp2_with fail
    refine (D.out _ (by with_reducible (repeat (first | assumption | apply Tab.alloc | apply Tab.drew | apply Tab.drewN | (refine Tab.below ?_ (by assumption)) | (refine Tab.drawn ?_ (by assumption)))))).mono ?_
    rintro e w1 ⟨B1, d1, rfl, b1⟩
    go_wp2_with fail
    refine (D.out _ (by with_reducible (repeat (first | assumption | apply Tab.alloc | apply Tab.drew | apply Tab.drewN | (refine Tab.below ?_ (by assumption)) | (refine Tab.drawn ?_ (by assumption)))))).mono ?_
    rintro e w2 ⟨B2, d2, rfl, b2⟩
    go_wp2_with fail
    refine (V.out _ (by with_reducible (repeat (first | assumption | apply Tab.alloc | apply Tab.drew | apply Tab.drewN | (refine Tab.below ?_ (by assumption)) | (refine Tab.drawn ?_ (by assumption)))))).mono ?_
    rintro e w3 ⟨rfl, b3⟩
    go_wp2_with fail
    refine wp_loop_rounds 1 ?_
    rw [rounds_succ]
    go_wp2_with fail
    refine (uhead_any _ (by with_reducible (repeat (first | assumption | apply Tab.alloc | apply Tab.drew | apply Tab.drewN | (refine Tab.below ?_ (by assumption)) | (refine Tab.drawn ?_ (by assumption)))))).mono ?_
    rintro e w4 ⟨rfl, b4⟩
    go_wp2_with fail
    go_ret
    exact ⟨rfl, below_seq b1 (below_seq b2 (below_seq b3 b4))⟩

theorem walk (a0 : Option Addr) (len0 cap0 : Nat) (z0 : List Int) (w : World) (hT : Tab w) (w0 : IsRow .u8 w a0 len0 cap0 z0) :
    Calls Tryd.prog 8 #[.slice a0 len0 cap0] w fun e w' => e = .returned (.bool true) ∧ Below w.heap.size w w' := by
  rcases w0 with ⟨rfl, rfl, rfl, rfl⟩ | ⟨x, rfl, hl, hm, hz, hcell, hwz⟩
  · exact main_zero none 0 w hT
  · unfold maxLen at hm
    by_cases h1 : 2000 < len0
    · exact out_a _ len0 cap0 w hT h1 (by omega)
    · rcases Nat.eq_zero_or_pos len0 with h2 | h2
      · subst h2
        exact main_zero (some x) cap0 w hT
      · have hlen : ((z0.take len0).map Int.toNat).length = len0 := by rw [List.length_map, List.length_take]; omega
        have hpos : ∀ z ∈ z0, 0 ≤ z ∧ z ≤ 255 := fun z hz => wfu8 (hwz z hz)
        have hc : ∀ j, j < len0 → w.cell? (x.add j) = some (.int .u8 (((z0.take len0).map Int.toNat).getD j 0 : Nat)) := fun j hj => by
          rw [hcell j (by omega)]
          have hj2 : j < z0.length := by omega
          have hp := hpos z0[j] (List.getElem_mem hj2)
          simp [List.getD, hj, hj2]
          omega
        have ha : x.block < w.heap.size := by
          rw [← block_add x 0]
          exact World.block_lt_of_cell? _ _ (hc 0 h2)
        exact main_pos x len0 cap0 ((z0.take len0).map Int.toNat) w hT hlen h2 h1 ha hc (fun z hz => by
          obtain ⟨y, hy, rfl⟩ := List.mem_map.1 hz
          have := hpos y (List.mem_of_mem_take hy)
          omega)

/-! ### THE ROW's STEP -/
theorem laid_met (os : Os) : laidMet Tryd.prog Rows.utfBytesRow.laid ((laidWorld os).forCall (fun _ _ => 0) ⟨#[], #[.slice none 0 0], []⟩).memory :=
  laidMet_of_run' 8 (by kernel_rfl) (by kernel_rfl)
theorem reads (os : Os) {H : Type} (enc : TypeId × Value → H) : ∃ places, DataW.whole enc Tryd.prog ((laidWorld os).forCall (fun _ _ => 0) ⟨#[], #[.slice none 0 0], []⟩).memory Tryd.f8.params.toList Rows.utfBytesSpec.vars false (#[.slice none 0 0] : Array Value).toList 8 = some ([.nil], [], places) :=
  ⟨[], by kernel_rfl⟩

set_option maxRecDepth 100000 in
theorem lifted (os : Os) (started : os.Started) (H : Type) (enc : TypeId × Value → H) (F : Stop.Interp) :
    ReturnsInHanded {} Tryd.checked os 8 .any ((OpenSpec.ofChange Rows.utfBytesSpec).preRow enc Tryd.prog Tryd.f8 Rows.utfBytesRow.domain false Rows.utfBytesRow.laid) (((OpenSpec.ofChange Rows.utfBytesSpec).at F).post enc Tryd.prog Tryd.f8 false true false false) := by
  obtain ⟨places, hx⟩ := reads os enc
  refine returnsInHanded_of_row (C := Tryd.checked) (s := OpenSpec.ofChange Rows.utfBytesSpec) own started (by kernel_rfl) Tryd.func8
    (witness_row_at (enc := enc) (C := Tryd.checked) false (laidWorld os) #[.slice none 0 0] rfl (by kernel_rfl) (by kernel_rfl) (by kernel_rfl)
      (OpenSpec.preRow_of_cond 8 hx (by kernel_rfl) (fun k hk => by cases hk) (by kernel_rfl) (laid_met os))) ?_
  intro W base args ds gs before hval0 hW _ _ _ hL _ _
  have hval : ∀ (j : Nat) t v, Tryd.f8.params[j]? = some t → args[j]? = some v → Value.okWide Tryd.prog W .any base t v := hval0
  have hW' := hW
  obtain ⟨p, q, hA0, hV, rfl, hfz, hnd⟩ := hW
  have hA : DataW.TrodAll enc Tryd.prog W 0 (fun _ => true) true Tryd.f8.params.toList args.toList ds p := hA0
  rw [Tryd.params8] at hA hval
  obtain ⟨v0, vs0, d0, ds0, p0, q0, hargs, rfl, rfl, h0, r0⟩ := trodAll_cons hA
  obtain ⟨rfl, rfl, rfl⟩ := trodAll_nil r0
  obtain rfl : args = #[v0] := by cases args; simp_all
  obtain ⟨rfl, rfl⟩ := trodVars_none hV
  obtain ⟨a0, len0, cap0, rfl⟩ := okWide_slice Tryd.underlying35 (hval 0 35 v0 rfl rfl)
  have k0 := h0
  have lt0 : ∀ x ∈ p0, x.block < W.heap.size := by obtain ⟨m, hm⟩ := k0; exact DataW.trod_lt m _ _ _ hm
  obtain ⟨z0, w0⟩ : ∃ zs, IsRow .u8 W a0 len0 cap0 zs := by
    obtain ⟨fuel, hf⟩ := h0
    rcases open_ints Tryd.underlying35 Tryd.underlying5 (by kernel_rfl) hf with ⟨hcs, _⟩ | ⟨x, l, c, zs, hcs, _, hl, hm, hz, _, hcell, hwz⟩
    · simp [Value.cells] at hcs
      obtain ⟨rfl, rfl, rfl⟩ := hcs
      exact ⟨[], .inl ⟨rfl, rfl, rfl, rfl⟩⟩
    · simp [Value.cells] at hcs
      obtain ⟨rfl, rfl, rfl⟩ := hcs
      exact ⟨zs, .inr ⟨_, rfl, hl, hm, by simpa using hz, hcell, hwz⟩⟩
  clear hA0 hval0
  refine (walk a0 len0 cap0 z0 W (tab_of hL) w0).mono fun e W' ⟨he, bel⟩ => ?_
  subst he
  exact ⟨_, rfl, _, _, _, [], _, [], hW', trodAll_mk1 (shut_bool Tryd.underlying4 _), (trodAll_cons_mk (Below.trod laidOut (by kernel_rfl) (of_decide_eq_true (by kernel_rfl)) k0 bel lt0) trodAll_mk0), rfl, bel.frame _, fun h => by cases h⟩

theorem said : Rows.UtfBytesSaid :=
  OpenClaim.holds_of_cond 8 Tryd.f8 rfl rfl rfl rfl rfl rfl rfl ⟨rfl, rfl, rfl, rfl, rfl⟩ rfl rfl rfl rfl rfl (by kernel_rfl) Tryd.func8 (by kernel_rfl)
    (of_decide_eq_true (by kernel_rfl)) (by unfold Func.isWrapper; first | (rw [if_pos (by decide +kernel)]; kernel_rfl) | (rw [if_neg (by decide +kernel)]; exact ⟨rfl, rfl⟩))
    (fun os started H enc _ F => by rw [OpenClaim.pre_eq_preRow]; exact lifted os started H enc F)

/-- no parameter wants a stand-in; the program's own looks are off -/
theorem plain (f : FuncId) (fn : Func) (hf : Tryd.pinned.checked.prog.funcNamed "stickful/stickfullaw02.UtfBytes" = some f) (hfn : Tryd.pinned.checked.prog.funcs[f]? = some fn) :
    false = Tryd.pinned.checked.prog.looks [] ∧ ∀ (j : Nat) t, fn.params[j]? = some t → Tryd.pinned.checked.prog.wantsStandIn t = false := by
  obtain rfl : f = 8 := Option.some.inj ((show Tryd.prog.funcNamed "stickful/stickfullaw02.UtfBytes" = some 8 by kernel_rfl).symm.trans hf) |>.symm
  obtain rfl : fn = Tryd.f8 := (Option.some.inj (Tryd.func8.symm.trans hfn)).symm
  refine ⟨by kernel_rfl, fun j t ht => ?_⟩
  rw [Tryd.params8] at ht
  have hm : t ∈ [35] := by simpa using Array.mem_of_getElem? ht
  have hall : ([35].all fun u => !Tryd.prog.wantsStandIn u) = true := by kernel_rfl
  exact (show Tryd.prog.wantsStandIn t = false by simpa using List.all_eq_true.1 hall t hm)

/-- ████ THE STATEMENT: THE TIED CARD ████ -/
theorem card : Rows.UtfBytesCardSaid :=
  Claim7.holds_tied_plain_at .later [] _ _ _ _ said (fun _ h => by cases h) (by kernel_rfl) (fun _ h => by cases h) utfBytes_row_tie rfl ⟨rfl, rfl⟩ (by kernel_rfl) rfl plain (by kernel_rfl)
#print axioms card
end Go.Proofs.YtgnalnppjhgmjaaDoor.utfBytes
