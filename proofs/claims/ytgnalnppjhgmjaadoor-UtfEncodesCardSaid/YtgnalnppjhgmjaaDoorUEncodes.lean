/- UtfEncodes: for every input the law returns true, and its arguments read behind the call as they did before. No condition on the input; the package variable that the program's text lays (the table of forms) is as it was laid (the card ties it to the text). -/
import Derived.Test.YtgnalnppjhgmjaaDoorUHead
import Derived.Test.YtgnalnppjhgmjaaDoorULaid
import Derived.Test.YtgnalnppjhgmjaaDoorRows
import Derived.Test.YtgnalnppjhgmjaaDoorCards
import Derived.Test.YtgnalnppjhgmjaaDoorTie
import Derived.Deep.DeepHandedRow
import Derived.Lib.LaidTab
import Derived.WalkKit
import Derived.ProofKit
import Derived.OpenShut
import Derived.ShutString
import Derived.ChangeOld
import Derived.Below
namespace Go.Proofs.YtgnalnppjhgmjaaDoor.utfEncodes
open Go.ChangeShapes Go.WideShapes Go.ChangeAt Go.RowKit
open Go.ChangeMaps (open_string shut_string)
set_option linter.unusedVariables false

theorem own : ownKnob Tryd.prog.godebug = none := by kernel_rfl
theorem laidOut : laidOutB Tryd.prog = true := by kernel_rfl

/-- WHAT THE WALK IS TOLD OF A SLICE OF INTEGERS THAT CAME IN: it is nil; or it leads to a row of 'cap' cells, the numbers 'zs' (the first 'len' are its elements, the rest its spare room), each fitting its kind. -/
def IsRow (k : IntKind) (w : World) (a : Option Addr) (len cap : Nat) (zs : List Int) : Prop :=
  (a = none ∧ len = 0 ∧ cap = 0 ∧ zs = []) ∨
  ∃ x, a = some x ∧ len ≤ cap ∧ cap ≤ maxLen ∧ zs.length = cap ∧ (∀ i, i < zs.length → w.cell? (x.add i) = some (.int k (zs.getD i 0))) ∧ ∀ n ∈ zs, (Lit.int k n).wf = true

theorem wf32 {a : Int} (h : (Lit.int .i32 a).wf = true) : -2147483648 ≤ a ∧ a ≤ 2147483647 := by
  simpa [Lit.wf, IntKind.min, IntKind.max, IntKind.signed, IntKind.bits] using h

/-- what both ways of encoding give at one slice -/
def Encs (f : FuncId) (v : Value) (zs : List Int) (w0 : World) : Prop := ∀ w, Below w0.heap.size w0 w → Calls Tryd.prog f #[v] w fun e w' => ∃ s, e = .returned (.string s) ∧ bs s = Utf.enc zs ∧ Below w.heap.size w w'

set_option maxRecDepth 100000 in
set_option maxHeartbeats 1000000 in
theorem out_a (A : Option Addr) (n c : Nat) (w : World) (hT : Tab w) (h : 1000 < n) (hm : n ≤ 9223372036854775807) :
    Calls Tryd.prog 4 #[.slice A n c] w fun e w' => e = .returned (.bool true) ∧ Below w.heap.size w w' := by
  have hz : (1000 : Int) < (n : Int) := by omega
  go_enter Tryd.func4, Tryd.ntmps4
  go_wp2_with fail
  refine (uhead_any _ (by with_reducible (repeat (first | assumption | apply Tab.alloc | apply Tab.drew | apply Tab.drewN | (refine Tab.below ?_ (by assumption)) | (refine Tab.drawn ?_ (by assumption)))))).mono ?_
  rintro e w1 ⟨rfl, b1⟩
  go_wp2_with fail
  go_ret
  exact ⟨rfl, b1⟩

theorem enc_facts (s : ByteArray) (zs : List Int) (h : bs s = Utf.enc zs) (hn : zs.length ≤ 1000) : s.size ≤ 4000 ∧ Utf.valid (bs s) = true ∧ Utf.decs (bs s) = zs.map (fun r => (Utf.fix r, (Utf.one r).length)) := by
  refine ⟨?_, ?_, ?_⟩
  · have := enc_len zs
    rw [← h, bs_len] at this
    omega
  · rw [h]; exact Utf.valid_enc0 zs
  · rw [h]; exact Utf.decs_enc0 zs

set_option maxRecDepth 100000 in
set_option maxHeartbeats 2000000 in
theorem main_zero (A : Option Addr) (c : Nat) (w : World) (hT : Tab w) (E1 : Encs 16 (.slice A 0 c) [] w) (E2 : Encs 17 (.slice A 0 c) [] w) :
    Calls Tryd.prog 4 #[.slice A 0 c] w fun e w' => e = .returned (.bool true) ∧ Below w.heap.size w w' := by
  have H1 := Lib.hid E1
  have H2 := Lib.hid E2
  clear E1 E2
  go_enter Tryd.func4, Tryd.ntmps4
  go_wp2_with fail
  refine (H1.out _ (Below.refl _ _)).mono ?_
  rintro e w1 ⟨s, rfl, hs, b1⟩
  obtain ⟨k1, k2, k3⟩ := enc_facts s [] hs (by simp)
  have V : Hid (∀ w, Tab w → Calls Tryd.prog 14 #[.string s] w fun e w' => e = .returned (.bool true) ∧ Below w.heap.size w w') := fun w hTw => by
    have h := uvalid_any s w hTw (by omega)
    rw [k2] at h
    exact h
  have HS := Lib.hid hs
  have K3 := Lib.hid k3
  clear hs k2 k3
  go_wp2_with fail
  refine (udecode_any s _ (by with_reducible (repeat (first | assumption | apply Tab.alloc | apply Tab.drew | apply Tab.drewN | (refine Tab.below ?_ (by assumption)) | (refine Tab.drawn ?_ (by assumption))))) (by omega)).mono ?_
  rintro e w2 ⟨v, rfl, b2, o2⟩
  rw [K3.out] at o2
  obtain ⟨B, d, rfl⟩ := o2.form
  clear o2
  go_wp2_with fail
  refine (H2.out _ (below_seq b1 b2)).mono ?_
  rintro e w3 ⟨t, rfl, ht, b3⟩
  obtain rfl : t = s := bs_inj _ _ (by rw [ht, HS.out])
  clear ht
  go_wp2_with fail
  refine (V.out _ (by with_reducible (repeat (first | assumption | apply Tab.alloc | apply Tab.drew | apply Tab.drewN | (refine Tab.below ?_ (by assumption)) | (refine Tab.drawn ?_ (by assumption)))))).mono ?_
  rintro e w4 ⟨rfl, b4⟩
  go_wp2_with fail
  refine wp_loop_rounds 1 ?_
  rw [rounds_succ]
  go_wp2_with fail
  refine (uhead_any _ (by with_reducible (repeat (first | assumption | apply Tab.alloc | apply Tab.drew | apply Tab.drewN | (refine Tab.below ?_ (by assumption)) | (refine Tab.drawn ?_ (by assumption)))))).mono ?_
  rintro e w5 ⟨rfl, b5⟩
  go_wp2_with fail
  go_ret
  exact ⟨rfl, below_seq b1 (below_seq b2 (below_seq b3 (below_seq b4 b5)))⟩

set_option maxRecDepth 100000 in
set_option maxHeartbeats 2000000 in
theorem main_some (a : Addr) (n c : Nat) (zs : List Int) (w : World) (hT : Tab w) (hz : Hid (zs.length = n)) (h0 : 0 < n) (hn : ¬ 1000 < n) (ha : a.block < w.heap.size)
    (hc : ∀ j, j < n → w.cell? (a.add j) = some (.int .i32 (zs.getD j 0)))
    (E1 : Encs 16 (.slice (some a) n c) zs w) (E2 : Encs 17 (.slice (some a) n c) zs w) :
    Calls Tryd.prog 4 #[.slice (some a) n c] w fun e w' => e = .returned (.bool true) ∧ Below w.heap.size w w' := by
  have H1 := Lib.hid E1
  have H2 := Lib.hid E2
  have HC := Lib.hid hc
  have hnz : ¬ (1000 : Int) < (n : Int) := by omega
  clear E1 E2 hc
  go_enter Tryd.func4, Tryd.ntmps4
  go_wp2_with fail
  refine (H1.out _ (Below.refl _ _)).mono ?_
  rintro e w1 ⟨s, rfl, hs, b1⟩
  obtain ⟨k1, k2, k3⟩ := enc_facts s zs hs (by rw [hz.out]; omega)
  have V : Hid (∀ w, Tab w → Calls Tryd.prog 14 #[.string s] w fun e w' => e = .returned (.bool true) ∧ Below w.heap.size w w') := fun w hTw => by
    have h := uvalid_any s w hTw (by omega)
    rw [k2] at h
    exact h
  have HS := Lib.hid hs
  have K3 := Lib.hid k3
  clear hs k2 k3
  go_wp2_with fail
  refine (udecode_any s _ (by with_reducible (repeat (first | assumption | apply Tab.alloc | apply Tab.drew | apply Tab.drewN | (refine Tab.below ?_ (by assumption)) | (refine Tab.drawn ?_ (by assumption))))) (by omega)).mono ?_
  rintro e w2 ⟨v, rfl, b2, o2⟩
  rw [K3.out] at o2
  obtain ⟨g, d, rfl, hg, hcell2⟩ := o2.rs (by rw [List.length_map, hz.out]; exact h0)
  rw [List.length_map, hz.out]
  have R2 : Hid (∀ i, i < n → w2.cell? ⟨g, i * 5, none⟩ = some (.int .i32 (Utf.fix (zs.getD i 0)))) := by
    intro i hi
    rw [hcell2 i (by rw [List.length_map, hz.out]; exact hi)]
    have : i < zs.length := by rw [hz.out]; exact hi
    simp [List.getD, this]
  clear o2 hcell2
  go_wp2_with fail
  refine (H2.out _ (below_seq b1 b2)).mono ?_
  rintro e w3 ⟨t, rfl, ht, b3⟩
  obtain rfl : t = s := bs_inj _ _ (by rw [ht, HS.out])
  clear ht
  go_wp2_with fail
  refine (V.out _ (by with_reducible (repeat (first | assumption | apply Tab.alloc | apply Tab.drew | apply Tab.drewN | (refine Tab.below ?_ (by assumption)) | (refine Tab.drawn ?_ (by assumption)))))).mono ?_
  rintro e w4 ⟨rfl, b4⟩
  have R4 : Hid (∀ i, i < n → w4.cell? ⟨g, i * 5, none⟩ = some (.int .i32 (Utf.fix (zs.getD i 0)))) := by
    intro i hi
    rw [(below_seq b3 b4).cell hg]
    exact R2.out i hi
  have B4 := below_seq b1 (below_seq b2 (below_seq b3 b4))
  have C4 : Hid (∀ j, j < n → w4.cell? (a.add j) = some (.int .i32 (zs.getD j 0))) := by
    intro j hj
    rw [B4.cell (by rw [block_add]; exact ha)]
    exact HC.out j hj
  clear R2 HC b1 b2 b3 b4
  go_wp2_with fail
  go_loopg [5] 2000 (fun g s5 wx => w4 = wx ∧ ∃ k : Nat, s5 = .int .i64 k ∧ k ≤ n ∧ g = 2000 - k)
  case atStart => exact ⟨rfl, 0, rfl, by omega, rfl⟩
  case round =>
    obtain ⟨rfl, k, rfl, hk, rfl⟩ := hrel
    by_cases hlt : k < n
    · have hltz : (k : Int) < (n : Int) := by omega
      have c1 := C4.out k hlt
      have c2 := R4.out k hlt
      generalize zs.getD k 0 = x at *
      by_cases hp : Utf.Pt x
      · have e : Utf.fix x = x := by unfold Utf.fix; rw [if_pos hp]
        rw [e] at c2
        have HP := Lib.hid hp
        clear hp e
        go_wp2_with fail
        refine (pt_yes x _ HP.out).mono ?_
        rintro e w' ⟨rfl, rfl⟩
        go_wp2_with fail
        go_roundg (2000 - (k + 1))
        case measure => omega
        case rel => exact ⟨rfl, k + 1, by go_num, by omega, rfl⟩
      · have e : Utf.fix x = 65533 := by unfold Utf.fix; rw [if_neg hp]
        rw [e] at c2
        have HP := Lib.hid hp
        clear hp e
        go_wp2_with fail
        refine (pt_no x _ HP.out).mono ?_
        rintro e w' ⟨rfl, rfl⟩
        go_wp2_with fail
        go_roundg (2000 - (k + 1))
        case measure => omega
        case rel => exact ⟨rfl, k + 1, by go_num, by omega, rfl⟩
    · have hltz : ¬ (k : Int) < (n : Int) := by omega
      go_wp2_with fail
      refine (uhead_any _ (by with_reducible (repeat (first | assumption | apply Tab.alloc | apply Tab.drew | apply Tab.drewN | (refine Tab.below ?_ (by assumption)) | (refine Tab.drawn ?_ (by assumption)))))).mono ?_
      rintro e w5 ⟨rfl, b5⟩
      go_wp2_with fail
      go_ret
      exact ⟨rfl, below_seq B4 b5⟩

theorem encs_nil (w : World) : Encs 16 (.slice none 0 0) [] w ∧ Encs 17 (.slice none 0 0) [] w :=
  ⟨fun _ _ => uencode_nil _, fun _ _ => rencode_nil _⟩

theorem encs_some (a : Addr) (zs : List Int) (c : Nat) (w : World) (hn : zs.length ≤ 5000) (ha : zs.length = 0 ∨ a.block < w.heap.size) (hc : ∀ j, j < zs.length → w.cell? (a.add j) = some (.int .i32 (zs.getD j 0))) (hr : ∀ z ∈ zs, -2147483648 ≤ z ∧ z ≤ 2147483647) :
    Encs 16 (.slice (some a) zs.length c) zs w ∧ Encs 17 (.slice (some a) zs.length c) zs w := by
  have key : ∀ w' : World, Below w.heap.size w w' → (zs.length = 0 ∨ a.block < w'.heap.size) ∧ ∀ j, j < zs.length → w'.cell? (a.add j) = some (.int .i32 (zs.getD j 0)) := fun w' b =>
    ⟨by have := b.size; rcases ha with h | h <;> omega, fun j hj => by rw [b.cell (by rw [block_add]; rcases ha with h | h <;> omega)]; exact hc j hj⟩
  exact ⟨fun w' b => uencode_some a zs c w' hn (key w' b).1 (key w' b).2 hr, fun w' b => rencode_some a zs c w' hn (key w' b).1 (key w' b).2⟩

theorem walk (a0 : Option Addr) (len0 cap0 : Nat) (z0 : List Int) (w : World) (hT : Tab w) (w0 : IsRow .i32 w a0 len0 cap0 z0) :
    Calls Tryd.prog 4 #[.slice a0 len0 cap0] w fun e w' => e = .returned (.bool true) ∧ Below w.heap.size w w' := by
  rcases w0 with ⟨rfl, rfl, rfl, rfl⟩ | ⟨x, rfl, hl, hm, hz, hcell, hwz⟩
  · exact main_zero none 0 w hT (encs_nil w).1 (encs_nil w).2
  · unfold maxLen at hm
    by_cases h1 : 1000 < len0
    · exact out_a _ len0 cap0 w hT h1 (by omega)
    · have hlen : (z0.take len0).length = len0 := by rw [List.length_take]; omega
      have hc : ∀ j, j < len0 → w.cell? (x.add j) = some (.int .i32 ((z0.take len0).getD j 0)) := fun j hj => by
        rw [hcell j (by omega)]
        simp [List.getD, hj]
      have hr : ∀ z ∈ z0.take len0, -2147483648 ≤ z ∧ z ≤ 2147483647 := fun z hz => wf32 (hwz z (List.mem_of_mem_take hz))
      rcases Nat.eq_zero_or_pos len0 with h2 | h2
      · subst h2
        have := encs_some x [] cap0 w (by simp) (Or.inl rfl) (by simp) (by simp)
        exact main_zero (some x) cap0 w hT this.1 this.2
      · have ha : x.block < w.heap.size := by
          rw [← block_add x 0]
          exact World.block_lt_of_cell? _ _ (hc 0 h2)
        have := encs_some x (z0.take len0) cap0 w (by omega) (Or.inr ha) (by rw [hlen]; exact hc) hr
        rw [hlen] at this
        exact main_some x len0 cap0 (z0.take len0) w hT hlen h2 h1 ha hc this.1 this.2

/-! ### THE ROW's STEP -/
theorem laid_met (os : Os) : laidMet Tryd.prog Rows.utfEncodesRow.laid ((laidWorld os).forCall (fun _ _ => 0) ⟨#[], #[.slice none 0 0], []⟩).memory :=
  laidMet_of_run' 8 (by kernel_rfl) (by kernel_rfl)
theorem reads (os : Os) {H : Type} (enc : TypeId × Value → H) : ∃ places, DataW.whole enc Tryd.prog ((laidWorld os).forCall (fun _ _ => 0) ⟨#[], #[.slice none 0 0], []⟩).memory Tryd.f4.params.toList Rows.utfEncodesSpec.vars false (#[.slice none 0 0] : Array Value).toList 8 = some ([.nil], [], places) :=
  ⟨[], by kernel_rfl⟩

set_option maxRecDepth 100000 in
theorem lifted (os : Os) (started : os.Started) (H : Type) (enc : TypeId × Value → H) (F : Stop.Interp) :
    ReturnsInHanded {} Tryd.checked os 4 .any ((OpenSpec.ofChange Rows.utfEncodesSpec).preRow enc Tryd.prog Tryd.f4 Rows.utfEncodesRow.domain false Rows.utfEncodesRow.laid) (((OpenSpec.ofChange Rows.utfEncodesSpec).at F).post enc Tryd.prog Tryd.f4 false true false false) := by
  obtain ⟨places, hx⟩ := reads os enc
  refine returnsInHanded_of_row (C := Tryd.checked) (s := OpenSpec.ofChange Rows.utfEncodesSpec) own started (by kernel_rfl) Tryd.func4
    (witness_row_at (enc := enc) (C := Tryd.checked) false (laidWorld os) #[.slice none 0 0] rfl (by kernel_rfl) (by kernel_rfl) (by kernel_rfl)
      (OpenSpec.preRow_of_cond 8 hx (by kernel_rfl) (fun k hk => by cases hk) (by kernel_rfl) (laid_met os))) ?_
  intro W base args ds gs before hval0 hW _ _ _ hL _ _
  have hval : ∀ (j : Nat) t v, Tryd.f4.params[j]? = some t → args[j]? = some v → Value.okWide Tryd.prog W .any base t v := hval0
  have hW' := hW
  obtain ⟨p, q, hA0, hV, rfl, hfz, hnd⟩ := hW
  have hA : DataW.TrodAll enc Tryd.prog W 0 (fun _ => true) true Tryd.f4.params.toList args.toList ds p := hA0
  rw [Tryd.params4] at hA hval
  obtain ⟨v0, vs0, d0, ds0, p0, q0, hargs, rfl, rfl, h0, r0⟩ := trodAll_cons hA
  obtain ⟨rfl, rfl, rfl⟩ := trodAll_nil r0
  obtain rfl : args = #[v0] := by cases args; simp_all
  obtain ⟨rfl, rfl⟩ := trodVars_none hV
  obtain ⟨a0, len0, cap0, rfl⟩ := okWide_slice Tryd.underlying28 (hval 0 28 v0 rfl rfl)
  have k0 := h0
  have lt0 : ∀ x ∈ p0, x.block < W.heap.size := by obtain ⟨m, hm⟩ := k0; exact DataW.trod_lt m _ _ _ hm
  obtain ⟨z0, w0⟩ : ∃ zs, IsRow .i32 W a0 len0 cap0 zs := by
    obtain ⟨fuel, hf⟩ := h0
    rcases open_ints Tryd.underlying28 Tryd.underlying21 (by kernel_rfl) hf with ⟨hcs, _⟩ | ⟨x, l, c, zs, hcs, _, hl, hm, hz, _, hcell, hwz⟩
    · simp [Value.cells] at hcs
      obtain ⟨rfl, rfl, rfl⟩ := hcs
      exact ⟨[], .inl ⟨rfl, rfl, rfl, rfl⟩⟩
    · simp [Value.cells] at hcs
      obtain ⟨rfl, rfl, rfl⟩ := hcs
      exact ⟨zs, .inr ⟨_, rfl, hl, hm, by simpa using hz, hcell, hwz⟩⟩
  clear hA0 hval0
  refine (walk a0 len0 cap0 z0 W (tab_of hL) w0).mono fun e W' ⟨he, bel⟩ => ?_
  subst he
  exact ⟨_, rfl, _, _, _, [], _, [], hW', trodAll_mk1 (shut_bool Tryd.underlying4 _), (trodAll_cons_mk (Below.trod laidOut (by kernel_rfl) (of_decide_eq_true (by kernel_rfl)) k0 bel lt0) trodAll_mk0), rfl, bel.frame _, fun h => by cases h⟩

theorem said : Rows.UtfEncodesSaid :=
  OpenClaim.holds_of_cond 4 Tryd.f4 rfl rfl rfl rfl rfl rfl rfl ⟨rfl, rfl, rfl, rfl, rfl⟩ rfl rfl rfl rfl rfl (by kernel_rfl) Tryd.func4 (by kernel_rfl)
    (of_decide_eq_true (by kernel_rfl)) (by unfold Func.isWrapper; first | (rw [if_pos (by decide +kernel)]; kernel_rfl) | (rw [if_neg (by decide +kernel)]; exact ⟨rfl, rfl⟩))
    (fun os started H enc _ F => by rw [OpenClaim.pre_eq_preRow]; exact lifted os started H enc F)

/-- no parameter wants a stand-in; the program's own looks are off -/
theorem plain (f : FuncId) (fn : Func) (hf : Tryd.pinned.checked.prog.funcNamed "stickful/stickfullaw02.UtfEncodes" = some f) (hfn : Tryd.pinned.checked.prog.funcs[f]? = some fn) :
    false = Tryd.pinned.checked.prog.looks [] ∧ ∀ (j : Nat) t, fn.params[j]? = some t → Tryd.pinned.checked.prog.wantsStandIn t = false := by
  obtain rfl : f = 4 := Option.some.inj ((show Tryd.prog.funcNamed "stickful/stickfullaw02.UtfEncodes" = some 4 by kernel_rfl).symm.trans hf) |>.symm
  obtain rfl : fn = Tryd.f4 := (Option.some.inj (Tryd.func4.symm.trans hfn)).symm
  refine ⟨by kernel_rfl, fun j t ht => ?_⟩
  rw [Tryd.params4] at ht
  have hm : t ∈ [28] := by simpa using Array.mem_of_getElem? ht
  have hall : ([28].all fun u => !Tryd.prog.wantsStandIn u) = true := by kernel_rfl
  exact (show Tryd.prog.wantsStandIn t = false by simpa using List.all_eq_true.1 hall t hm)

/-- ████ THE STATEMENT: THE TIED CARD ████ -/
theorem card : Rows.UtfEncodesCardSaid :=
  Claim7.holds_tied_plain_at .later [] _ _ _ _ said (fun _ h => by cases h) (by kernel_rfl) (fun _ h => by cases h) utfEncodes_row_tie rfl ⟨rfl, rfl⟩ (by kernel_rfl) rfl plain (by kernel_rfl)
#print axioms card
end Go.Proofs.YtgnalnppjhgmjaaDoor.utfEncodes
