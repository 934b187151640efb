/- ClassLists: for every input the law returns true, and its arguments read behind the call as they did before. No condition on the input; the package variable that the program's text lays (the table of wide ranges) is as it was laid (the card ties it to the text). -/
import Derived.Test.YtgmdechhghbmpaaDoorCLaid
import Derived.Test.YtgmdechhghbmpaaDoorOpen
import Derived.Deep.RegionHeld3
namespace Go.Proofs.YtgmdechhghbmpaaDoor.classLists
open Go.ChangeShapes Go.WideShapes Go.ChangeAt Go.RowKit
open Go.ChangeMaps (open_string shut_string)
set_option linter.unusedVariables false      -- a walk need not use every 'w<i>' (that an argument fits its kind)

theorem name_q (c : Int) (h0 : 0 ≤ c) (h1 : c ≤ 26) (w : World) : Calls Tryd.prog 14 #[.int .u8 c] w fun e w' => e = .returned (.string (nm c.toNat)) ∧ w' = w := by
  have := cname_any c.toNat w (by omega)
  rw [Int.toNat_of_nonneg h0] at this
  exact this.mono fun e w' ⟨h, k⟩ => ⟨h, k.symm⟩
theorem name_b (c : Nat) (w : World) (h : c ≤ 255) : Calls Tryd.prog 14 #[.int .u8 c] w fun e w' => e = .returned (.string (nm c)) ∧ w = w' := cname_any c w h

set_option maxRecDepth 100000 in
set_option maxHeartbeats 1000000 in
theorem walk_long (A : Option Addr) (n cap c : Nat) (w : World) (hT : Tab w) (h : 1000 < n) (hm : n ≤ 9223372036854775807) :
    Calls Tryd.prog 5 #[.slice A n cap, .int .u8 c] w fun e w' => e = .returned (.bool true) ∧ Below w.heap.size w w' := by
  have hz : (1000 : Int) < (n : Int) := by omega
  go_enter Tryd.func5, Tryd.ntmps5
  go_wp2_with fail
  refine (chead_any _ hT).mono ?_
  rintro e w1 ⟨rfl, b1⟩
  go_wp2_with fail
  go_ret
  exact ⟨rfl, b1⟩

/-- what a place of both lists holds -/
structure Place (w : World) (a : Addr) (G k : Nat) (z c : Int) : Prop where
  all : w.cell? ⟨G, k, none⟩ = some (.int .u8 c)
  num : w.cell? (a.add k) = some (.int .i32 z)
theorem clss_at {zs : List Int} {n k : Nat} {cs : Array Value} (h : Clss zs n cs) (hn : zs.length = n) (hk : k < n) : ∃ z c : Int, zs[k]? = some z ∧ clsOf z = c ∧ 0 ≤ c ∧ c ≤ 26 ∧ cs[k]? = some (.int .u8 c) := by
  have hz : zs[k]? = some (zs[k]'(by omega)) := List.getElem?_eq_getElem _
  have := clsOf_bd (zs[k]'(by omega))
  exact ⟨_, _, hz, rfl, this.1, this.2, h.2 k _ hk hz⟩

set_option maxRecDepth 100000 in
set_option maxHeartbeats 8000000 in
theorem walk_short (v : Value) (n : Nat) (zs : List Int) (c : Nat) (w : World) (hT : Tab w) (hn : zs.length = n) (hm : n ≤ 1000) (hc : c ≤ 255) (hR : Row (fun _ => False) w v (zs.map (Value.int .i32))) :
    Calls Tryd.prog 5 #[v, .int .u8 c] w fun e w' => e = .returned (.bool true) ∧ Below w.heap.size w w' := by
  have HALL := Lib.hid (call_any v n zs w hn (by omega) hR)
  have P1 : Hid (∀ w, Calls Tryd.prog 14 #[.int .u8 (c : Int)] w fun e w' => e = .returned (.string (nm c)) ∧ w = w') := fun w => name_b c w hc
  have P2 : Hid (∀ w, Calls Tryd.prog 15 #[.int .u8 (c : Int)] w fun e w' => e = .returned (.string (nm c)) ∧ Below w.heap.size w w') := fun w => rname_any c w hc
  generalize nm c = NC at P1 P2
  have HN := Lib.hid hn
  have HRw := Lib.hid hR
  obtain ⟨A, cap, rfl⟩ := hR.form
  rw [List.length_map, hn] at HRw HALL ⊢
  clear hn hR
  have hz : ¬ (1000 : Int) < (n : Int) := by omega
  go_enter Tryd.func5, Tryd.ntmps5
  go_wp2_with fail
  refine HALL.out.mono ?_
  rintro e w1 ⟨G, cs, rfl, _, hB, hC, b1⟩
  have HC := Lib.hid hC
  clear hC HALL
  go_wp2_with fail
  refine (P1.out _).mono ?_
  rintro e w' ⟨rfl, rfl⟩
  go_wp2_with fail
  refine (P2.out _).mono ?_
  rintro e w2 ⟨rfl, b2⟩
  have hB2 := hB.keep (S := fun _ => False) (Mod.of_below b2) id
  have bel2 := below_seq b1 b2
  clear hB b1 b2 P1 P2 hz
  go_wp2_with fail
  go_loopg [6] n (fun kx s6 wr => ∃ k : Nat, s6 = .int .i64 k ∧ k ≤ n ∧ kx = n - k ∧ Below w.heap.size w wr ∧ Blk wr G 5 cs)
  case atStart => exact ⟨0, rfl, by omega, by omega, bel2, hB2⟩
  case round =>
    clear bel2 hB2
    obtain ⟨k, rfl, hk, rfl, bel, hG⟩ := hrel
    by_cases hlt : k < n
    · obtain ⟨z, c1, hz, hcz, h0, h1, hck⟩ := clss_at HC.out HN.out hlt
      obtain ⟨a, cap2, hv, hab, _, hcell⟩ := HRw.out.at_ (by have := HN.out; simp; omega)
      obtain rfl : A = some a := by injection hv
      have q1 : wr.cell? ⟨G, k, none⟩ = some (.int .u8 c1) := (hG.cell k).trans hck
      have q2 : wr.cell? (a.add k) = some (.int .i32 z) := (bel.cell (p := a.add k) (by rw [block_of_add]; exact hab)).trans (hcell k _ (by rw [List.getElem?_map, hz]; rfl))
      have HOF : Hid (∀ w, Calls Tryd.prog 7 #[.int .i32 z] w fun e w' => e = .returned (.int .u8 c1) ∧ Below w.heap.size w w') := fun w => by
        have := cof_any z w
        rw [hcz] at this
        exact this
      have HNM : Hid (∀ w, Calls Tryd.prog 14 #[.int .u8 c1] w fun e w' => e = .returned (.string (nm c1.toNat)) ∧ w' = w) := name_q c1 h0 h1
      have hsz := nm_size c1.toNat (by omega)
      have HS := Lib.hid (nm_same c1.toNat)
      have l1 : G < wr.heap.size := hG.lt
      have l2 : (a.add k).block < wr.heap.size := by rw [block_of_add]; exact Nat.lt_of_lt_of_le hab bel.size
      have HHC := Lib.hid hck
      have hkz : (k : Int) < n := by omega
      clear hv hcell hz hcz hck
      obtain ⟨N, hN⟩ : ∃ N, nm c1.toNat = N := ⟨_, rfl⟩
      rw [hN] at HNM hsz HS
      have HNN := Lib.hid hN
      clear hN
      go_wp2_with fail
      go_region_held3 (fun w' => w'.cell? ⟨G, k, none⟩ = some (.int .u8 c1) ∧ w'.cell? (a.add k) = some (.int .i32 z)) (first | exact ⟨q1, q2⟩ | exact ⟨q3, q4⟩) (first
        | (go_at_call 7; refine (HOF.out _).mono ?_; rintro e w3 ⟨rfl, b3⟩; have q3 : w3.cell? ⟨G, k, none⟩ = some (.int .u8 c1) := (b3.cell (p := ⟨G, k, none⟩) l1).trans q1; have q4 : w3.cell? (a.add k) = some (.int .i32 z) := (b3.cell (p := a.add k) l2).trans q2)
        | (go_at_call 14; refine (HNM.out _).mono ?_; rintro e w4 ⟨rfl, rfl⟩))
      have bel4 : Below w.heap.size w w4 := bel.drew.trans (b3.mono bel.size)
      have hG4 : Blk w4 G 5 cs := (hG.drewN 1).keep (S := fun _ => False) (Mod.of_below b3) id
      clear q1 q2 q3 q4 l1 l2 HOF b3 bel hG
      go_wp2_with fail
      go_loopg [7] 20 (fun kx s7 wr2 => ∃ j : Nat, s7 = .int .i64 j ∧ j ≤ k ∧ j ≤ 20 ∧ kx = 20 - j ∧ Below w.heap.size w wr2 ∧ Blk wr2 G 5 cs)
      case atStart => exact ⟨0, rfl, by omega, by omega, by omega, bel4, hG4⟩
      case round =>
        clear bel4 hG4
        obtain ⟨j, rfl, hj, hj2, rfl, bel, hG⟩ := hrel
        by_cases hjk : j < k
        · by_cases hj20 : j < 20
          · obtain ⟨z2, c2, hz2, _, g0, g1, hcj⟩ := clss_at HC.out HN.out (k := j) (by omega)
            have q1 := (hG.cell k).trans HHC.out
            have q2 := (hG.cell j).trans hcj
            have HJ := Lib.hid hcj
            clear hz2 hcj
            have hjz : (j : Int) < n := by omega
            by_cases he : c1 = c2
            · subst he
              go_wp2_with fail
              go_big_quiet ((go_at_call 14; exact Calls.quiet_of_same (HNM.out _)))
              go_wp2_with fail
              go_roundg (20 - (j + 1))
              case measure => omega
              case rel => exact ⟨j + 1, by go_num, by omega, by omega, by omega, below_drewN bel _, hG.drewN _⟩
            · have HNM2 : Hid (∀ w, Calls Tryd.prog 14 #[.int .u8 c2] w fun e w' => e = .returned (.string (nm c2.toNat)) ∧ w' = w) := name_q c2 g0 g1
              have hs := HS.out c2.toNat (by omega) (by omega)
              rw [decide_eq_false (by omega)] at hs
              have hq : (c1 == c2) = false := by simpa using he
              obtain ⟨N2, hN2⟩ : ∃ N, nm c2.toNat = N := ⟨_, rfl⟩
              rw [hN2] at HNM2 hs
              clear hN2
              go_wp2_with fail
              go_big_quiet ((go_at_call 14; first | (with_reducible exact Calls.quiet_of_same (HNM.out _)) | (with_reducible exact Calls.quiet_of_same (HNM2.out _))))
              go_wp2_with fail
              go_roundg (20 - (j + 1))
              case measure => omega
              case rel => exact ⟨j + 1, by go_num, by omega, by omega, by omega, below_drewN bel _, hG.drewN _⟩
          · go_wp2_with fail
            go_roundg (n - (k + 1))
            case measure => omega
            case rel => exact ⟨k + 1, by go_num, by omega, rfl, bel, hG⟩
        · go_wp2_with fail
          go_roundg (n - (k + 1))
          case measure => omega
          case rel => exact ⟨k + 1, by go_num, by omega, rfl, bel, hG⟩
    · have hkn : k = n := by omega
      subst hkn
      go_wp2_with fail
      refine (chead_any _ (hT.below bel)).mono ?_
      rintro e w6 ⟨rfl, b6⟩
      go_wp2_with fail
      go_ret
      exact ⟨rfl, bel.trans (b6.mono bel.size)⟩

theorem walk (v : Value) (zs : List Int) (c : Int) (w : World) (hT : Tab w) (hl : zs.length ≤ maxLen) (h0 : 0 ≤ c) (h1 : c ≤ 255) (hR : Row (fun b => w.heap.size ≤ b) w v (zs.map (Value.int .i32))) :
    Calls Tryd.prog 5 #[v, .int .u8 c] w fun e w' => e = .returned (.bool true) ∧ Below w.heap.size w w' := by
  obtain ⟨m, rfl⟩ : ∃ m : Nat, c = m := ⟨c.toNat, by omega⟩
  have hR' : Row (fun _ => False) w v (zs.map (Value.int .i32)) := hR.mono fun _ _ h => h.elim
  by_cases hm : zs.length ≤ 1000
  · exact walk_short v zs.length zs m w hT rfl hm (by omega) hR'
  · obtain ⟨A, cap, rfl⟩ := hR'.form
    rw [List.length_map]
    unfold maxLen at hl
    exact walk_long A zs.length cap m w hT (by omega) (by omega)

/-! ### THE ROW's STEP -/

theorem laidOut : laidOutB Tryd.prog = true := by kernel_rfl
theorem laid_met (os : Os) : laidMet Tryd.prog Rows.classListsRow.laid ((laidWorld os).forCall (fun _ _ => 0) ⟨#[], #[.slice none 0 0, .int .u8 0], []⟩).memory :=
  laidMet_of_run' 8 (by kernel_rfl) (by kernel_rfl)
theorem reads (os : Os) {H : Type} (enc : TypeId × Value → H) : ∃ places, DataW.whole enc Tryd.prog ((laidWorld os).forCall (fun _ _ => 0) ⟨#[], #[.slice none 0 0, .int .u8 0], []⟩).memory Tryd.f5.params.toList Rows.classListsSpec.vars false (#[.slice none 0 0, .int .u8 0] : Array Value).toList 8 = some ([.nil, .lit (.int .u8 0)], [], places) :=
  ⟨[], by kernel_rfl⟩

set_option maxRecDepth 100000 in
theorem lifted (os : Os) (started : os.Started) (H : Type) (enc : TypeId × Value → H) (F : Stop.Interp) :
    ReturnsInHanded {} Tryd.checked os 5 .any ((OpenSpec.ofChange Rows.classListsSpec).preRow enc Tryd.prog Tryd.f5 Rows.classListsRow.domain false Rows.classListsRow.laid) (((OpenSpec.ofChange Rows.classListsSpec).at F).post enc Tryd.prog Tryd.f5 false true false false) := by
  obtain ⟨places, hx⟩ := reads os enc
  refine returnsInHanded_of_row (C := Tryd.checked) (s := OpenSpec.ofChange Rows.classListsSpec) own started (by kernel_rfl) Tryd.func5
    (witness_row_at (enc := enc) (C := Tryd.checked) false (laidWorld os) #[.slice none 0 0, .int .u8 0] rfl (by kernel_rfl) (by kernel_rfl) (by kernel_rfl)
      (OpenSpec.preRow_of_cond 8 hx (by kernel_rfl) (fun k hk => by cases hk) (by kernel_rfl) (laid_met os))) ?_
  intro W base args ds gs before hval0 hW _ _ _ hL _ _
  have hval : ∀ (j : Nat) t v, Tryd.f5.params[j]? = some t → args[j]? = some v → Value.okWide Tryd.prog W .any base t v := hval0
  have hW' := hW
  obtain ⟨p, q, hA0, hV, rfl, hfz, hnd⟩ := hW
  have hA : DataW.TrodAll enc Tryd.prog W 0 (fun _ => true) true Tryd.f5.params.toList args.toList ds p := hA0
  rw [Tryd.params5] at hA hval
  obtain ⟨v0, vs0, d0, ds0, p0, q0, hargs, rfl, rfl, h0, r0⟩ := trodAll_cons hA
  obtain ⟨v1, vs1, d1, ds1, p1, q1, rfl, rfl, rfl, h1, r1⟩ := trodAll_cons r0
  obtain ⟨rfl, rfl, rfl⟩ := trodAll_nil r1
  obtain rfl : args = #[v0, v1] := by cases args; simp_all
  obtain ⟨rfl, rfl⟩ := trodVars_none hV
  have k0 := h0
  have lt0 : ∀ x ∈ p0, x.block < W.heap.size := by obtain ⟨m, hm⟩ := k0; exact DataW.trod_lt m _ _ _ hm
  have k1 := h1
  have lt1 : ∀ x ∈ p1, x.block < W.heap.size := by obtain ⟨m, hm⟩ := k1; exact DataW.trod_lt m _ _ _ hm
  obtain ⟨z0, row0, _, len0⟩ := open_row_ints Tryd.underlying25 Tryd.underlying21 cI32 (hval 0 25 v0 rfl rfl) h0
  obtain ⟨a1, rfl, rfl, rfl, w1⟩ := open_int Tryd.underlying5 (hval 1 5 v1 rfl rfl) h1
  clear hA0 hval0
  refine (walk v0 z0 a1 W (tab_of hL) len0 (bounds_u8 w1).1 (bounds_u8 w1).2 row0).mono fun e W' ⟨he, bel⟩ => ?_
  subst he
  exact ⟨_, rfl, _, _, _, [], _, [], hW', trodAll_mk1 (shut_bool Tryd.underlying4 _), (trodAll_cons_mk (Below.trod laidOut (by kernel_rfl) (of_decide_eq_true (by kernel_rfl)) k0 bel lt0) (trodAll_cons_mk (Below.trod laidOut (by kernel_rfl) (of_decide_eq_true (by kernel_rfl)) k1 bel lt1) trodAll_mk0)), rfl, bel.frame _, fun h => by cases h⟩

theorem said : Rows.ClassListsSaid :=
  OpenClaim.holds_of_cond 5 Tryd.f5 rfl rfl rfl rfl rfl rfl rfl ⟨rfl, rfl, rfl, rfl, rfl⟩ rfl rfl rfl rfl rfl (by kernel_rfl) Tryd.func5 (by kernel_rfl)
    (of_decide_eq_true (by kernel_rfl)) (by unfold Func.isWrapper; first | (rw [if_pos (by decide +kernel)]; kernel_rfl) | (rw [if_neg (by decide +kernel)]; exact ⟨rfl, rfl⟩))
    (fun os started H enc _ F => by rw [OpenClaim.pre_eq_preRow]; exact lifted os started H enc F)

/-- no parameter wants a stand-in; the program's own looks are off -/
theorem plain (f : FuncId) (fn : Func) (hf : Tryd.pinned.checked.prog.funcNamed "stickful/stickfullaw04.ClassLists" = some f) (hfn : Tryd.pinned.checked.prog.funcs[f]? = some fn) :
    false = Tryd.pinned.checked.prog.looks [] ∧ ∀ (j : Nat) t, fn.params[j]? = some t → Tryd.pinned.checked.prog.wantsStandIn t = false := by
  obtain rfl : f = 5 := Option.some.inj ((show Tryd.prog.funcNamed "stickful/stickfullaw04.ClassLists" = some 5 by kernel_rfl).symm.trans hf) |>.symm
  obtain rfl : fn = Tryd.f5 := (Option.some.inj (Tryd.func5.symm.trans hfn)).symm
  refine ⟨by kernel_rfl, fun j t ht => ?_⟩
  rw [Tryd.params5] at ht
  have hm : t ∈ [25, 5] := by simpa using Array.mem_of_getElem? ht
  have hall : ([25, 5].all fun u => !Tryd.prog.wantsStandIn u) = true := by kernel_rfl
  exact (show Tryd.prog.wantsStandIn t = false by simpa using List.all_eq_true.1 hall t hm)

/-- ████ THE STATEMENT: THE TIED CARD ████ -/
theorem card : Rows.ClassListsCardSaid :=
  Claim7.holds_tied_plain_at .later [] _ _ _ _ said (fun _ h => by cases h) (by kernel_rfl) (fun _ h => by cases h) classLists_row_tie rfl ⟨rfl, rfl⟩ (by kernel_rfl) rfl plain (by kernel_rfl)
#print axioms card
end Go.Proofs.YtgmdechhghbmpaaDoor.classLists
