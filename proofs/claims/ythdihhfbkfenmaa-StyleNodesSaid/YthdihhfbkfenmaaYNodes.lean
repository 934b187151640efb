/- The walk of StyleNodes. Conditions: the lists lie where the slices say; bits are 16-bit numbers. -/
import Derived.Test.YthdihhfbkfenmaaYRS
import Derived.Test.YthdihhfbkfenmaaYSame
import Derived.Test.YthdihhfbkfenmaaYHead
namespace Go.Proofs.Ythdihhfbkfenmaa
open Go.ChangeShapes Go.WideShapes Go.ChangeAt Go.RowKit

theorem StyRes.len {base : Sty} {ps : List Int} {ds : List Dcl} {z : Int} {l : List Sty} (h : StyRes base ps ds z l) : l.length ≤ ds.length := by
  rcases h with ⟨_, _, rfl⟩ | ⟨_, _, _, rfl⟩ | ⟨_, _, _, rfl⟩
  · simp
  · simp
  · rw [styK_len]
    exact Nat.le_refl _

set_option maxRecDepth 100000 in
set_option maxHeartbeats 4000000 in
theorem nodes_any (base : Sty) (pv lv : Value) (ps : List Int) (ds : List Dcl) (w : World) (hP : Row (fun _ => False) w pv (ps.map (Value.int .i64))) (hD : Ds w lv ds) (h16 : Wf16 ds) :
    Calls Try.prog 4 #[.agg base.cells, pv, lv] w fun e w' => e = .returned (.bool true) ∧ Below w.heap.size w w' := by
  have CY : Hid (ps.length ≤ 200 → ds.length ≤ 200 → ∀ W, Below w.heap.size w W → Calls Try.prog 19 #[.agg base.cells, pv, lv] W (StyPost W base ps ds)) := fun h1 h2 W hW => ystyles_any base pv lv ps ds W (hP.below hW) (hD.below hW) h16 (by omega) (by omega)
  have CR : Hid (ps.length ≤ 200 → ds.length ≤ 200 → ∀ W, Below w.heap.size w W → Calls Try.prog 20 #[.agg base.cells, pv, lv] W (StyPost W base ps ds)) := fun h1 h2 W hW => rstyles_any base pv lv ps ds W (hP.below hW) (hD.below hW) h16 (by omega) (by omega)
  have CH := Lib.hid head_any
  obtain ⟨A, c, rfl⟩ := hP.form
  obtain ⟨B, c2, rfl⟩ := hD.form
  rw [List.length_map] at CY CR ⊢
  have HLen : Hid (∀ z l, StyRes base ps ds z l → l.length ≤ ds.length) := fun z l h => h.len
  obtain ⟨n, hl⟩ : ∃ n, ds.length = n := ⟨_, rfl⟩
  obtain ⟨m, hm⟩ : ∃ m, ps.length = m := ⟨_, rfl⟩
  rw [hl] at CY CR HLen ⊢
  rw [hm] at CY CR ⊢
  clear hP hD h16 hl hm
  by_cases h1 : 200 < m
  · have h1z : (200 : Int) < m := by omega
    go_enter Try.func4, Try.ntmps4
    go_wp2_with (refine bxSV rfl (.tmp 0) rfl base rfl ?_; intro w1 b1 B1)
    refine (CH.out _).mono ?_
    rintro e w2 ⟨rfl, b2⟩
    go_wp2_with fail
    go_ret
    exact ⟨rfl, below_seq b1 b2⟩
  · have h1z : (m : Int) ≤ 200 := by omega
    by_cases h2 : 200 < n
    · have h2z : (200 : Int) < n := by omega
      clear h1
      go_enter Try.func4, Try.ntmps4
      go_wp2_with (refine bxSV rfl (.tmp 0) rfl base rfl ?_; intro w1 b1 B1)
      refine (CH.out _).mono ?_
      rintro e w2 ⟨rfl, b2⟩
      go_wp2_with fail
      go_ret
      exact ⟨rfl, below_seq b1 b2⟩
    · have h2z : (n : Int) ≤ 200 := by omega
      have CY2 := Lib.hid (CY.out (by omega) (by omega))
      have CR2 := Lib.hid (CR.out (by omega) (by omega))
      clear CY CR
      go_enter Try.func4, Try.ntmps4
      go_wp2_with (first
        | (refine bxSV rfl (.tmp 0) rfl base rfl ?_; intro w1 b1 B1)
        | (refine ldS rfl (.tmp 3) rfl _ rfl base B1.lies ?_))
      refine (CY2.out _ b1).mono ?_
      rintro e w2 ⟨v, z, l, rfl, hres, hss, b2⟩
      have B2 := B1.keep (S := fun _ => False) (Mod.of_below b2) id
      have HRES := Lib.hid hres
      have HSS := Lib.hid hss
      clear hres hss
      go_wp2_with (refine ldS rfl (.tmp 3) rfl _ rfl base B2.lies ?_)
      refine (CR2.out _ (below_seq b1 b2)).mono ?_
      rintro e w3 ⟨v2, z2, l2, rfl, hres, hss, b3⟩
      obtain ⟨rfl, rfl⟩ := HRES.out.uniq hres
      have CS := Lib.hid (rsame_any v v2 l w3 (HSS.out.below b3) hss (by have := HLen.out z l hres; omega))
      clear hres hss HRES HSS
      go_wp2_with fail
      refine CS.out.mono ?_
      rintro e w4 ⟨rfl, b4⟩
      go_wp2_with fail
      refine (CH.out _).mono ?_
      rintro e w5 ⟨rfl, b5⟩
      go_wp2_with fail
      go_ret
      exact ⟨rfl, below_seq (below_seq (below_seq (below_seq b1 b2) b3) b4) b5⟩
end Go.Proofs.Ythdihhfbkfenmaa
