/- Contract of head (package stickfullaw06): the calls whose answers are known. No condition. -/
import Derived.Test.YthdihhfbkfenmaaY4
import Derived.Test.YthdihhfbkfenmaaY9
import Derived.Test.YthdihhfbkfenmaaYApp
namespace Go.Proofs.Ythdihhfbkfenmaa
open Go.ChangeShapes Go.WideShapes Go.ChangeAt Go.RowKit

def hdA : Sty := ⟨2, 0, 0, 0, 8, 0, 1024, 0, 0⟩
def hdB : Dcl := ⟨5, ⟨4, 0, 1, 0, 0, 0, 0, 0, 0⟩⟩
def hdD (z : Int) : Dcl := ⟨64, ⟨0, 0, 0, 0, 0, 0, z, 0, 0⟩⟩
def hdS (z : Int) : Sty := ⟨0, 0, 0, 0, 8, 0, z, 0, 0⟩
theorem hd_r : resV .first ⟨1, ⟨2, 0, 0, 0, 0, 0, 0, 0, 0⟩⟩ = hdA ∧ resE .first ⟨1, ⟨2, 0, 0, 0, 0, 0, 0, 0, 0⟩⟩ = 0 := by decide +kernel
theorem hd_m : mrgV ⟨5, ⟨1, 0, 1, 0, 0, 0, 0, 0, 0⟩⟩ ⟨1, ⟨4, 0, 0, 0, 0, 0, 0, 0, 0⟩⟩ = hdB ∧ mrgE ⟨5, ⟨1, 0, 1, 0, 0, 0, 0, 0, 0⟩⟩ ⟨1, ⟨4, 0, 0, 0, 0, 0, 0, 0, 0⟩⟩ = 0 := by decide +kernel
theorem hd_c : chkD ⟨256, .zero⟩ = 60 ∧ chk ⟨0, 0, 0, 0, 65, 0, 0, 0, 0⟩ = 60 := by decide +kernel
theorem hd_s : StyRes .first [-1, 0, 0] [hdD 640, .zero, hdD 64] 0 [hdS 640, hdS 640, hdS 64] := by
  refine .inr (.inr ⟨⟨rfl, ?_⟩, ⟨by decide +kernel, ?_⟩, rfl, by decide +kernel⟩)
  · unfold okP; decide
  · unfold okD; decide +kernel
theorem hd_t : StyRes .first [0] [.zero] 2 [] := .inl ⟨fun h => by
  have := h.2 0 (by decide)
  simp at this, rfl, rfl⟩
theorem blk_new2 (w : World) (A : Obj) (t : TypeId) (cs : Array Value) : Blk ((w.alloc A).alloc (.cells cs t)) (w.heap.size + 1) t cs := heap_alloc2_new w A (.cells cs t)
theorem Blk.row {w : World} {g n c : Nat} {t : TypeId} {cs : Array Value} {xs : List Value} (h : Blk w g t cs) (hx : cs.toList = xs) (hn : xs.length = n) : Row (fun _ => False) w (.slice (some ⟨g, 0, none⟩) n c) xs := by
  subst hn
  refine .inr ⟨_, c, rfl, .inr ⟨h.lt, id⟩, fun j u hu => h.lies j u ?_⟩
  rw [← hx] at hu
  simpa using hu
theorem Blk.ds {w : World} {g n c : Nat} {t : TypeId} {cs : Array Value} {ds : List Dcl} (h : Blk w g t cs) (hx : cs.toList = (ds.map fun d => d.cells.toList).flatten) (hn : ds.length = n) : Ds w (.slice (some ⟨g, 0, none⟩) n c) ds := by
  subst hn
  refine .inr ⟨_, c, by rw [List.length_map], .inr ⟨h.lt, id⟩, fun i x hi j u hu => h.lies _ u ?_⟩
  have := flat_get 10 _ (fun x hx => by obtain ⟨d, _, rfl⟩ := List.mem_map.1 hx; rfl) i x hi j u hu
  rw [← hx] at this
  simpa using this

set_option maxRecDepth 100000 in
set_option maxHeartbeats 8000000 in
theorem head_any (w : World) :
    Calls Try.prog 18 #[] w fun e w' => e = .returned (.bool true) ∧ Below w.heap.size w w' := by
  have CF := Lib.hid yfirst_any
  have CR : Hid (∀ w : World, Calls Try.prog 8 #[.agg Sty.first.cells, .agg (Dcl.mk 1 ⟨2, 0, 0, 0, 0, 0, 0, 0, 0⟩).cells] w fun e w' => e = .returned (.tuple #[.agg hdA.cells, .int .i64 0]) ∧ Below w.heap.size w w') := fun w => by
    have h := yresolve_any .first ⟨1, ⟨2, 0, 0, 0, 0, 0, 0, 0, 0⟩⟩ w (by decide)
    rw [hd_r.1, hd_r.2] at h
    exact h
  have CM : Hid (∀ w : World, Calls Try.prog 10 #[.agg (Dcl.mk 5 ⟨1, 0, 1, 0, 0, 0, 0, 0, 0⟩).cells, .agg (Dcl.mk 1 ⟨4, 0, 0, 0, 0, 0, 0, 0, 0⟩).cells] w fun e w' => e = .returned (.tuple #[.agg hdB.cells, .int .i64 0]) ∧ Below w.heap.size w w') := fun w => by
    have h := ymerge_any ⟨5, ⟨1, 0, 1, 0, 0, 0, 0, 0, 0⟩⟩ ⟨1, ⟨4, 0, 0, 0, 0, 0, 0, 0, 0⟩⟩ w (by decide) (by decide)
    rw [hd_m.1, hd_m.2] at h
    exact h
  have CD : Hid (∀ w : World, Calls Try.prog 14 #[.agg (Dcl.mk 256 .zero).cells] w fun e w' => e = .returned (.int .i64 60) ∧ Below w.heap.size w w') := fun w => by
    have h := ychkd_any ⟨256, .zero⟩ w (by decide)
    rw [hd_c.1] at h
    exact h
  have CC : Hid (∀ w : World, Calls Try.prog 12 #[.agg (Sty.mk 0 0 0 0 65 0 0 0 0).cells] w fun e w' => e = .returned (.int .i64 60) ∧ Below w.heap.size w w') := fun w => by
    have h := ycheck_any ⟨0, 0, 0, 0, 65, 0, 0, 0, 0⟩ w
    rw [hd_c.2] at h
    exact h
  go_enter Try.func18, Try.ntmps18
  go_wp2_with fail
  refine (CF.out _).mono ?_
  rintro e w1 ⟨rfl, b1⟩
  go_wp2_with fail
  refine (CR.out _).mono ?_
  rintro e w2 ⟨rfl, b2⟩
  go_wp2_with (refine nwS rfl rfl 1 rfl rfl (.tmp 14) rfl rfl hdA (fun _ => rfl) (fun _ => rfl) ?_; intro w3 b3 B3)
  refine (CM.out _).mono ?_
  rintro e w4 ⟨rfl, b4⟩
  go_wp2_with (refine nwD rfl rfl 3 rfl rfl (.tmp 22) rfl rfl hdB (fun _ => rfl) (fun _ => rfl) ?_; intro w5 b5 B5)
  refine (CF.out _).mono ?_
  rintro e w6 ⟨rfl, b6⟩
  have b06 := below_seq (below_seq (below_seq (below_seq (below_seq b1 b2) b3) b4) b5) b6
  have A1 := ((B3.keep (S := fun _ => False) (Mod.of_below b4) id).keep (S := fun _ => False) (Mod.of_below b5) id).keep (S := fun _ => False) (Mod.of_below b6) id
  have A3 := B5.keep (S := fun _ => False) (Mod.of_below b6) id
  clear b1 b2 b3 B3 b4 b5 B5 b6
  go_wp2_with fail
  refine (ystyles_any .first _ _ [-1, 0, 0] [hdD 640, .zero, hdD 64] _ (Blk.row ((Blk.new w6 3 #[.int .i64 (-1), .int .i64 0, .int .i64 0]).alloc _) rfl rfl) (Blk.ds (blk_new2 w6 _ 26 _) rfl rfl) (by unfold Wf16; decide) (by decide) (by decide)).mono ?_
  rintro e w7 ⟨v, z, l, rfl, hres, hss, b7⟩
  obtain ⟨rfl, rfl⟩ := hres.uniq hd_s
  clear hres
  have b67 : Below w6.heap.size w6 w7 := (((Below.refl _ _).alloc (Nat.le_refl _) _).alloc (by simp) _).trans (b7.mono (by simp; omega))
  have A1' := A1.keep (S := fun _ => False) (Mod.of_below b67) id
  have A3' := A3.keep (S := fun _ => False) (Mod.of_below b67) id
  have b07 := below_seq b06 b67
  clear b06 b67 A1 A3 b7
  have HSS := Lib.hid hss
  clear hss
  go_wp2_with fail
  refine (CF.out _).mono ?_
  rintro e w8 ⟨rfl, b8⟩
  go_wp2_with fail
  refine (ystyles_any .first _ _ [0] [.zero] _ (Blk.row ((Blk.new w8 3 #[.int .i64 0]).alloc _) rfl rfl) (Blk.ds (blk_new2 w8 _ 26 _) rfl rfl) (by unfold Wf16; decide) (by decide) (by decide)).mono ?_
  rintro e w9 ⟨v2, z2, l2, rfl, hres, _, b9⟩
  obtain ⟨rfl, rfl⟩ := hres.uniq hd_t
  clear hres
  have b89 : Below w8.heap.size w8 w9 := (((Below.refl _ _).alloc (Nat.le_refl _) _).alloc (by simp) _).trans (b9.mono (by simp; omega))
  have b79 := below_seq b8 b89
  have A1 := A1'.keep (S := fun _ => False) (Mod.of_below b79) id
  have A3 := A3'.keep (S := fun _ => False) (Mod.of_below b79) id
  have b09 := below_seq b07 b79
  have hss := HSS.out.below b79
  clear b07 b79 A1' A3' b8 b9 b89 HSS
  obtain ⟨a0, cap, o0, rfl, _, ha0, hL0⟩ := hss.get (Below.refl _ _) (i := 0) rfl
  obtain ⟨a1, cap1, o1, hv, _, ha1, hL1⟩ := hss.get (Below.refl _ _) (i := 1) rfl
  obtain ⟨rfl, rfl⟩ : a0 = a1 ∧ cap = cap1 := by injection hv with h1 h2 h3; injection h1 with h1; exact ⟨h1, h3⟩
  obtain ⟨a2, cap2, o2, hv2, _, ha2, hL2⟩ := hss.get (Below.refl _ _) (i := 2) rfl
  obtain ⟨rfl, rfl⟩ : a0 = a2 ∧ cap = cap2 := by injection hv2 with h1 h2 h3; injection h1 with h1; exact ⟨h1, h3⟩
  obtain ⟨g, q, sp⟩ := a0
  have e0 : (⟨g, q, sp⟩ : Addr).add (0 * 9) = ⟨g, q, sp⟩ := rfl
  rw [e0] at ha0
  injection ha0 with _ hq0 hsp
  subst hq0 hsp
  have e1 : (⟨g, q, none⟩ : Addr).add (1 * 9) = ⟨g, q + 9, none⟩ := rfl
  have e2 : (⟨g, q, none⟩ : Addr).add (2 * 9) = ⟨g, q + 18, none⟩ := rfl
  rw [e1] at ha1
  rw [e2] at ha2
  injection ha1 with _ hq1 _
  injection ha2 with _ hq2 _
  subst hq1 hq2
  have c0 : w9.cell? ⟨g, q + 6, none⟩ = some (.int .i64 640) := hL0 6 _ rfl
  have c1 : w9.cell? ⟨g, q + 9 + 6, none⟩ = some (.int .i64 640) := hL1 6 _ rfl
  have c2 : w9.cell? ⟨g, q + 18 + 6, none⟩ = some (.int .i64 64) := hL2 6 _ rfl
  clear hv hv2 hss e0 e1 e2 hL0 hL1 hL2
  have ea : hdA.cells = #[.int .u8 2, .int .u8 0, .int .u8 0, .int .u8 0, .int .i64 8, .int .i64 0, .int .i64 1024, .int .u8 0, .int .i64 0] := rfl
  have eb : hdB.cells = #[.int .u16 5, .int .u8 4, .int .u8 0, .int .u8 1, .int .u8 0, .int .i64 0, .int .i64 0, .int .i64 0, .int .u8 0, .int .i64 0] := rfl
  go_wp2_with (first
    | (refine ldS rfl (.tmp 1) rfl _ rfl hdA A1.lies ?_)
    | (refine ldDIf (by kernel_rfl) (.tmp 3) rfl _ rfl hdB A3.lies ?_))
  refine (CD.out _).mono ?_
  rintro e w10 ⟨rfl, b10⟩
  go_wp2_with fail
  refine (CC.out _).mono ?_
  rintro e w11 ⟨rfl, b11⟩
  go_wp2_with fail
  go_ret
  exact ⟨rfl, below_seq (below_seq b09 b10) b11⟩
end Go.Proofs.Ythdihhfbkfenmaa
