/- Contract of the document's Merge for layer 6. Condition: the declarations' bits are 16-bit numbers. -/
import Derived.Test.YthdihhfbkfenmaaY11
import Derived.Test.YthdihhfbkfenmaaYRows
namespace Go.Proofs.Ythdihhfbkfenmaa
open Go.ChangeShapes Go.WideShapes Go.ChangeAt Go.RowKit

theorem stDS {ops : Array Oper} {Q : Exit → Act → World → Prop} {a : Act} {w : World} {rest : List Oper} {o : Oper} (hg : o.guard = none) (x y : Operand) (ho : o.op = .store 23 x y) (hd : o.dst = none) (g : Nat) (hx : a.eval x = .pointer (some ⟨g, 1, none⟩)) (s : Sty) (hy : a.eval y = .agg s.cells) {t : TypeId} (d : Dcl) (hB : Blk w g t d.cells)
    (h : ∀ w', Mod (fun k => k = g) w w' → Blk w' g t (Dcl.mk d.n s).cells → wpList Try.prog ops Q rest a w') : wpList Try.prog ops Q (o :: rest) a w :=
  wpList_storeO hg 23 x y ho hd g 1 hx s.cells hy t d.cells hB iS (Nat.le_refl 10) (one23 s) fun w' m B => h w' m B

/-- the parts below k of two declarations merged -/
def mks (k : Nat) (a b : Dcl) : Sty := ovk k (ovk k .zero a.n a.s) b.n b.s
def mkd (k : Nat) (a b : Dcl) : Dcl := ⟨(a.n ||| b.n) % 2 ^ k, mks k a b⟩
theorem mks_b (a b : Dcl) (k : Nat) (hk : k < 8) (h : b.n.testBit k = true) : mks (k + 1) a b = put1 k (mks k a b) b.s := by
  revert h
  refine eight (p := fun k => b.n.testBit k = true → mks (k + 1) a b = put1 k (mks k a b) b.s) ?_ ?_ ?_ ?_ ?_ ?_ ?_ ?_ k hk <;> (intro h; simp [mks, ovk, put1, h])
theorem mks_a (a b : Dcl) (k : Nat) (hk : k < 8) (h : b.n.testBit k = false) (h2 : a.n.testBit k = true) : mks (k + 1) a b = put1 k (mks k a b) a.s := by
  revert h h2
  refine eight (p := fun k => b.n.testBit k = false → a.n.testBit k = true → mks (k + 1) a b = put1 k (mks k a b) a.s) ?_ ?_ ?_ ?_ ?_ ?_ ?_ ?_ k hk <;> (intro h h2; simp [mks, ovk, put1, h, h2])
theorem mks_0 (a b : Dcl) (k : Nat) (hk : k < 8) (h : b.n.testBit k = false) (h2 : a.n.testBit k = false) : mks (k + 1) a b = mks k a b := by
  revert h h2
  refine eight (p := fun k => b.n.testBit k = false → a.n.testBit k = false → mks (k + 1) a b = mks k a b) ?_ ?_ ?_ ?_ ?_ ?_ ?_ ?_ k hk <;> (intro h h2; simp [mks, ovk, h, h2])
theorem mkd_zero (a b : Dcl) : mkd 0 a b = .zero := by
  unfold mkd mks Dcl.zero
  rw [ovk_zero, ovk_zero, Nat.pow_zero, Nat.mod_one]
theorem or_yes (n x k p q : Nat) (hx : x < 65536) (h : x.testBit k = true) (hn : n = x % 2 ^ k) (hp : 2 ^ k = p) (hq : p < 65536) (hm : x % 2 ^ (k + 1) = q) : bits .or .u16 (n : Int) (p : Int) = (q : Int) := by
  have h1 : n < 65536 := by rw [hn]; exact Nat.lt_of_le_of_lt (Nat.mod_le _ _) hx
  rw [u16_or_nat n p h1 hq, hn, ← hp, mod_step_yes x k h, hm]
theorem mkd_eight (a b : Dcl) (ha : vldD a = true) (hb : vldD b = true) : mkd 8 a b = mrg a b := by
  unfold vldD at ha hb
  simp only [Bool.and_eq_true, decide_eq_true_eq] at ha hb
  have h1 := or_lt a.n b.n ha.1 hb.1
  have h2 := ha.2.1
  unfold over at h2
  unfold mkd mks mrg over
  rw [h2, Nat.mod_eq_of_lt (show (a.n ||| b.n) < 2 ^ 8 by omega)]

set_option maxRecDepth 100000 in
set_option maxHeartbeats 16000000 in
theorem rmerge_any (a b : Dcl) (w : World) (ha : a.n < 65536) (hb : b.n < 65536) :
    Calls Try.prog 11 #[.agg a.cells, .agg b.cells] w fun e w' => e = .returned (.tuple #[.agg (mrgV a b).cells, .int .i64 (mrgE a b)]) ∧ Below w.heap.size w w' := by
  have C1 := Lib.hid (fun w => rchkd_any a w ha)
  have C2 := Lib.hid (fun w => rchkd_any b w hb)
  have ho16 := or_lt16 a.n b.n ha hb
  rcases chkD_cases a with ⟨hv, hc⟩ | ⟨hv, hc⟩
  · rcases chkD_cases b with ⟨hv2, hc2⟩ | ⟨hv2, hc2⟩
    · have e1 : mrgV a b = mkd 8 a b := by unfold mrgV; rw [hv, hv2, mkd_eight a b hv hv2]; rfl
      have e2 : mrgE a b = 0 := by unfold mrgE; rw [hv, hv2]; rfl
      rw [e1, e2]
      rw [hc] at C1
      rw [hc2] at C2
      clear hv hv2 hc hc2 e1 e2
      go_enter Try.func11, Try.ntmps11
      go_wp2_with (first
        | (refine bxDV rfl (.tmp 0) rfl a rfl ?_; intro w1 b1 B1)
        | (refine bxDV rfl (.tmp 1) rfl b rfl ?_; intro w2 b2 B2)
        | (refine alDV (o := ⟨some 4, _, _, _, _, _⟩) rfl rfl ?_; intro w3 b3 B3)
        | (refine ldD rfl (.tmp 2) rfl _ rfl a (Blk.lies ((B1.keep (S := fun _ => False) (Mod.of_below b2) id).keep (S := fun _ => False) (Mod.of_below b3) id)) ?_))
      refine (C1.out _).mono ?_
      rintro e w4 ⟨rfl, b4⟩
      have hg3 : w.heap.size ≤ w2.heap.size := Nat.le_trans b1.size b2.size
      have hg1 : w.heap.size < w1.heap.size := B1.lt
      have hg2 : w1.heap.size < w2.heap.size := B2.lt
      have K1 : Blk w4 w.heap.size 26 a.cells := ((B1.keep (S := fun _ => False) (Mod.of_below b2) id).keep (S := fun _ => False) (Mod.of_below b3) id).keep (S := fun _ => False) (Mod.of_below b4) id
      have K2 : Blk w4 w1.heap.size 26 b.cells := (B2.keep (S := fun _ => False) (Mod.of_below b3) id).keep (S := fun _ => False) (Mod.of_below b4) id
      have K3 : Blk w4 w2.heap.size 26 Dcl.zero.cells := B3.keep (S := fun _ => False) (Mod.of_below b4) id
      have b03 := below_seq (below_seq b1 b2) b3
      clear b1 B1 b2 B2 b3 B3
      go_wp2_with (refine ldDIf (by kernel_rfl) (.tmp 3) rfl _ rfl b K2.lies ?_)
      refine (C2.out _).mono ?_
      rintro e w5 ⟨rfl, b5⟩
      have L1 := K1.keep (S := fun _ => False) (Mod.of_below b5) id
      have L2 := K2.keep (S := fun _ => False) (Mod.of_below b5) id
      have L3 := K3.keep (S := fun _ => False) (Mod.of_below b5) id
      have b05 := below_seq (below_seq b03 b4) b5
      clear K1 K2 K3 b03 b4 b5
      go_wp2_with (refine alDV rfl rfl ?_; intro w6 b6 B6)
      have hl3 := L3.lt
      have A1 := L1.keep (S := fun _ => False) (Mod.of_below b6) id
      have A2 := L2.keep (S := fun _ => False) (Mod.of_below b6) id
      have A3 := L3.keep (S := fun _ => False) (Mod.of_below b6) id
      have A4 : Blk w6 w5.heap.size 26 (mkd 0 a b).cells := mkd_zero a b ▸ B6
      have b06 := below_seq b05 b6
      clear L1 L2 L3 b05 b6 B6
      obtain ⟨g1, hq1⟩ : ∃ g, w1.heap.size = g := ⟨_, rfl⟩
      obtain ⟨g2, hq2⟩ : ∃ g, w2.heap.size = g := ⟨_, rfl⟩
      obtain ⟨g3, hq3⟩ : ∃ g, w5.heap.size = g := ⟨_, rfl⟩
      rw [hq1] at A2 hg1 hg2 ⊢
      rw [hq2] at A3 hl3 hg2 hg3 ⊢
      rw [hq3] at A4 hl3 ⊢
      clear hq1 hq2 hq3 C1 C2
      go_loopg [7] 8 (fun kx s7 wr => ∃ (k : Nat) (z : Int), z = k ∧ s7 = .int .i64 z ∧ k ≤ 8 ∧ kx = 8 - k ∧ Below w.heap.size w wr ∧ Blk wr w.heap.size 26 a.cells ∧ Blk wr g1 26 b.cells ∧ Blk wr g2 26 Dcl.zero.cells ∧ Blk wr g3 26 (mkd k a b).cells)
      case atStart => exact ⟨0, 0, rfl, rfl, by omega, rfl, b06, A1, A2, A3, A4⟩
      case round =>
        obtain ⟨k, z, hz, rfl, hk, rfl, bel, h1, h2, h3, h4⟩ := hrel
        clear A1 A2 A3 A4 b06
        by_cases hlt3 : k < 8
        · clear hk
          rcases (show k = 0 ∨ k = 1 ∨ k = 2 ∨ k = 3 ∨ k = 4 ∨ k = 5 ∨ k = 6 ∨ k = 7 from by omega) with rfl | rfl | rfl | rfl | rfl | rfl | rfl | rfl
          · obtain rfl : z = 0 := by omega
            clear hz hlt3
            have CB := Lib.hid (fun w => rsays0 b w hb)
            by_cases hb1 : b.n.testBit 0 = true
            · have HY : Hid (mkd 1 a b = ⟨(mkd 1 a b).n, put1 0 (mks 0 a b) b.s⟩) := by show _ = _; rw [← mks_b a b 0 (by omega) hb1]; rfl
              have HOR : Hid (bits .or .u16 ((mkd 0 a b).n : Int) 1 = ((mkd 1 a b).n : Int)) := or_yes _ (a.n ||| b.n) 0 1 _ ho16 (by rw [Nat.testBit_or, hb1, Bool.or_true]) rfl rfl (by omega) rfl
              rw [hb1] at CB
              clear hb1
              go_wp2_with (refine ldD rfl (.tmp 3) rfl _ rfl b h2.lies ?_)
              refine (CB.out _).mono ?_
              rintro e w6 ⟨rfl, b6⟩
              have L1 := h1.keep (S := fun _ => False) (Mod.of_below b6) id
              have L2 := h2.keep (S := fun _ => False) (Mod.of_below b6) id
              have L3 := h3.keep (S := fun _ => False) (Mod.of_below b6) id
              have L4 := h4.keep (S := fun _ => False) (Mod.of_below b6) id
              go_wp2_with (first
                | (refine ldS rfl (.tmp 24) rfl _ rfl (mks 0 a b) L4.sub ?_)
                | (refine ldS rfl (.tmp 26) rfl _ rfl b.s L2.sub ?_))
              refine (rone0 (mks 0 a b) b.s _).mono ?_
              rintro e w7 ⟨rfl, b7⟩
              have M4 := L4.keep (S := fun _ => False) (Mod.of_below b7) id
              go_wp2_with (refine stDS rfl (.tmp 30) (.tmp 29) rfl rfl g3 rfl (put1 0 (mks 0 a b) b.s) rfl (mkd 0 a b) M4 ?_; intro w8 m8 B8; have cq : w8.cell? ⟨g3, 0, none⟩ = some (.int .u16 (mkd 0 a b).n) := B8.cell 0; have fq : w8.frozen? ⟨g3, 0, none⟩ = false := B8.frozen 0; have hor := HOR.out)
              go_roundg (8 - 1)
              case measure => omega
              case rel =>
                have m9 := m8.setCell (p := ⟨g3, 0, none⟩) (.inl rfl) (.int .u16 ((mkd 1 a b).n : Int))
                exact ⟨1, 1, rfl, rfl, by omega, rfl, bel.trans (((below_seq b6 b7).mono bel.size).trans (m9.below (Nat.le_trans bel.size (below_seq b6 b7).size) (fun k hk => by omega))), (L1.keep (S := fun _ => False) (Mod.of_below b7) id).keep m9 (by omega), (L2.keep (S := fun _ => False) (Mod.of_below b7) id).keep m9 (by omega), (L3.keep (S := fun _ => False) (Mod.of_below b7) id).keep m9 (by omega), blk_cast (B8.set_ 0 (.int .u16 ((mkd 1 a b).n : Int))) (by rw [HY.out]; rfl)⟩
            · have hb2 := Bool.eq_false_iff.2 hb1
              have CA := Lib.hid (fun w => rsays0 a w ha)
              rw [hb2] at CB
              by_cases ha1 : a.n.testBit 0 = true
              · have HY : Hid (mkd 1 a b = ⟨(mkd 1 a b).n, put1 0 (mks 0 a b) a.s⟩) := by show _ = _; rw [← mks_a a b 0 (by omega) hb2 ha1]; rfl
                have HOR : Hid (bits .or .u16 ((mkd 0 a b).n : Int) 1 = ((mkd 1 a b).n : Int)) := or_yes _ (a.n ||| b.n) 0 1 _ ho16 (by rw [Nat.testBit_or, ha1, Bool.true_or]) rfl rfl (by omega) rfl
                rw [ha1] at CA
                clear hb1 hb2 ha1
                go_wp2_with (refine ldD rfl (.tmp 3) rfl _ rfl b h2.lies ?_)
                refine (CB.out _).mono ?_
                rintro e w5 ⟨rfl, b5⟩
                have M1 := h1.keep (S := fun _ => False) (Mod.of_below b5) id
                have M2 := h2.keep (S := fun _ => False) (Mod.of_below b5) id
                have M3 := h3.keep (S := fun _ => False) (Mod.of_below b5) id
                have M4 := h4.keep (S := fun _ => False) (Mod.of_below b5) id
                go_wp2_with (refine ldD rfl (.tmp 2) rfl _ rfl a M1.lies ?_)
                refine (CA.out _).mono ?_
                rintro e w6 ⟨rfl, b6⟩
                have L1 := M1.keep (S := fun _ => False) (Mod.of_below b6) id
                have L2 := M2.keep (S := fun _ => False) (Mod.of_below b6) id
                have L3 := M3.keep (S := fun _ => False) (Mod.of_below b6) id
                have L4 := M4.keep (S := fun _ => False) (Mod.of_below b6) id
                go_wp2_with (first
                  | (refine ldS rfl (.tmp 41) rfl _ rfl (mks 0 a b) L4.sub ?_)
                  | (refine ldS rfl (.tmp 43) rfl _ rfl a.s L1.sub ?_))
                refine (rone0 (mks 0 a b) a.s _).mono ?_
                rintro e w7 ⟨rfl, b7⟩
                have M4 := L4.keep (S := fun _ => False) (Mod.of_below b7) id
                go_wp2_with (refine stDS rfl (.tmp 47) (.tmp 46) rfl rfl g3 rfl (put1 0 (mks 0 a b) a.s) rfl (mkd 0 a b) M4 ?_; intro w8 m8 B8; have cq : w8.cell? ⟨g3, 0, none⟩ = some (.int .u16 (mkd 0 a b).n) := B8.cell 0; have fq : w8.frozen? ⟨g3, 0, none⟩ = false := B8.frozen 0; have hor := HOR.out)
                go_roundg (8 - 1)
                case measure => omega
                case rel =>
                  have m9 := m8.setCell (p := ⟨g3, 0, none⟩) (.inl rfl) (.int .u16 ((mkd 1 a b).n : Int))
                  exact ⟨1, 1, rfl, rfl, by omega, rfl, bel.trans (((below_seq (below_seq b5 b6) b7).mono bel.size).trans (m9.below (Nat.le_trans bel.size (below_seq (below_seq b5 b6) b7).size) (fun k hk => by omega))), (L1.keep (S := fun _ => False) (Mod.of_below b7) id).keep m9 (by omega), (L2.keep (S := fun _ => False) (Mod.of_below b7) id).keep m9 (by omega), (L3.keep (S := fun _ => False) (Mod.of_below b7) id).keep m9 (by omega), blk_cast (B8.set_ 0 (.int .u16 ((mkd 1 a b).n : Int))) (by rw [HY.out]; rfl)⟩
              · have ha2 := Bool.eq_false_iff.2 ha1
                have HY : Hid (mkd 1 a b = mkd 0 a b) := by
                  show _ = _
                  unfold mkd
                  rw [mks_0 a b 0 (by omega) hb2 ha2, ← mod_step_no (a.n ||| b.n) 0 (by rw [Nat.testBit_or, ha2, hb2]; rfl)]
                rw [ha2] at CA
                clear hb1 hb2 ha1 ha2
                go_wp2_with (refine ldD rfl (.tmp 3) rfl _ rfl b h2.lies ?_)
                refine (CB.out _).mono ?_
                rintro e w5 ⟨rfl, b5⟩
                have M1 := h1.keep (S := fun _ => False) (Mod.of_below b5) id
                have M2 := h2.keep (S := fun _ => False) (Mod.of_below b5) id
                have M3 := h3.keep (S := fun _ => False) (Mod.of_below b5) id
                have M4 := h4.keep (S := fun _ => False) (Mod.of_below b5) id
                go_wp2_with (refine ldD rfl (.tmp 2) rfl _ rfl a M1.lies ?_)
                refine (CA.out _).mono ?_
                rintro e w6 ⟨rfl, b6⟩
                have L1 := M1.keep (S := fun _ => False) (Mod.of_below b6) id
                have L2 := M2.keep (S := fun _ => False) (Mod.of_below b6) id
                have L3 := M3.keep (S := fun _ => False) (Mod.of_below b6) id
                have L4 := M4.keep (S := fun _ => False) (Mod.of_below b6) id
                go_wp2_with fail
                go_roundg (8 - 1)
                case measure => omega
                case rel => exact ⟨1, 1, rfl, rfl, by omega, rfl, bel.trans ((below_seq b5 b6).mono bel.size), L1, L2, L3, by rw [HY.out]; exact L4⟩
          · obtain rfl : z = 1 := by omega
            clear hz hlt3
            have CB := Lib.hid (fun w => rsays1 b w hb)
            by_cases hb1 : b.n.testBit 1 = true
            · have HY : Hid (mkd 2 a b = ⟨(mkd 2 a b).n, put1 1 (mks 1 a b) b.s⟩) := by show _ = _; rw [← mks_b a b 1 (by omega) hb1]; rfl
              have HOR : Hid (bits .or .u16 ((mkd 1 a b).n : Int) 2 = ((mkd 2 a b).n : Int)) := or_yes _ (a.n ||| b.n) 1 2 _ ho16 (by rw [Nat.testBit_or, hb1, Bool.or_true]) rfl rfl (by omega) rfl
              rw [hb1] at CB
              clear hb1
              go_wp2_with (refine ldD rfl (.tmp 3) rfl _ rfl b h2.lies ?_)
              refine (CB.out _).mono ?_
              rintro e w6 ⟨rfl, b6⟩
              have L1 := h1.keep (S := fun _ => False) (Mod.of_below b6) id
              have L2 := h2.keep (S := fun _ => False) (Mod.of_below b6) id
              have L3 := h3.keep (S := fun _ => False) (Mod.of_below b6) id
              have L4 := h4.keep (S := fun _ => False) (Mod.of_below b6) id
              go_wp2_with (first
                | (refine ldS rfl (.tmp 24) rfl _ rfl (mks 1 a b) L4.sub ?_)
                | (refine ldS rfl (.tmp 26) rfl _ rfl b.s L2.sub ?_))
              refine (rone1 (mks 1 a b) b.s _).mono ?_
              rintro e w7 ⟨rfl, b7⟩
              have M4 := L4.keep (S := fun _ => False) (Mod.of_below b7) id
              go_wp2_with (refine stDS rfl (.tmp 30) (.tmp 29) rfl rfl g3 rfl (put1 1 (mks 1 a b) b.s) rfl (mkd 1 a b) M4 ?_; intro w8 m8 B8; have cq : w8.cell? ⟨g3, 0, none⟩ = some (.int .u16 (mkd 1 a b).n) := B8.cell 0; have fq : w8.frozen? ⟨g3, 0, none⟩ = false := B8.frozen 0; have hor := HOR.out)
              go_roundg (8 - 2)
              case measure => omega
              case rel =>
                have m9 := m8.setCell (p := ⟨g3, 0, none⟩) (.inl rfl) (.int .u16 ((mkd 2 a b).n : Int))
                exact ⟨2, 2, rfl, rfl, by omega, rfl, bel.trans (((below_seq b6 b7).mono bel.size).trans (m9.below (Nat.le_trans bel.size (below_seq b6 b7).size) (fun k hk => by omega))), (L1.keep (S := fun _ => False) (Mod.of_below b7) id).keep m9 (by omega), (L2.keep (S := fun _ => False) (Mod.of_below b7) id).keep m9 (by omega), (L3.keep (S := fun _ => False) (Mod.of_below b7) id).keep m9 (by omega), blk_cast (B8.set_ 0 (.int .u16 ((mkd 2 a b).n : Int))) (by rw [HY.out]; rfl)⟩
            · have hb2 := Bool.eq_false_iff.2 hb1
              have CA := Lib.hid (fun w => rsays1 a w ha)
              rw [hb2] at CB
              by_cases ha1 : a.n.testBit 1 = true
              · have HY : Hid (mkd 2 a b = ⟨(mkd 2 a b).n, put1 1 (mks 1 a b) a.s⟩) := by show _ = _; rw [← mks_a a b 1 (by omega) hb2 ha1]; rfl
                have HOR : Hid (bits .or .u16 ((mkd 1 a b).n : Int) 2 = ((mkd 2 a b).n : Int)) := or_yes _ (a.n ||| b.n) 1 2 _ ho16 (by rw [Nat.testBit_or, ha1, Bool.true_or]) rfl rfl (by omega) rfl
                rw [ha1] at CA
                clear hb1 hb2 ha1
                go_wp2_with (refine ldD rfl (.tmp 3) rfl _ rfl b h2.lies ?_)
                refine (CB.out _).mono ?_
                rintro e w5 ⟨rfl, b5⟩
                have M1 := h1.keep (S := fun _ => False) (Mod.of_below b5) id
                have M2 := h2.keep (S := fun _ => False) (Mod.of_below b5) id
                have M3 := h3.keep (S := fun _ => False) (Mod.of_below b5) id
                have M4 := h4.keep (S := fun _ => False) (Mod.of_below b5) id
                go_wp2_with (refine ldD rfl (.tmp 2) rfl _ rfl a M1.lies ?_)
                refine (CA.out _).mono ?_
                rintro e w6 ⟨rfl, b6⟩
                have L1 := M1.keep (S := fun _ => False) (Mod.of_below b6) id
                have L2 := M2.keep (S := fun _ => False) (Mod.of_below b6) id
                have L3 := M3.keep (S := fun _ => False) (Mod.of_below b6) id
                have L4 := M4.keep (S := fun _ => False) (Mod.of_below b6) id
                go_wp2_with (first
                  | (refine ldS rfl (.tmp 41) rfl _ rfl (mks 1 a b) L4.sub ?_)
                  | (refine ldS rfl (.tmp 43) rfl _ rfl a.s L1.sub ?_))
                refine (rone1 (mks 1 a b) a.s _).mono ?_
                rintro e w7 ⟨rfl, b7⟩
                have M4 := L4.keep (S := fun _ => False) (Mod.of_below b7) id
                go_wp2_with (refine stDS rfl (.tmp 47) (.tmp 46) rfl rfl g3 rfl (put1 1 (mks 1 a b) a.s) rfl (mkd 1 a b) M4 ?_; intro w8 m8 B8; have cq : w8.cell? ⟨g3, 0, none⟩ = some (.int .u16 (mkd 1 a b).n) := B8.cell 0; have fq : w8.frozen? ⟨g3, 0, none⟩ = false := B8.frozen 0; have hor := HOR.out)
                go_roundg (8 - 2)
                case measure => omega
                case rel =>
                  have m9 := m8.setCell (p := ⟨g3, 0, none⟩) (.inl rfl) (.int .u16 ((mkd 2 a b).n : Int))
                  exact ⟨2, 2, rfl, rfl, by omega, rfl, bel.trans (((below_seq (below_seq b5 b6) b7).mono bel.size).trans (m9.below (Nat.le_trans bel.size (below_seq (below_seq b5 b6) b7).size) (fun k hk => by omega))), (L1.keep (S := fun _ => False) (Mod.of_below b7) id).keep m9 (by omega), (L2.keep (S := fun _ => False) (Mod.of_below b7) id).keep m9 (by omega), (L3.keep (S := fun _ => False) (Mod.of_below b7) id).keep m9 (by omega), blk_cast (B8.set_ 0 (.int .u16 ((mkd 2 a b).n : Int))) (by rw [HY.out]; rfl)⟩
              · have ha2 := Bool.eq_false_iff.2 ha1
                have HY : Hid (mkd 2 a b = mkd 1 a b) := by
                  show _ = _
                  unfold mkd
                  rw [mks_0 a b 1 (by omega) hb2 ha2, ← mod_step_no (a.n ||| b.n) 1 (by rw [Nat.testBit_or, ha2, hb2]; rfl)]
                rw [ha2] at CA
                clear hb1 hb2 ha1 ha2
                go_wp2_with (refine ldD rfl (.tmp 3) rfl _ rfl b h2.lies ?_)
                refine (CB.out _).mono ?_
                rintro e w5 ⟨rfl, b5⟩
                have M1 := h1.keep (S := fun _ => False) (Mod.of_below b5) id
                have M2 := h2.keep (S := fun _ => False) (Mod.of_below b5) id
                have M3 := h3.keep (S := fun _ => False) (Mod.of_below b5) id
                have M4 := h4.keep (S := fun _ => False) (Mod.of_below b5) id
                go_wp2_with (refine ldD rfl (.tmp 2) rfl _ rfl a M1.lies ?_)
                refine (CA.out _).mono ?_
                rintro e w6 ⟨rfl, b6⟩
                have L1 := M1.keep (S := fun _ => False) (Mod.of_below b6) id
                have L2 := M2.keep (S := fun _ => False) (Mod.of_below b6) id
                have L3 := M3.keep (S := fun _ => False) (Mod.of_below b6) id
                have L4 := M4.keep (S := fun _ => False) (Mod.of_below b6) id
                go_wp2_with fail
                go_roundg (8 - 2)
                case measure => omega
                case rel => exact ⟨2, 2, rfl, rfl, by omega, rfl, bel.trans ((below_seq b5 b6).mono bel.size), L1, L2, L3, by rw [HY.out]; exact L4⟩
          · obtain rfl : z = 2 := by omega
            clear hz hlt3
            have CB := Lib.hid (fun w => rsays2 b w hb)
            by_cases hb1 : b.n.testBit 2 = true
            · have HY : Hid (mkd 3 a b = ⟨(mkd 3 a b).n, put1 2 (mks 2 a b) b.s⟩) := by show _ = _; rw [← mks_b a b 2 (by omega) hb1]; rfl
              have HOR : Hid (bits .or .u16 ((mkd 2 a b).n : Int) 4 = ((mkd 3 a b).n : Int)) := or_yes _ (a.n ||| b.n) 2 4 _ ho16 (by rw [Nat.testBit_or, hb1, Bool.or_true]) rfl rfl (by omega) rfl
              rw [hb1] at CB
              clear hb1
              go_wp2_with (refine ldD rfl (.tmp 3) rfl _ rfl b h2.lies ?_)
              refine (CB.out _).mono ?_
              rintro e w6 ⟨rfl, b6⟩
              have L1 := h1.keep (S := fun _ => False) (Mod.of_below b6) id
              have L2 := h2.keep (S := fun _ => False) (Mod.of_below b6) id
              have L3 := h3.keep (S := fun _ => False) (Mod.of_below b6) id
              have L4 := h4.keep (S := fun _ => False) (Mod.of_below b6) id
              go_wp2_with (first
                | (refine ldS rfl (.tmp 24) rfl _ rfl (mks 2 a b) L4.sub ?_)
                | (refine ldS rfl (.tmp 26) rfl _ rfl b.s L2.sub ?_))
              refine (rone2 (mks 2 a b) b.s _).mono ?_
              rintro e w7 ⟨rfl, b7⟩
              have M4 := L4.keep (S := fun _ => False) (Mod.of_below b7) id
              go_wp2_with (refine stDS rfl (.tmp 30) (.tmp 29) rfl rfl g3 rfl (put1 2 (mks 2 a b) b.s) rfl (mkd 2 a b) M4 ?_; intro w8 m8 B8; have cq : w8.cell? ⟨g3, 0, none⟩ = some (.int .u16 (mkd 2 a b).n) := B8.cell 0; have fq : w8.frozen? ⟨g3, 0, none⟩ = false := B8.frozen 0; have hor := HOR.out)
              go_roundg (8 - 3)
              case measure => omega
              case rel =>
                have m9 := m8.setCell (p := ⟨g3, 0, none⟩) (.inl rfl) (.int .u16 ((mkd 3 a b).n : Int))
                exact ⟨3, 3, rfl, rfl, by omega, rfl, bel.trans (((below_seq b6 b7).mono bel.size).trans (m9.below (Nat.le_trans bel.size (below_seq b6 b7).size) (fun k hk => by omega))), (L1.keep (S := fun _ => False) (Mod.of_below b7) id).keep m9 (by omega), (L2.keep (S := fun _ => False) (Mod.of_below b7) id).keep m9 (by omega), (L3.keep (S := fun _ => False) (Mod.of_below b7) id).keep m9 (by omega), blk_cast (B8.set_ 0 (.int .u16 ((mkd 3 a b).n : Int))) (by rw [HY.out]; rfl)⟩
            · have hb2 := Bool.eq_false_iff.2 hb1
              have CA := Lib.hid (fun w => rsays2 a w ha)
              rw [hb2] at CB
              by_cases ha1 : a.n.testBit 2 = true
              · have HY : Hid (mkd 3 a b = ⟨(mkd 3 a b).n, put1 2 (mks 2 a b) a.s⟩) := by show _ = _; rw [← mks_a a b 2 (by omega) hb2 ha1]; rfl
                have HOR : Hid (bits .or .u16 ((mkd 2 a b).n : Int) 4 = ((mkd 3 a b).n : Int)) := or_yes _ (a.n ||| b.n) 2 4 _ ho16 (by rw [Nat.testBit_or, ha1, Bool.true_or]) rfl rfl (by omega) rfl
                rw [ha1] at CA
                clear hb1 hb2 ha1
                go_wp2_with (refine ldD rfl (.tmp 3) rfl _ rfl b h2.lies ?_)
                refine (CB.out _).mono ?_
                rintro e w5 ⟨rfl, b5⟩
                have M1 := h1.keep (S := fun _ => False) (Mod.of_below b5) id
                have M2 := h2.keep (S := fun _ => False) (Mod.of_below b5) id
                have M3 := h3.keep (S := fun _ => False) (Mod.of_below b5) id
                have M4 := h4.keep (S := fun _ => False) (Mod.of_below b5) id
                go_wp2_with (refine ldD rfl (.tmp 2) rfl _ rfl a M1.lies ?_)
                refine (CA.out _).mono ?_
                rintro e w6 ⟨rfl, b6⟩
                have L1 := M1.keep (S := fun _ => False) (Mod.of_below b6) id
                have L2 := M2.keep (S := fun _ => False) (Mod.of_below b6) id
                have L3 := M3.keep (S := fun _ => False) (Mod.of_below b6) id
                have L4 := M4.keep (S := fun _ => False) (Mod.of_below b6) id
                go_wp2_with (first
                  | (refine ldS rfl (.tmp 41) rfl _ rfl (mks 2 a b) L4.sub ?_)
                  | (refine ldS rfl (.tmp 43) rfl _ rfl a.s L1.sub ?_))
                refine (rone2 (mks 2 a b) a.s _).mono ?_
                rintro e w7 ⟨rfl, b7⟩
                have M4 := L4.keep (S := fun _ => False) (Mod.of_below b7) id
                go_wp2_with (refine stDS rfl (.tmp 47) (.tmp 46) rfl rfl g3 rfl (put1 2 (mks 2 a b) a.s) rfl (mkd 2 a b) M4 ?_; intro w8 m8 B8; have cq : w8.cell? ⟨g3, 0, none⟩ = some (.int .u16 (mkd 2 a b).n) := B8.cell 0; have fq : w8.frozen? ⟨g3, 0, none⟩ = false := B8.frozen 0; have hor := HOR.out)
                go_roundg (8 - 3)
                case measure => omega
                case rel =>
                  have m9 := m8.setCell (p := ⟨g3, 0, none⟩) (.inl rfl) (.int .u16 ((mkd 3 a b).n : Int))
                  exact ⟨3, 3, rfl, rfl, by omega, rfl, bel.trans (((below_seq (below_seq b5 b6) b7).mono bel.size).trans (m9.below (Nat.le_trans bel.size (below_seq (below_seq b5 b6) b7).size) (fun k hk => by omega))), (L1.keep (S := fun _ => False) (Mod.of_below b7) id).keep m9 (by omega), (L2.keep (S := fun _ => False) (Mod.of_below b7) id).keep m9 (by omega), (L3.keep (S := fun _ => False) (Mod.of_below b7) id).keep m9 (by omega), blk_cast (B8.set_ 0 (.int .u16 ((mkd 3 a b).n : Int))) (by rw [HY.out]; rfl)⟩
              · have ha2 := Bool.eq_false_iff.2 ha1
                have HY : Hid (mkd 3 a b = mkd 2 a b) := by
                  show _ = _
                  unfold mkd
                  rw [mks_0 a b 2 (by omega) hb2 ha2, ← mod_step_no (a.n ||| b.n) 2 (by rw [Nat.testBit_or, ha2, hb2]; rfl)]
                rw [ha2] at CA
                clear hb1 hb2 ha1 ha2
                go_wp2_with (refine ldD rfl (.tmp 3) rfl _ rfl b h2.lies ?_)
                refine (CB.out _).mono ?_
                rintro e w5 ⟨rfl, b5⟩
                have M1 := h1.keep (S := fun _ => False) (Mod.of_below b5) id
                have M2 := h2.keep (S := fun _ => False) (Mod.of_below b5) id
                have M3 := h3.keep (S := fun _ => False) (Mod.of_below b5) id
                have M4 := h4.keep (S := fun _ => False) (Mod.of_below b5) id
                go_wp2_with (refine ldD rfl (.tmp 2) rfl _ rfl a M1.lies ?_)
                refine (CA.out _).mono ?_
                rintro e w6 ⟨rfl, b6⟩
                have L1 := M1.keep (S := fun _ => False) (Mod.of_below b6) id
                have L2 := M2.keep (S := fun _ => False) (Mod.of_below b6) id
                have L3 := M3.keep (S := fun _ => False) (Mod.of_below b6) id
                have L4 := M4.keep (S := fun _ => False) (Mod.of_below b6) id
                go_wp2_with fail
                go_roundg (8 - 3)
                case measure => omega
                case rel => exact ⟨3, 3, rfl, rfl, by omega, rfl, bel.trans ((below_seq b5 b6).mono bel.size), L1, L2, L3, by rw [HY.out]; exact L4⟩
          · obtain rfl : z = 3 := by omega
            clear hz hlt3
            have CB := Lib.hid (fun w => rsays3 b w hb)
            by_cases hb1 : b.n.testBit 3 = true
            · have HY : Hid (mkd 4 a b = ⟨(mkd 4 a b).n, put1 3 (mks 3 a b) b.s⟩) := by show _ = _; rw [← mks_b a b 3 (by omega) hb1]; rfl
              have HOR : Hid (bits .or .u16 ((mkd 3 a b).n : Int) 8 = ((mkd 4 a b).n : Int)) := or_yes _ (a.n ||| b.n) 3 8 _ ho16 (by rw [Nat.testBit_or, hb1, Bool.or_true]) rfl rfl (by omega) rfl
              rw [hb1] at CB
              clear hb1
              go_wp2_with (refine ldD rfl (.tmp 3) rfl _ rfl b h2.lies ?_)
              refine (CB.out _).mono ?_
              rintro e w6 ⟨rfl, b6⟩
              have L1 := h1.keep (S := fun _ => False) (Mod.of_below b6) id
              have L2 := h2.keep (S := fun _ => False) (Mod.of_below b6) id
              have L3 := h3.keep (S := fun _ => False) (Mod.of_below b6) id
              have L4 := h4.keep (S := fun _ => False) (Mod.of_below b6) id
              go_wp2_with (first
                | (refine ldS rfl (.tmp 24) rfl _ rfl (mks 3 a b) L4.sub ?_)
                | (refine ldS rfl (.tmp 26) rfl _ rfl b.s L2.sub ?_))
              refine (rone3 (mks 3 a b) b.s _).mono ?_
              rintro e w7 ⟨rfl, b7⟩
              have M4 := L4.keep (S := fun _ => False) (Mod.of_below b7) id
              go_wp2_with (refine stDS rfl (.tmp 30) (.tmp 29) rfl rfl g3 rfl (put1 3 (mks 3 a b) b.s) rfl (mkd 3 a b) M4 ?_; intro w8 m8 B8; have cq : w8.cell? ⟨g3, 0, none⟩ = some (.int .u16 (mkd 3 a b).n) := B8.cell 0; have fq : w8.frozen? ⟨g3, 0, none⟩ = false := B8.frozen 0; have hor := HOR.out)
              go_roundg (8 - 4)
              case measure => omega
              case rel =>
                have m9 := m8.setCell (p := ⟨g3, 0, none⟩) (.inl rfl) (.int .u16 ((mkd 4 a b).n : Int))
                exact ⟨4, 4, rfl, rfl, by omega, rfl, bel.trans (((below_seq b6 b7).mono bel.size).trans (m9.below (Nat.le_trans bel.size (below_seq b6 b7).size) (fun k hk => by omega))), (L1.keep (S := fun _ => False) (Mod.of_below b7) id).keep m9 (by omega), (L2.keep (S := fun _ => False) (Mod.of_below b7) id).keep m9 (by omega), (L3.keep (S := fun _ => False) (Mod.of_below b7) id).keep m9 (by omega), blk_cast (B8.set_ 0 (.int .u16 ((mkd 4 a b).n : Int))) (by rw [HY.out]; rfl)⟩
            · have hb2 := Bool.eq_false_iff.2 hb1
              have CA := Lib.hid (fun w => rsays3 a w ha)
              rw [hb2] at CB
              by_cases ha1 : a.n.testBit 3 = true
              · have HY : Hid (mkd 4 a b = ⟨(mkd 4 a b).n, put1 3 (mks 3 a b) a.s⟩) := by show _ = _; rw [← mks_a a b 3 (by omega) hb2 ha1]; rfl
                have HOR : Hid (bits .or .u16 ((mkd 3 a b).n : Int) 8 = ((mkd 4 a b).n : Int)) := or_yes _ (a.n ||| b.n) 3 8 _ ho16 (by rw [Nat.testBit_or, ha1, Bool.true_or]) rfl rfl (by omega) rfl
                rw [ha1] at CA
                clear hb1 hb2 ha1
                go_wp2_with (refine ldD rfl (.tmp 3) rfl _ rfl b h2.lies ?_)
                refine (CB.out _).mono ?_
                rintro e w5 ⟨rfl, b5⟩
                have M1 := h1.keep (S := fun _ => False) (Mod.of_below b5) id
                have M2 := h2.keep (S := fun _ => False) (Mod.of_below b5) id
                have M3 := h3.keep (S := fun _ => False) (Mod.of_below b5) id
                have M4 := h4.keep (S := fun _ => False) (Mod.of_below b5) id
                go_wp2_with (refine ldD rfl (.tmp 2) rfl _ rfl a M1.lies ?_)
                refine (CA.out _).mono ?_
                rintro e w6 ⟨rfl, b6⟩
                have L1 := M1.keep (S := fun _ => False) (Mod.of_below b6) id
                have L2 := M2.keep (S := fun _ => False) (Mod.of_below b6) id
                have L3 := M3.keep (S := fun _ => False) (Mod.of_below b6) id
                have L4 := M4.keep (S := fun _ => False) (Mod.of_below b6) id
                go_wp2_with (first
                  | (refine ldS rfl (.tmp 41) rfl _ rfl (mks 3 a b) L4.sub ?_)
                  | (refine ldS rfl (.tmp 43) rfl _ rfl a.s L1.sub ?_))
                refine (rone3 (mks 3 a b) a.s _).mono ?_
                rintro e w7 ⟨rfl, b7⟩
                have M4 := L4.keep (S := fun _ => False) (Mod.of_below b7) id
                go_wp2_with (refine stDS rfl (.tmp 47) (.tmp 46) rfl rfl g3 rfl (put1 3 (mks 3 a b) a.s) rfl (mkd 3 a b) M4 ?_; intro w8 m8 B8; have cq : w8.cell? ⟨g3, 0, none⟩ = some (.int .u16 (mkd 3 a b).n) := B8.cell 0; have fq : w8.frozen? ⟨g3, 0, none⟩ = false := B8.frozen 0; have hor := HOR.out)
                go_roundg (8 - 4)
                case measure => omega
                case rel =>
                  have m9 := m8.setCell (p := ⟨g3, 0, none⟩) (.inl rfl) (.int .u16 ((mkd 4 a b).n : Int))
                  exact ⟨4, 4, rfl, rfl, by omega, rfl, bel.trans (((below_seq (below_seq b5 b6) b7).mono bel.size).trans (m9.below (Nat.le_trans bel.size (below_seq (below_seq b5 b6) b7).size) (fun k hk => by omega))), (L1.keep (S := fun _ => False) (Mod.of_below b7) id).keep m9 (by omega), (L2.keep (S := fun _ => False) (Mod.of_below b7) id).keep m9 (by omega), (L3.keep (S := fun _ => False) (Mod.of_below b7) id).keep m9 (by omega), blk_cast (B8.set_ 0 (.int .u16 ((mkd 4 a b).n : Int))) (by rw [HY.out]; rfl)⟩
              · have ha2 := Bool.eq_false_iff.2 ha1
                have HY : Hid (mkd 4 a b = mkd 3 a b) := by
                  show _ = _
                  unfold mkd
                  rw [mks_0 a b 3 (by omega) hb2 ha2, ← mod_step_no (a.n ||| b.n) 3 (by rw [Nat.testBit_or, ha2, hb2]; rfl)]
                rw [ha2] at CA
                clear hb1 hb2 ha1 ha2
                go_wp2_with (refine ldD rfl (.tmp 3) rfl _ rfl b h2.lies ?_)
                refine (CB.out _).mono ?_
                rintro e w5 ⟨rfl, b5⟩
                have M1 := h1.keep (S := fun _ => False) (Mod.of_below b5) id
                have M2 := h2.keep (S := fun _ => False) (Mod.of_below b5) id
                have M3 := h3.keep (S := fun _ => False) (Mod.of_below b5) id
                have M4 := h4.keep (S := fun _ => False) (Mod.of_below b5) id
                go_wp2_with (refine ldD rfl (.tmp 2) rfl _ rfl a M1.lies ?_)
                refine (CA.out _).mono ?_
                rintro e w6 ⟨rfl, b6⟩
                have L1 := M1.keep (S := fun _ => False) (Mod.of_below b6) id
                have L2 := M2.keep (S := fun _ => False) (Mod.of_below b6) id
                have L3 := M3.keep (S := fun _ => False) (Mod.of_below b6) id
                have L4 := M4.keep (S := fun _ => False) (Mod.of_below b6) id
                go_wp2_with fail
                go_roundg (8 - 4)
                case measure => omega
                case rel => exact ⟨4, 4, rfl, rfl, by omega, rfl, bel.trans ((below_seq b5 b6).mono bel.size), L1, L2, L3, by rw [HY.out]; exact L4⟩
          · obtain rfl : z = 4 := by omega
            clear hz hlt3
            have CB := Lib.hid (fun w => rsays4 b w hb)
            by_cases hb1 : b.n.testBit 4 = true
            · have HY : Hid (mkd 5 a b = ⟨(mkd 5 a b).n, put1 4 (mks 4 a b) b.s⟩) := by show _ = _; rw [← mks_b a b 4 (by omega) hb1]; rfl
              have HOR : Hid (bits .or .u16 ((mkd 4 a b).n : Int) 16 = ((mkd 5 a b).n : Int)) := or_yes _ (a.n ||| b.n) 4 16 _ ho16 (by rw [Nat.testBit_or, hb1, Bool.or_true]) rfl rfl (by omega) rfl
              rw [hb1] at CB
              clear hb1
              go_wp2_with (refine ldD rfl (.tmp 3) rfl _ rfl b h2.lies ?_)
              refine (CB.out _).mono ?_
              rintro e w6 ⟨rfl, b6⟩
              have L1 := h1.keep (S := fun _ => False) (Mod.of_below b6) id
              have L2 := h2.keep (S := fun _ => False) (Mod.of_below b6) id
              have L3 := h3.keep (S := fun _ => False) (Mod.of_below b6) id
              have L4 := h4.keep (S := fun _ => False) (Mod.of_below b6) id
              go_wp2_with (first
                | (refine ldS rfl (.tmp 24) rfl _ rfl (mks 4 a b) L4.sub ?_)
                | (refine ldS rfl (.tmp 26) rfl _ rfl b.s L2.sub ?_))
              refine (rone4 (mks 4 a b) b.s _).mono ?_
              rintro e w7 ⟨rfl, b7⟩
              have M4 := L4.keep (S := fun _ => False) (Mod.of_below b7) id
              go_wp2_with (refine stDS rfl (.tmp 30) (.tmp 29) rfl rfl g3 rfl (put1 4 (mks 4 a b) b.s) rfl (mkd 4 a b) M4 ?_; intro w8 m8 B8; have cq : w8.cell? ⟨g3, 0, none⟩ = some (.int .u16 (mkd 4 a b).n) := B8.cell 0; have fq : w8.frozen? ⟨g3, 0, none⟩ = false := B8.frozen 0; have hor := HOR.out)
              go_roundg (8 - 5)
              case measure => omega
              case rel =>
                have m9 := m8.setCell (p := ⟨g3, 0, none⟩) (.inl rfl) (.int .u16 ((mkd 5 a b).n : Int))
                exact ⟨5, 5, rfl, rfl, by omega, rfl, bel.trans (((below_seq b6 b7).mono bel.size).trans (m9.below (Nat.le_trans bel.size (below_seq b6 b7).size) (fun k hk => by omega))), (L1.keep (S := fun _ => False) (Mod.of_below b7) id).keep m9 (by omega), (L2.keep (S := fun _ => False) (Mod.of_below b7) id).keep m9 (by omega), (L3.keep (S := fun _ => False) (Mod.of_below b7) id).keep m9 (by omega), blk_cast (B8.set_ 0 (.int .u16 ((mkd 5 a b).n : Int))) (by rw [HY.out]; rfl)⟩
            · have hb2 := Bool.eq_false_iff.2 hb1
              have CA := Lib.hid (fun w => rsays4 a w ha)
              rw [hb2] at CB
              by_cases ha1 : a.n.testBit 4 = true
              · have HY : Hid (mkd 5 a b = ⟨(mkd 5 a b).n, put1 4 (mks 4 a b) a.s⟩) := by show _ = _; rw [← mks_a a b 4 (by omega) hb2 ha1]; rfl
                have HOR : Hid (bits .or .u16 ((mkd 4 a b).n : Int) 16 = ((mkd 5 a b).n : Int)) := or_yes _ (a.n ||| b.n) 4 16 _ ho16 (by rw [Nat.testBit_or, ha1, Bool.true_or]) rfl rfl (by omega) rfl
                rw [ha1] at CA
                clear hb1 hb2 ha1
                go_wp2_with (refine ldD rfl (.tmp 3) rfl _ rfl b h2.lies ?_)
                refine (CB.out _).mono ?_
                rintro e w5 ⟨rfl, b5⟩
                have M1 := h1.keep (S := fun _ => False) (Mod.of_below b5) id
                have M2 := h2.keep (S := fun _ => False) (Mod.of_below b5) id
                have M3 := h3.keep (S := fun _ => False) (Mod.of_below b5) id
                have M4 := h4.keep (S := fun _ => False) (Mod.of_below b5) id
                go_wp2_with (refine ldD rfl (.tmp 2) rfl _ rfl a M1.lies ?_)
                refine (CA.out _).mono ?_
                rintro e w6 ⟨rfl, b6⟩
                have L1 := M1.keep (S := fun _ => False) (Mod.of_below b6) id
                have L2 := M2.keep (S := fun _ => False) (Mod.of_below b6) id
                have L3 := M3.keep (S := fun _ => False) (Mod.of_below b6) id
                have L4 := M4.keep (S := fun _ => False) (Mod.of_below b6) id
                go_wp2_with (first
                  | (refine ldS rfl (.tmp 41) rfl _ rfl (mks 4 a b) L4.sub ?_)
                  | (refine ldS rfl (.tmp 43) rfl _ rfl a.s L1.sub ?_))
                refine (rone4 (mks 4 a b) a.s _).mono ?_
                rintro e w7 ⟨rfl, b7⟩
                have M4 := L4.keep (S := fun _ => False) (Mod.of_below b7) id
                go_wp2_with (refine stDS rfl (.tmp 47) (.tmp 46) rfl rfl g3 rfl (put1 4 (mks 4 a b) a.s) rfl (mkd 4 a b) M4 ?_; intro w8 m8 B8; have cq : w8.cell? ⟨g3, 0, none⟩ = some (.int .u16 (mkd 4 a b).n) := B8.cell 0; have fq : w8.frozen? ⟨g3, 0, none⟩ = false := B8.frozen 0; have hor := HOR.out)
                go_roundg (8 - 5)
                case measure => omega
                case rel =>
                  have m9 := m8.setCell (p := ⟨g3, 0, none⟩) (.inl rfl) (.int .u16 ((mkd 5 a b).n : Int))
                  exact ⟨5, 5, rfl, rfl, by omega, rfl, bel.trans (((below_seq (below_seq b5 b6) b7).mono bel.size).trans (m9.below (Nat.le_trans bel.size (below_seq (below_seq b5 b6) b7).size) (fun k hk => by omega))), (L1.keep (S := fun _ => False) (Mod.of_below b7) id).keep m9 (by omega), (L2.keep (S := fun _ => False) (Mod.of_below b7) id).keep m9 (by omega), (L3.keep (S := fun _ => False) (Mod.of_below b7) id).keep m9 (by omega), blk_cast (B8.set_ 0 (.int .u16 ((mkd 5 a b).n : Int))) (by rw [HY.out]; rfl)⟩
              · have ha2 := Bool.eq_false_iff.2 ha1
                have HY : Hid (mkd 5 a b = mkd 4 a b) := by
                  show _ = _
                  unfold mkd
                  rw [mks_0 a b 4 (by omega) hb2 ha2, ← mod_step_no (a.n ||| b.n) 4 (by rw [Nat.testBit_or, ha2, hb2]; rfl)]
                rw [ha2] at CA
                clear hb1 hb2 ha1 ha2
                go_wp2_with (refine ldD rfl (.tmp 3) rfl _ rfl b h2.lies ?_)
                refine (CB.out _).mono ?_
                rintro e w5 ⟨rfl, b5⟩
                have M1 := h1.keep (S := fun _ => False) (Mod.of_below b5) id
                have M2 := h2.keep (S := fun _ => False) (Mod.of_below b5) id
                have M3 := h3.keep (S := fun _ => False) (Mod.of_below b5) id
                have M4 := h4.keep (S := fun _ => False) (Mod.of_below b5) id
                go_wp2_with (refine ldD rfl (.tmp 2) rfl _ rfl a M1.lies ?_)
                refine (CA.out _).mono ?_
                rintro e w6 ⟨rfl, b6⟩
                have L1 := M1.keep (S := fun _ => False) (Mod.of_below b6) id
                have L2 := M2.keep (S := fun _ => False) (Mod.of_below b6) id
                have L3 := M3.keep (S := fun _ => False) (Mod.of_below b6) id
                have L4 := M4.keep (S := fun _ => False) (Mod.of_below b6) id
                go_wp2_with fail
                go_roundg (8 - 5)
                case measure => omega
                case rel => exact ⟨5, 5, rfl, rfl, by omega, rfl, bel.trans ((below_seq b5 b6).mono bel.size), L1, L2, L3, by rw [HY.out]; exact L4⟩
          · obtain rfl : z = 5 := by omega
            clear hz hlt3
            have CB := Lib.hid (fun w => rsays5 b w hb)
            by_cases hb1 : b.n.testBit 5 = true
            · have HY : Hid (mkd 6 a b = ⟨(mkd 6 a b).n, put1 5 (mks 5 a b) b.s⟩) := by show _ = _; rw [← mks_b a b 5 (by omega) hb1]; rfl
              have HOR : Hid (bits .or .u16 ((mkd 5 a b).n : Int) 32 = ((mkd 6 a b).n : Int)) := or_yes _ (a.n ||| b.n) 5 32 _ ho16 (by rw [Nat.testBit_or, hb1, Bool.or_true]) rfl rfl (by omega) rfl
              rw [hb1] at CB
              clear hb1
              go_wp2_with (refine ldD rfl (.tmp 3) rfl _ rfl b h2.lies ?_)
              refine (CB.out _).mono ?_
              rintro e w6 ⟨rfl, b6⟩
              have L1 := h1.keep (S := fun _ => False) (Mod.of_below b6) id
              have L2 := h2.keep (S := fun _ => False) (Mod.of_below b6) id
              have L3 := h3.keep (S := fun _ => False) (Mod.of_below b6) id
              have L4 := h4.keep (S := fun _ => False) (Mod.of_below b6) id
              go_wp2_with (first
                | (refine ldS rfl (.tmp 24) rfl _ rfl (mks 5 a b) L4.sub ?_)
                | (refine ldS rfl (.tmp 26) rfl _ rfl b.s L2.sub ?_))
              refine (rone5 (mks 5 a b) b.s _).mono ?_
              rintro e w7 ⟨rfl, b7⟩
              have M4 := L4.keep (S := fun _ => False) (Mod.of_below b7) id
              go_wp2_with (refine stDS rfl (.tmp 30) (.tmp 29) rfl rfl g3 rfl (put1 5 (mks 5 a b) b.s) rfl (mkd 5 a b) M4 ?_; intro w8 m8 B8; have cq : w8.cell? ⟨g3, 0, none⟩ = some (.int .u16 (mkd 5 a b).n) := B8.cell 0; have fq : w8.frozen? ⟨g3, 0, none⟩ = false := B8.frozen 0; have hor := HOR.out)
              go_roundg (8 - 6)
              case measure => omega
              case rel =>
                have m9 := m8.setCell (p := ⟨g3, 0, none⟩) (.inl rfl) (.int .u16 ((mkd 6 a b).n : Int))
                exact ⟨6, 6, rfl, rfl, by omega, rfl, bel.trans (((below_seq b6 b7).mono bel.size).trans (m9.below (Nat.le_trans bel.size (below_seq b6 b7).size) (fun k hk => by omega))), (L1.keep (S := fun _ => False) (Mod.of_below b7) id).keep m9 (by omega), (L2.keep (S := fun _ => False) (Mod.of_below b7) id).keep m9 (by omega), (L3.keep (S := fun _ => False) (Mod.of_below b7) id).keep m9 (by omega), blk_cast (B8.set_ 0 (.int .u16 ((mkd 6 a b).n : Int))) (by rw [HY.out]; rfl)⟩
            · have hb2 := Bool.eq_false_iff.2 hb1
              have CA := Lib.hid (fun w => rsays5 a w ha)
              rw [hb2] at CB
              by_cases ha1 : a.n.testBit 5 = true
              · have HY : Hid (mkd 6 a b = ⟨(mkd 6 a b).n, put1 5 (mks 5 a b) a.s⟩) := by show _ = _; rw [← mks_a a b 5 (by omega) hb2 ha1]; rfl
                have HOR : Hid (bits .or .u16 ((mkd 5 a b).n : Int) 32 = ((mkd 6 a b).n : Int)) := or_yes _ (a.n ||| b.n) 5 32 _ ho16 (by rw [Nat.testBit_or, ha1, Bool.true_or]) rfl rfl (by omega) rfl
                rw [ha1] at CA
                clear hb1 hb2 ha1
                go_wp2_with (refine ldD rfl (.tmp 3) rfl _ rfl b h2.lies ?_)
                refine (CB.out _).mono ?_
                rintro e w5 ⟨rfl, b5⟩
                have M1 := h1.keep (S := fun _ => False) (Mod.of_below b5) id
                have M2 := h2.keep (S := fun _ => False) (Mod.of_below b5) id
                have M3 := h3.keep (S := fun _ => False) (Mod.of_below b5) id
                have M4 := h4.keep (S := fun _ => False) (Mod.of_below b5) id
                go_wp2_with (refine ldD rfl (.tmp 2) rfl _ rfl a M1.lies ?_)
                refine (CA.out _).mono ?_
                rintro e w6 ⟨rfl, b6⟩
                have L1 := M1.keep (S := fun _ => False) (Mod.of_below b6) id
                have L2 := M2.keep (S := fun _ => False) (Mod.of_below b6) id
                have L3 := M3.keep (S := fun _ => False) (Mod.of_below b6) id
                have L4 := M4.keep (S := fun _ => False) (Mod.of_below b6) id
                go_wp2_with (first
                  | (refine ldS rfl (.tmp 41) rfl _ rfl (mks 5 a b) L4.sub ?_)
                  | (refine ldS rfl (.tmp 43) rfl _ rfl a.s L1.sub ?_))
                refine (rone5 (mks 5 a b) a.s _).mono ?_
                rintro e w7 ⟨rfl, b7⟩
                have M4 := L4.keep (S := fun _ => False) (Mod.of_below b7) id
                go_wp2_with (refine stDS rfl (.tmp 47) (.tmp 46) rfl rfl g3 rfl (put1 5 (mks 5 a b) a.s) rfl (mkd 5 a b) M4 ?_; intro w8 m8 B8; have cq : w8.cell? ⟨g3, 0, none⟩ = some (.int .u16 (mkd 5 a b).n) := B8.cell 0; have fq : w8.frozen? ⟨g3, 0, none⟩ = false := B8.frozen 0; have hor := HOR.out)
                go_roundg (8 - 6)
                case measure => omega
                case rel =>
                  have m9 := m8.setCell (p := ⟨g3, 0, none⟩) (.inl rfl) (.int .u16 ((mkd 6 a b).n : Int))
                  exact ⟨6, 6, rfl, rfl, by omega, rfl, bel.trans (((below_seq (below_seq b5 b6) b7).mono bel.size).trans (m9.below (Nat.le_trans bel.size (below_seq (below_seq b5 b6) b7).size) (fun k hk => by omega))), (L1.keep (S := fun _ => False) (Mod.of_below b7) id).keep m9 (by omega), (L2.keep (S := fun _ => False) (Mod.of_below b7) id).keep m9 (by omega), (L3.keep (S := fun _ => False) (Mod.of_below b7) id).keep m9 (by omega), blk_cast (B8.set_ 0 (.int .u16 ((mkd 6 a b).n : Int))) (by rw [HY.out]; rfl)⟩
              · have ha2 := Bool.eq_false_iff.2 ha1
                have HY : Hid (mkd 6 a b = mkd 5 a b) := by
                  show _ = _
                  unfold mkd
                  rw [mks_0 a b 5 (by omega) hb2 ha2, ← mod_step_no (a.n ||| b.n) 5 (by rw [Nat.testBit_or, ha2, hb2]; rfl)]
                rw [ha2] at CA
                clear hb1 hb2 ha1 ha2
                go_wp2_with (refine ldD rfl (.tmp 3) rfl _ rfl b h2.lies ?_)
                refine (CB.out _).mono ?_
                rintro e w5 ⟨rfl, b5⟩
                have M1 := h1.keep (S := fun _ => False) (Mod.of_below b5) id
                have M2 := h2.keep (S := fun _ => False) (Mod.of_below b5) id
                have M3 := h3.keep (S := fun _ => False) (Mod.of_below b5) id
                have M4 := h4.keep (S := fun _ => False) (Mod.of_below b5) id
                go_wp2_with (refine ldD rfl (.tmp 2) rfl _ rfl a M1.lies ?_)
                refine (CA.out _).mono ?_
                rintro e w6 ⟨rfl, b6⟩
                have L1 := M1.keep (S := fun _ => False) (Mod.of_below b6) id
                have L2 := M2.keep (S := fun _ => False) (Mod.of_below b6) id
                have L3 := M3.keep (S := fun _ => False) (Mod.of_below b6) id
                have L4 := M4.keep (S := fun _ => False) (Mod.of_below b6) id
                go_wp2_with fail
                go_roundg (8 - 6)
                case measure => omega
                case rel => exact ⟨6, 6, rfl, rfl, by omega, rfl, bel.trans ((below_seq b5 b6).mono bel.size), L1, L2, L3, by rw [HY.out]; exact L4⟩
          · obtain rfl : z = 6 := by omega
            clear hz hlt3
            have CB := Lib.hid (fun w => rsays6 b w hb)
            by_cases hb1 : b.n.testBit 6 = true
            · have HY : Hid (mkd 7 a b = ⟨(mkd 7 a b).n, put1 6 (mks 6 a b) b.s⟩) := by show _ = _; rw [← mks_b a b 6 (by omega) hb1]; rfl
              have HOR : Hid (bits .or .u16 ((mkd 6 a b).n : Int) 64 = ((mkd 7 a b).n : Int)) := or_yes _ (a.n ||| b.n) 6 64 _ ho16 (by rw [Nat.testBit_or, hb1, Bool.or_true]) rfl rfl (by omega) rfl
              rw [hb1] at CB
              clear hb1
              go_wp2_with (refine ldD rfl (.tmp 3) rfl _ rfl b h2.lies ?_)
              refine (CB.out _).mono ?_
              rintro e w6 ⟨rfl, b6⟩
              have L1 := h1.keep (S := fun _ => False) (Mod.of_below b6) id
              have L2 := h2.keep (S := fun _ => False) (Mod.of_below b6) id
              have L3 := h3.keep (S := fun _ => False) (Mod.of_below b6) id
              have L4 := h4.keep (S := fun _ => False) (Mod.of_below b6) id
              go_wp2_with (first
                | (refine ldS rfl (.tmp 24) rfl _ rfl (mks 6 a b) L4.sub ?_)
                | (refine ldS rfl (.tmp 26) rfl _ rfl b.s L2.sub ?_))
              refine (rone6 (mks 6 a b) b.s _).mono ?_
              rintro e w7 ⟨rfl, b7⟩
              have M4 := L4.keep (S := fun _ => False) (Mod.of_below b7) id
              go_wp2_with (refine stDS rfl (.tmp 30) (.tmp 29) rfl rfl g3 rfl (put1 6 (mks 6 a b) b.s) rfl (mkd 6 a b) M4 ?_; intro w8 m8 B8; have cq : w8.cell? ⟨g3, 0, none⟩ = some (.int .u16 (mkd 6 a b).n) := B8.cell 0; have fq : w8.frozen? ⟨g3, 0, none⟩ = false := B8.frozen 0; have hor := HOR.out)
              go_roundg (8 - 7)
              case measure => omega
              case rel =>
                have m9 := m8.setCell (p := ⟨g3, 0, none⟩) (.inl rfl) (.int .u16 ((mkd 7 a b).n : Int))
                exact ⟨7, 7, rfl, rfl, by omega, rfl, bel.trans (((below_seq b6 b7).mono bel.size).trans (m9.below (Nat.le_trans bel.size (below_seq b6 b7).size) (fun k hk => by omega))), (L1.keep (S := fun _ => False) (Mod.of_below b7) id).keep m9 (by omega), (L2.keep (S := fun _ => False) (Mod.of_below b7) id).keep m9 (by omega), (L3.keep (S := fun _ => False) (Mod.of_below b7) id).keep m9 (by omega), blk_cast (B8.set_ 0 (.int .u16 ((mkd 7 a b).n : Int))) (by rw [HY.out]; rfl)⟩
            · have hb2 := Bool.eq_false_iff.2 hb1
              have CA := Lib.hid (fun w => rsays6 a w ha)
              rw [hb2] at CB
              by_cases ha1 : a.n.testBit 6 = true
              · have HY : Hid (mkd 7 a b = ⟨(mkd 7 a b).n, put1 6 (mks 6 a b) a.s⟩) := by show _ = _; rw [← mks_a a b 6 (by omega) hb2 ha1]; rfl
                have HOR : Hid (bits .or .u16 ((mkd 6 a b).n : Int) 64 = ((mkd 7 a b).n : Int)) := or_yes _ (a.n ||| b.n) 6 64 _ ho16 (by rw [Nat.testBit_or, ha1, Bool.true_or]) rfl rfl (by omega) rfl
                rw [ha1] at CA
                clear hb1 hb2 ha1
                go_wp2_with (refine ldD rfl (.tmp 3) rfl _ rfl b h2.lies ?_)
                refine (CB.out _).mono ?_
                rintro e w5 ⟨rfl, b5⟩
                have M1 := h1.keep (S := fun _ => False) (Mod.of_below b5) id
                have M2 := h2.keep (S := fun _ => False) (Mod.of_below b5) id
                have M3 := h3.keep (S := fun _ => False) (Mod.of_below b5) id
                have M4 := h4.keep (S := fun _ => False) (Mod.of_below b5) id
                go_wp2_with (refine ldD rfl (.tmp 2) rfl _ rfl a M1.lies ?_)
                refine (CA.out _).mono ?_
                rintro e w6 ⟨rfl, b6⟩
                have L1 := M1.keep (S := fun _ => False) (Mod.of_below b6) id
                have L2 := M2.keep (S := fun _ => False) (Mod.of_below b6) id
                have L3 := M3.keep (S := fun _ => False) (Mod.of_below b6) id
                have L4 := M4.keep (S := fun _ => False) (Mod.of_below b6) id
                go_wp2_with (first
                  | (refine ldS rfl (.tmp 41) rfl _ rfl (mks 6 a b) L4.sub ?_)
                  | (refine ldS rfl (.tmp 43) rfl _ rfl a.s L1.sub ?_))
                refine (rone6 (mks 6 a b) a.s _).mono ?_
                rintro e w7 ⟨rfl, b7⟩
                have M4 := L4.keep (S := fun _ => False) (Mod.of_below b7) id
                go_wp2_with (refine stDS rfl (.tmp 47) (.tmp 46) rfl rfl g3 rfl (put1 6 (mks 6 a b) a.s) rfl (mkd 6 a b) M4 ?_; intro w8 m8 B8; have cq : w8.cell? ⟨g3, 0, none⟩ = some (.int .u16 (mkd 6 a b).n) := B8.cell 0; have fq : w8.frozen? ⟨g3, 0, none⟩ = false := B8.frozen 0; have hor := HOR.out)
                go_roundg (8 - 7)
                case measure => omega
                case rel =>
                  have m9 := m8.setCell (p := ⟨g3, 0, none⟩) (.inl rfl) (.int .u16 ((mkd 7 a b).n : Int))
                  exact ⟨7, 7, rfl, rfl, by omega, rfl, bel.trans (((below_seq (below_seq b5 b6) b7).mono bel.size).trans (m9.below (Nat.le_trans bel.size (below_seq (below_seq b5 b6) b7).size) (fun k hk => by omega))), (L1.keep (S := fun _ => False) (Mod.of_below b7) id).keep m9 (by omega), (L2.keep (S := fun _ => False) (Mod.of_below b7) id).keep m9 (by omega), (L3.keep (S := fun _ => False) (Mod.of_below b7) id).keep m9 (by omega), blk_cast (B8.set_ 0 (.int .u16 ((mkd 7 a b).n : Int))) (by rw [HY.out]; rfl)⟩
              · have ha2 := Bool.eq_false_iff.2 ha1
                have HY : Hid (mkd 7 a b = mkd 6 a b) := by
                  show _ = _
                  unfold mkd
                  rw [mks_0 a b 6 (by omega) hb2 ha2, ← mod_step_no (a.n ||| b.n) 6 (by rw [Nat.testBit_or, ha2, hb2]; rfl)]
                rw [ha2] at CA
                clear hb1 hb2 ha1 ha2
                go_wp2_with (refine ldD rfl (.tmp 3) rfl _ rfl b h2.lies ?_)
                refine (CB.out _).mono ?_
                rintro e w5 ⟨rfl, b5⟩
                have M1 := h1.keep (S := fun _ => False) (Mod.of_below b5) id
                have M2 := h2.keep (S := fun _ => False) (Mod.of_below b5) id
                have M3 := h3.keep (S := fun _ => False) (Mod.of_below b5) id
                have M4 := h4.keep (S := fun _ => False) (Mod.of_below b5) id
                go_wp2_with (refine ldD rfl (.tmp 2) rfl _ rfl a M1.lies ?_)
                refine (CA.out _).mono ?_
                rintro e w6 ⟨rfl, b6⟩
                have L1 := M1.keep (S := fun _ => False) (Mod.of_below b6) id
                have L2 := M2.keep (S := fun _ => False) (Mod.of_below b6) id
                have L3 := M3.keep (S := fun _ => False) (Mod.of_below b6) id
                have L4 := M4.keep (S := fun _ => False) (Mod.of_below b6) id
                go_wp2_with fail
                go_roundg (8 - 7)
                case measure => omega
                case rel => exact ⟨7, 7, rfl, rfl, by omega, rfl, bel.trans ((below_seq b5 b6).mono bel.size), L1, L2, L3, by rw [HY.out]; exact L4⟩
          · obtain rfl : z = 7 := by omega
            clear hz hlt3
            have CB := Lib.hid (fun w => rsays7 b w hb)
            by_cases hb1 : b.n.testBit 7 = true
            · have HY : Hid (mkd 8 a b = ⟨(mkd 8 a b).n, put1 7 (mks 7 a b) b.s⟩) := by show _ = _; rw [← mks_b a b 7 (by omega) hb1]; rfl
              have HOR : Hid (bits .or .u16 ((mkd 7 a b).n : Int) 128 = ((mkd 8 a b).n : Int)) := or_yes _ (a.n ||| b.n) 7 128 _ ho16 (by rw [Nat.testBit_or, hb1, Bool.or_true]) rfl rfl (by omega) rfl
              rw [hb1] at CB
              clear hb1
              go_wp2_with (refine ldD rfl (.tmp 3) rfl _ rfl b h2.lies ?_)
              refine (CB.out _).mono ?_
              rintro e w6 ⟨rfl, b6⟩
              have L1 := h1.keep (S := fun _ => False) (Mod.of_below b6) id
              have L2 := h2.keep (S := fun _ => False) (Mod.of_below b6) id
              have L3 := h3.keep (S := fun _ => False) (Mod.of_below b6) id
              have L4 := h4.keep (S := fun _ => False) (Mod.of_below b6) id
              go_wp2_with (first
                | (refine ldS rfl (.tmp 24) rfl _ rfl (mks 7 a b) L4.sub ?_)
                | (refine ldS rfl (.tmp 26) rfl _ rfl b.s L2.sub ?_))
              refine (rone7 (mks 7 a b) b.s _).mono ?_
              rintro e w7 ⟨rfl, b7⟩
              have M4 := L4.keep (S := fun _ => False) (Mod.of_below b7) id
              go_wp2_with (refine stDS rfl (.tmp 30) (.tmp 29) rfl rfl g3 rfl (put1 7 (mks 7 a b) b.s) rfl (mkd 7 a b) M4 ?_; intro w8 m8 B8; have cq : w8.cell? ⟨g3, 0, none⟩ = some (.int .u16 (mkd 7 a b).n) := B8.cell 0; have fq : w8.frozen? ⟨g3, 0, none⟩ = false := B8.frozen 0; have hor := HOR.out)
              go_roundg (8 - 8)
              case measure => omega
              case rel =>
                have m9 := m8.setCell (p := ⟨g3, 0, none⟩) (.inl rfl) (.int .u16 ((mkd 8 a b).n : Int))
                exact ⟨8, 8, rfl, rfl, by omega, rfl, bel.trans (((below_seq b6 b7).mono bel.size).trans (m9.below (Nat.le_trans bel.size (below_seq b6 b7).size) (fun k hk => by omega))), (L1.keep (S := fun _ => False) (Mod.of_below b7) id).keep m9 (by omega), (L2.keep (S := fun _ => False) (Mod.of_below b7) id).keep m9 (by omega), (L3.keep (S := fun _ => False) (Mod.of_below b7) id).keep m9 (by omega), blk_cast (B8.set_ 0 (.int .u16 ((mkd 8 a b).n : Int))) (by rw [HY.out]; rfl)⟩
            · have hb2 := Bool.eq_false_iff.2 hb1
              have CA := Lib.hid (fun w => rsays7 a w ha)
              rw [hb2] at CB
              by_cases ha1 : a.n.testBit 7 = true
              · have HY : Hid (mkd 8 a b = ⟨(mkd 8 a b).n, put1 7 (mks 7 a b) a.s⟩) := by show _ = _; rw [← mks_a a b 7 (by omega) hb2 ha1]; rfl
                have HOR : Hid (bits .or .u16 ((mkd 7 a b).n : Int) 128 = ((mkd 8 a b).n : Int)) := or_yes _ (a.n ||| b.n) 7 128 _ ho16 (by rw [Nat.testBit_or, ha1, Bool.true_or]) rfl rfl (by omega) rfl
                rw [ha1] at CA
                clear hb1 hb2 ha1
                go_wp2_with (refine ldD rfl (.tmp 3) rfl _ rfl b h2.lies ?_)
                refine (CB.out _).mono ?_
                rintro e w5 ⟨rfl, b5⟩
                have M1 := h1.keep (S := fun _ => False) (Mod.of_below b5) id
                have M2 := h2.keep (S := fun _ => False) (Mod.of_below b5) id
                have M3 := h3.keep (S := fun _ => False) (Mod.of_below b5) id
                have M4 := h4.keep (S := fun _ => False) (Mod.of_below b5) id
                go_wp2_with (refine ldD rfl (.tmp 2) rfl _ rfl a M1.lies ?_)
                refine (CA.out _).mono ?_
                rintro e w6 ⟨rfl, b6⟩
                have L1 := M1.keep (S := fun _ => False) (Mod.of_below b6) id
                have L2 := M2.keep (S := fun _ => False) (Mod.of_below b6) id
                have L3 := M3.keep (S := fun _ => False) (Mod.of_below b6) id
                have L4 := M4.keep (S := fun _ => False) (Mod.of_below b6) id
                go_wp2_with (first
                  | (refine ldS rfl (.tmp 41) rfl _ rfl (mks 7 a b) L4.sub ?_)
                  | (refine ldS rfl (.tmp 43) rfl _ rfl a.s L1.sub ?_))
                refine (rone7 (mks 7 a b) a.s _).mono ?_
                rintro e w7 ⟨rfl, b7⟩
                have M4 := L4.keep (S := fun _ => False) (Mod.of_below b7) id
                go_wp2_with (refine stDS rfl (.tmp 47) (.tmp 46) rfl rfl g3 rfl (put1 7 (mks 7 a b) a.s) rfl (mkd 7 a b) M4 ?_; intro w8 m8 B8; have cq : w8.cell? ⟨g3, 0, none⟩ = some (.int .u16 (mkd 7 a b).n) := B8.cell 0; have fq : w8.frozen? ⟨g3, 0, none⟩ = false := B8.frozen 0; have hor := HOR.out)
                go_roundg (8 - 8)
                case measure => omega
                case rel =>
                  have m9 := m8.setCell (p := ⟨g3, 0, none⟩) (.inl rfl) (.int .u16 ((mkd 8 a b).n : Int))
                  exact ⟨8, 8, rfl, rfl, by omega, rfl, bel.trans (((below_seq (below_seq b5 b6) b7).mono bel.size).trans (m9.below (Nat.le_trans bel.size (below_seq (below_seq b5 b6) b7).size) (fun k hk => by omega))), (L1.keep (S := fun _ => False) (Mod.of_below b7) id).keep m9 (by omega), (L2.keep (S := fun _ => False) (Mod.of_below b7) id).keep m9 (by omega), (L3.keep (S := fun _ => False) (Mod.of_below b7) id).keep m9 (by omega), blk_cast (B8.set_ 0 (.int .u16 ((mkd 8 a b).n : Int))) (by rw [HY.out]; rfl)⟩
              · have ha2 := Bool.eq_false_iff.2 ha1
                have HY : Hid (mkd 8 a b = mkd 7 a b) := by
                  show _ = _
                  unfold mkd
                  rw [mks_0 a b 7 (by omega) hb2 ha2, ← mod_step_no (a.n ||| b.n) 7 (by rw [Nat.testBit_or, ha2, hb2]; rfl)]
                rw [ha2] at CA
                clear hb1 hb2 ha1 ha2
                go_wp2_with (refine ldD rfl (.tmp 3) rfl _ rfl b h2.lies ?_)
                refine (CB.out _).mono ?_
                rintro e w5 ⟨rfl, b5⟩
                have M1 := h1.keep (S := fun _ => False) (Mod.of_below b5) id
                have M2 := h2.keep (S := fun _ => False) (Mod.of_below b5) id
                have M3 := h3.keep (S := fun _ => False) (Mod.of_below b5) id
                have M4 := h4.keep (S := fun _ => False) (Mod.of_below b5) id
                go_wp2_with (refine ldD rfl (.tmp 2) rfl _ rfl a M1.lies ?_)
                refine (CA.out _).mono ?_
                rintro e w6 ⟨rfl, b6⟩
                have L1 := M1.keep (S := fun _ => False) (Mod.of_below b6) id
                have L2 := M2.keep (S := fun _ => False) (Mod.of_below b6) id
                have L3 := M3.keep (S := fun _ => False) (Mod.of_below b6) id
                have L4 := M4.keep (S := fun _ => False) (Mod.of_below b6) id
                go_wp2_with fail
                go_roundg (8 - 8)
                case measure => omega
                case rel => exact ⟨8, 8, rfl, rfl, by omega, rfl, bel.trans ((below_seq b5 b6).mono bel.size), L1, L2, L3, by rw [HY.out]; exact L4⟩
        · obtain rfl : k = 8 := by omega
          obtain rfl : z = 8 := by omega
          clear hz hlt3 hk
          go_wp2_with (first
            | (refine ldD rfl (.tmp 6) rfl _ rfl (mkd 8 a b) h4.lies ?_)
            | (refine stD rfl (.tmp 4) (.tmp 55) rfl rfl _ rfl (mkd 8 a b) rfl .zero h3 ?_; intro w7 m7 B7))
          exact bodyPost_ret (v := .tuple #[.agg (mkd 8 a b).cells, .int .i64 0]) (res_row_val rfl _ _ _ 26 _ _ rfl B7 _ rfl uD rfl iD) rfl ⟨rfl, bel.trans (m7.below bel.size (fun k hk => by rw [hk]; exact hg3))⟩
    · have e1 : mrgV a b = .zero := by unfold mrgV; rw [hv, hv2]; rfl
      have e2 : mrgE a b = 60 := by unfold mrgE; rw [hv, hv2]; rfl
      rw [e1, e2]
      rw [hc] at C1
      rw [hc2] at C2
      clear hv hv2 hc hc2 e1 e2
      go_enter Try.func11, Try.ntmps11
      go_wp2_with (first
        | (refine bxDV rfl (.tmp 0) rfl a rfl ?_; intro w1 b1 B1)
        | (refine bxDV rfl (.tmp 1) rfl b rfl ?_; intro w2 b2 B2)
        | (refine alDV (o := ⟨some 4, _, _, _, _, _⟩) rfl rfl ?_; intro w3 b3 B3)
        | (refine ldD rfl (.tmp 2) rfl _ rfl a (Blk.lies ((B1.keep (S := fun _ => False) (Mod.of_below b2) id).keep (S := fun _ => False) (Mod.of_below b3) id)) ?_))
      refine (C1.out _).mono ?_
      rintro e w4 ⟨rfl, b4⟩
      have hg3 : w.heap.size ≤ w2.heap.size := Nat.le_trans b1.size b2.size
      have hg1 : w.heap.size < w1.heap.size := B1.lt
      have hg2 : w1.heap.size < w2.heap.size := B2.lt
      have K1 : Blk w4 w.heap.size 26 a.cells := ((B1.keep (S := fun _ => False) (Mod.of_below b2) id).keep (S := fun _ => False) (Mod.of_below b3) id).keep (S := fun _ => False) (Mod.of_below b4) id
      have K2 : Blk w4 w1.heap.size 26 b.cells := (B2.keep (S := fun _ => False) (Mod.of_below b3) id).keep (S := fun _ => False) (Mod.of_below b4) id
      have K3 : Blk w4 w2.heap.size 26 Dcl.zero.cells := B3.keep (S := fun _ => False) (Mod.of_below b4) id
      have b03 := below_seq (below_seq b1 b2) b3
      clear b1 B1 b2 B2 b3 B3
      go_wp2_with (refine ldDIf (by kernel_rfl) (.tmp 3) rfl _ rfl b K2.lies ?_)
      refine (C2.out _).mono ?_
      rintro e w5 ⟨rfl, b5⟩
      have L3 := K3.keep (S := fun _ => False) (Mod.of_below b5) id
      clear K1 K2 K3
      go_wp2_with (refine stD rfl (.tmp 4) (.tmp 16) rfl rfl _ rfl .zero rfl .zero L3 ?_; intro w7 m7 B7)
      exact bodyPost_ret (v := .tuple #[.agg Dcl.zero.cells, .int .i64 60]) (res_row_val rfl _ _ _ 26 _ _ rfl B7 _ rfl uD rfl iD) rfl ⟨rfl, (below_seq (below_seq b03 b4) b5).trans (m7.below (below_seq (below_seq b03 b4) b5).size (fun k hk => by rw [hk]; exact hg3))⟩
  · have e1 : mrgV a b = .zero := by unfold mrgV; rw [hv]; rfl
    have e2 : mrgE a b = 60 := by unfold mrgE; rw [hv]; rfl
    rw [e1, e2]
    rw [hc] at C1
    clear hv hc e1 e2
    go_enter Try.func11, Try.ntmps11
    go_wp2_with (first
      | (refine bxDV rfl (.tmp 0) rfl a rfl ?_; intro w1 b1 B1)
      | (refine bxDV rfl (.tmp 1) rfl b rfl ?_; intro w2 b2 B2)
      | (refine alDV (o := ⟨some 4, _, _, _, _, _⟩) rfl rfl ?_; intro w3 b3 B3)
      | (refine ldD rfl (.tmp 2) rfl _ rfl a (Blk.lies ((B1.keep (S := fun _ => False) (Mod.of_below b2) id).keep (S := fun _ => False) (Mod.of_below b3) id)) ?_))
    refine (C1.out _).mono ?_
    rintro e w4 ⟨rfl, b4⟩
    have hg3 : w.heap.size ≤ w2.heap.size := Nat.le_trans b1.size b2.size
    have hg1 : w.heap.size < w1.heap.size := B1.lt
    have hg2 : w1.heap.size < w2.heap.size := B2.lt
    have K1 : Blk w4 w.heap.size 26 a.cells := ((B1.keep (S := fun _ => False) (Mod.of_below b2) id).keep (S := fun _ => False) (Mod.of_below b3) id).keep (S := fun _ => False) (Mod.of_below b4) id
    have K2 : Blk w4 w1.heap.size 26 b.cells := (B2.keep (S := fun _ => False) (Mod.of_below b3) id).keep (S := fun _ => False) (Mod.of_below b4) id
    have K3 : Blk w4 w2.heap.size 26 Dcl.zero.cells := B3.keep (S := fun _ => False) (Mod.of_below b4) id
    have b03 := below_seq (below_seq b1 b2) b3
    clear b1 B1 b2 B2 b3 B3
    go_wp2_with (refine stD rfl (.tmp 4) (.tmp 16) rfl rfl _ rfl .zero rfl .zero K3 ?_; intro w7 m7 B7)
    exact bodyPost_ret (v := .tuple #[.agg Dcl.zero.cells, .int .i64 60]) (res_row_val rfl _ _ _ 26 _ _ rfl B7 _ rfl uD rfl iD) rfl ⟨rfl, (below_seq b03 b4).trans (m7.below (below_seq b03 b4).size (fun k hk => by rw [hk]; exact hg3))⟩
end Go.Proofs.Ythdihhfbkfenmaa
