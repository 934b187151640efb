/- Contracts of arena's allowed and checkLength. Conditions: the node's kind is one of those that there are; the tables lie as the program's text lays them. -/
import Derived.Test.YtgpobhnonjdamaaDoorAr6
import Derived.Deep.CutBlock
namespace Go.Proofs.YtgpobhnonjdamaaDoor
open Go.ChangeShapes Go.WideShapes Go.ChangeAt Go.RowKit

def st1 (x : Nod) (b : Bool) : Nod := { x with t := if b then x.t else ByteArray.empty }
def st2 (x : Nod) (b : Bool) : Nod := { x with st := if b then x.st else 0, en := if b then x.en else 0 }
def st3 (x : Nod) (b : Bool) : Nod := { x with tp := if b then x.tp else 0, bt := if b then x.bt else 0, wd := if b then x.wd else 0 }
def st4 (x : Nod) (b : Bool) : Nod := { x with gr := if b then x.gr else 0, sh := if b then x.sh else 0 }
def st5 (x : Nod) (b : Bool) : Nod := { x with vk := if b then x.vk else 0, vn := if b then x.vn else 0 }
def st6 (x : Nod) (b : Bool) : Nod := { x with vn := if b then x.vn else 0 }
theorem alw_st (x : Nod) (item : Bool) : st6 (st5 (st4 (st3 (st2 (st1 x (tb tText x.k)) (tb tEdges x.k)) (tb tSize x.k)) item) (tb tValign x.k)) ((if tb tValign x.k then x.vk else 0) == 6 || (if tb tValign x.k then x.vk else 0) == 7) = alw x item := by
  cases h : tb tValign x.k <;> simp [st1, st2, st3, st4, st5, st6, alw, h]

set_option maxRecDepth 100000 in
set_option maxHeartbeats 4000000 in
theorem aallow_any (x : Nod) (item : Bool) (w : World) (hTab : Tab w) (h0 : 0 ≤ x.k) (h8 : x.k ≤ 8) :
    Calls Tryd.prog 70 #[.agg x.cells, .bool item] w fun e w' => e = .returned (.agg (alw x item).cells) ∧ Below w.heap.size w w' := by
  rw [← alw_st]
  have hTp := hTab.pos
  obtain ⟨kk, hkk⟩ : ∃ kk : Nat, x.k = kk := ⟨x.k.toNat, by omega⟩
  have hk8 : kk ≤ 8 := by omega
  have HK := Lib.hid hkk
  have t3 := hTab.text.cell rfl hk8
  have t4 := hTab.edges.cell rfl hk8
  have t5 := hTab.size.cell rfl hk8
  have t6 := hTab.valign.cell rfl hk8
  rw [← hkk] at t3 t4 t5 t6
  obtain ⟨b1, hb1⟩ : ∃ b, tb tText x.k = b := ⟨_, rfl⟩
  obtain ⟨b2, hb2⟩ : ∃ b, tb tEdges x.k = b := ⟨_, rfl⟩
  obtain ⟨b3, hb3⟩ : ∃ b, tb tSize x.k = b := ⟨_, rfl⟩
  obtain ⟨b5, hb5⟩ : ∃ b, tb tValign x.k = b := ⟨_, rfl⟩
  rw [hb1] at t3 ⊢
  rw [hb2] at t4 ⊢
  rw [hb3] at t5 ⊢
  rw [hb5] at t6 ⊢
  obtain ⟨vk, hvk⟩ : ∃ v, (if b5 = true then x.vk else 0) = v := ⟨_, rfl⟩
  rw [hvk]
  have HVK := Lib.hid hvk
  clear hvk
  have T3 := Lib.hid t3
  have T4 := Lib.hid t4
  have T5 := Lib.hid t5
  have T6 := Lib.hid t6
  have hkz : (kk : Int) < 9 := by omega
  clear hb1 hb2 hb3 hb5 hkk h0 h8 hTab t3 t4 t5 t6
  go_enter Tryd.func70, Tryd.ntmps70
  go_upto_if 9 with (first
    | (refine bxNV rfl (.tmp 0) rfl x rfl ?_; intro w1 bb1 B1; have hl1 : w1.heap.size = w1.heap.size := rfl)
    | (refine alNV rfl rfl ?_; intro w2 bb2 B2; have bel2 := below_seq bb1 bb2; have A2 := B1.keep (S := fun _ => False) (Mod.of_below bb2) id; have c0 : w2.cell? ⟨w.heap.size, 0, none⟩ = some (.int .u8 (kk : Int)) := (A2.cell 0).trans (by show some (Value.int .u8 x.k) = _; rw [HK.out]); have ct : w2.cell? ⟨3, kk, none⟩ = some (.bool b1) := (bel2.cell (p := ⟨3, kk, none⟩) (by show 3 < w.heap.size; omega)).trans T3.out))
  have hG : w.heap.size < w1.heap.size := B1.lt
  obtain ⟨G, hGG⟩ : ∃ G, w1.heap.size = G := ⟨_, rfl⟩
  rw [hGG] at hG B2 ⊢
  clear hGG B1 bb1 bb2
  go_cut [] (fun wx => Below w.heap.size w wx ∧ Blk wx w.heap.size 37 (st1 x b1).cells ∧ Blk wx G 37 Nod.zero.cells)
  case first =>
    have HA := Lib.hid A2
    cases b1
    · have hl := A2.lt
      have f2 : w2.frozen? ⟨w.heap.size, 2, none⟩ = false := A2.frozen 2
      have c2 := A2.cell 2
      have cc2 : w2.cell? ⟨w.heap.size, 2, none⟩ = some _ := c2
      clear A2
      have A2 := HA.out
      clear HA
      have HA := Lib.hid A2
      have HZ := Lib.hid B2
      have HBL := Lib.hid bel2
      clear A2 B2 bel2
      go_wp2_with fail
      go_meet
      case rel =>
        have A2 := HA.out
        have B2 := HZ.out
        have bel2 := HBL.out
        exact ⟨(bel2.setCell (p := ⟨w.heap.size, 2, none⟩) (Nat.le_refl _) _), blk_cast (A2.set_ 2 _) (by rfl), (Blk.keep (S := fun k => k = w.heap.size) B2 ((Mod.refl (fun k => k = w.heap.size) _).setCell (p := ⟨w.heap.size, 2, none⟩) (.inl rfl) _) (by omega))⟩
    · clear HA
      go_wp2_with fail
      go_meet
      case rel => exact ⟨bel2, A2, B2⟩
  case rest =>
  obtain ⟨bel3, A3, B3⟩ := hcut
  obtain ⟨w3, hwn⟩ : ∃ q, wc = q := ⟨_, rfl⟩
  rw [hwn] at bel3 A3 B3 ⊢
  clear hwn wc A2 B2 bel2
  have c0 : w3.cell? ⟨w.heap.size, 0, none⟩ = some (.int .u8 (kk : Int)) := (A3.cell 0).trans (by show some (Value.int .u8 x.k) = _; rw [HK.out])
  have ct : w3.cell? ⟨4, kk, none⟩ = some (.bool b2) := (bel3.cell (p := ⟨4, kk, none⟩) (by show 4 < w.heap.size; omega)).trans T4.out
  go_upto_if 15 with fail
  go_cut [] (fun wx => Below w.heap.size w wx ∧ Blk wx w.heap.size 37 (st2 (st1 x b1) b2).cells ∧ Blk wx G 37 Nod.zero.cells)
  case first =>
    have HA := Lib.hid A3
    cases b2
    · have hl := A3.lt
      have f15 : w3.frozen? ⟨w.heap.size, 15, none⟩ = false := A3.frozen 15
      have c15 := A3.cell 15
      have cc15 : w3.cell? ⟨w.heap.size, 15, none⟩ = some _ := c15
      have f16 : w3.frozen? ⟨w.heap.size, 16, none⟩ = false := A3.frozen 16
      have c16 := A3.cell 16
      have cc16 : w3.cell? ⟨w.heap.size, 16, none⟩ = some _ := c16
      clear A3
      have A3 := HA.out
      clear HA
      have HA := Lib.hid A3
      have HZ := Lib.hid B3
      have HBL := Lib.hid bel3
      clear A3 B3 bel3
      go_wp2_with fail
      go_meet
      case rel =>
        have A3 := HA.out
        have B3 := HZ.out
        have bel3 := HBL.out
        exact ⟨((bel3.setCell (p := ⟨w.heap.size, 15, none⟩) (Nat.le_refl _) _).setCell (p := ⟨w.heap.size, 16, none⟩) (Nat.le_refl _) _), blk_cast ((A3.set_ 15 _).set_ 16 _) (by rfl), (Blk.keep (S := fun k => k = w.heap.size) (Blk.keep (S := fun k => k = w.heap.size) B3 ((Mod.refl (fun k => k = w.heap.size) _).setCell (p := ⟨w.heap.size, 15, none⟩) (.inl rfl) _) (by omega)) ((Mod.refl (fun k => k = w.heap.size) _).setCell (p := ⟨w.heap.size, 16, none⟩) (.inl rfl) _) (by omega))⟩
    · clear HA
      go_wp2_with fail
      go_meet
      case rel => exact ⟨bel3, A3, B3⟩
  case rest =>
  obtain ⟨bel4, A4, B4⟩ := hcut
  obtain ⟨w4, hwn⟩ : ∃ q, wc = q := ⟨_, rfl⟩
  rw [hwn] at bel4 A4 B4 ⊢
  clear hwn wc A3 B3 bel3
  have c0 : w4.cell? ⟨w.heap.size, 0, none⟩ = some (.int .u8 (kk : Int)) := (A4.cell 0).trans (by show some (Value.int .u8 x.k) = _; rw [HK.out])
  have ct : w4.cell? ⟨5, kk, none⟩ = some (.bool b3) := (bel4.cell (p := ⟨5, kk, none⟩) (by show 5 < w.heap.size; omega)).trans T5.out
  go_upto_if 22 with fail
  go_cut [] (fun wx => Below w.heap.size w wx ∧ Blk wx w.heap.size 37 (st3 (st2 (st1 x b1) b2) b3).cells ∧ Blk wx G 37 Nod.zero.cells)
  case first =>
    have HA := Lib.hid A4
    cases b3
    · have hl := A4.lt
      have f17 : w4.frozen? ⟨w.heap.size, 17, none⟩ = false := A4.frozen 17
      have c17 := A4.cell 17
      have cc17 : w4.cell? ⟨w.heap.size, 17, none⟩ = some _ := c17
      have f18 : w4.frozen? ⟨w.heap.size, 18, none⟩ = false := A4.frozen 18
      have c18 := A4.cell 18
      have cc18 : w4.cell? ⟨w.heap.size, 18, none⟩ = some _ := c18
      have f19 : w4.frozen? ⟨w.heap.size, 19, none⟩ = false := A4.frozen 19
      have c19 := A4.cell 19
      have cc19 : w4.cell? ⟨w.heap.size, 19, none⟩ = some _ := c19
      clear A4
      have A4 := HA.out
      clear HA
      have HA := Lib.hid A4
      have HZ := Lib.hid B4
      have HBL := Lib.hid bel4
      clear A4 B4 bel4
      go_wp2_with fail
      go_meet
      case rel =>
        have A4 := HA.out
        have B4 := HZ.out
        have bel4 := HBL.out
        exact ⟨(((bel4.setCell (p := ⟨w.heap.size, 17, none⟩) (Nat.le_refl _) _).setCell (p := ⟨w.heap.size, 18, none⟩) (Nat.le_refl _) _).setCell (p := ⟨w.heap.size, 19, none⟩) (Nat.le_refl _) _), blk_cast (((A4.set_ 17 _).set_ 18 _).set_ 19 _) (by rfl), (Blk.keep (S := fun k => k = w.heap.size) (Blk.keep (S := fun k => k = w.heap.size) (Blk.keep (S := fun k => k = w.heap.size) B4 ((Mod.refl (fun k => k = w.heap.size) _).setCell (p := ⟨w.heap.size, 17, none⟩) (.inl rfl) _) (by omega)) ((Mod.refl (fun k => k = w.heap.size) _).setCell (p := ⟨w.heap.size, 18, none⟩) (.inl rfl) _) (by omega)) ((Mod.refl (fun k => k = w.heap.size) _).setCell (p := ⟨w.heap.size, 19, none⟩) (.inl rfl) _) (by omega))⟩
    · clear HA
      go_wp2_with fail
      go_meet
      case rel => exact ⟨bel4, A4, B4⟩
  case rest =>
  obtain ⟨bel5, A5, B5⟩ := hcut
  obtain ⟨w5, hwn⟩ : ∃ q, wc = q := ⟨_, rfl⟩
  rw [hwn] at bel5 A5 B5 ⊢
  clear hwn wc A4 B4 bel4
  go_upto_if 27 with fail
  go_cut [] (fun wx => Below w.heap.size w wx ∧ Blk wx w.heap.size 37 (st4 (st3 (st2 (st1 x b1) b2) b3) item).cells ∧ Blk wx G 37 Nod.zero.cells)
  case first =>
    have HA := Lib.hid A5
    cases item
    · have hl := A5.lt
      have f20 : w5.frozen? ⟨w.heap.size, 20, none⟩ = false := A5.frozen 20
      have c20 := A5.cell 20
      have cc20 : w5.cell? ⟨w.heap.size, 20, none⟩ = some _ := c20
      have f21 : w5.frozen? ⟨w.heap.size, 21, none⟩ = false := A5.frozen 21
      have c21 := A5.cell 21
      have cc21 : w5.cell? ⟨w.heap.size, 21, none⟩ = some _ := c21
      clear A5
      have A5 := HA.out
      clear HA
      have HA := Lib.hid A5
      have HZ := Lib.hid B5
      have HBL := Lib.hid bel5
      clear A5 B5 bel5
      go_wp2_with fail
      go_meet
      case rel =>
        have A5 := HA.out
        have B5 := HZ.out
        have bel5 := HBL.out
        exact ⟨((bel5.setCell (p := ⟨w.heap.size, 20, none⟩) (Nat.le_refl _) _).setCell (p := ⟨w.heap.size, 21, none⟩) (Nat.le_refl _) _), blk_cast ((A5.set_ 20 _).set_ 21 _) (by rfl), (Blk.keep (S := fun k => k = w.heap.size) (Blk.keep (S := fun k => k = w.heap.size) B5 ((Mod.refl (fun k => k = w.heap.size) _).setCell (p := ⟨w.heap.size, 20, none⟩) (.inl rfl) _) (by omega)) ((Mod.refl (fun k => k = w.heap.size) _).setCell (p := ⟨w.heap.size, 21, none⟩) (.inl rfl) _) (by omega))⟩
    · clear HA
      go_wp2_with fail
      go_meet
      case rel => exact ⟨bel5, A5, B5⟩
  case rest =>
  obtain ⟨bel6, A6, B6⟩ := hcut
  obtain ⟨w6, hwn⟩ : ∃ q, wc = q := ⟨_, rfl⟩
  rw [hwn] at bel6 A6 B6 ⊢
  clear hwn wc A5 B5 bel5
  have c0 : w6.cell? ⟨w.heap.size, 0, none⟩ = some (.int .u8 (kk : Int)) := (A6.cell 0).trans (by show some (Value.int .u8 x.k) = _; rw [HK.out])
  have ct : w6.cell? ⟨6, kk, none⟩ = some (.bool b5) := (bel6.cell (p := ⟨6, kk, none⟩) (by show 6 < w.heap.size; omega)).trans T6.out
  go_upto_if 34 with fail
  go_cut [] (fun wx => Below w.heap.size w wx ∧ Blk wx w.heap.size 37 (st5 (st4 (st3 (st2 (st1 x b1) b2) b3) item) b5).cells ∧ Blk wx G 37 Nod.zero.cells)
  case first =>
    have HA := Lib.hid A6
    cases b5
    · have hl := A6.lt
      have f13 : w6.frozen? ⟨w.heap.size, 13, none⟩ = false := A6.frozen 13
      have c13 := A6.cell 13
      have cc13 : w6.cell? ⟨w.heap.size, 13, none⟩ = some _ := c13
      have f14 : w6.frozen? ⟨w.heap.size, 14, none⟩ = false := A6.frozen 14
      have c14 := A6.cell 14
      have cc14 : w6.cell? ⟨w.heap.size, 14, none⟩ = some _ := c14
      clear A6
      have A6 := HA.out
      clear HA
      have HA := Lib.hid A6
      have HZ := Lib.hid B6
      have HBL := Lib.hid bel6
      clear A6 B6 bel6
      have bdv : ∀ w : World, (Instr.build 35 #[]).run Tryd.prog w = .ok (.agg #[.int .u8 0, .int .i64 0]) w := fun _ => by kernel_rfl
      go_wp2_with (refine wpList_storeO rfl 35 (.tmp 36) (.tmp 35) rfl rfl w.heap.size 13 rfl #[.int .u8 0, .int .i64 0] rfl 37 _ HA.out (by kernel_rfl) (by show 13 + 2 ≤ 22; omega) (by kernel_rfl) ?_; intro wv mv Bv)
      go_meet
      case rel =>
        exact ⟨HBL.out.trans (mv.below HBL.out.size (fun k hk => by omega)), blk_cast Bv (by rfl), HZ.out.keep mv (by omega)⟩
    · clear HA
      go_wp2_with fail
      go_meet
      case rel => exact ⟨bel6, A6, B6⟩
  case rest =>
  obtain ⟨bel7, A7, B7⟩ := hcut
  obtain ⟨w7, hwn⟩ : ∃ q, wc = q := ⟨_, rfl⟩
  rw [hwn] at bel7 A7 B7 ⊢
  clear hwn wc A6 B6 bel6
  have c13 : w7.cell? ⟨w.heap.size, 13, none⟩ = some (.int .u8 vk) := (A7.cell 13).trans (by show some (Value.int .u8 (if b5 = true then x.vk else 0)) = _; rw [HVK.out])
  have c14 := A7.cell 14
  have cc14 : w7.cell? ⟨w.heap.size, 14, none⟩ = some _ := c14
  have f14 : w7.frozen? ⟨w.heap.size, 14, none⟩ = false := A7.frozen 14
  have HA := Lib.hid A7
  have HZ := Lib.hid B7
  have HBL := Lib.hid bel7
  clear A7 B7 bel7
  by_cases h6 : vk = 6
  · subst h6
    go_wp2_with (first
      | (refine ldN rfl (.tmp 2) rfl _ rfl (st5 (st4 (st3 (st2 (st1 x b1) b2) b3) item) b5) HA.out.lies ?_)
      | (refine stN rfl (.tmp 4) (.tmp 49) rfl rfl _ rfl (st5 (st4 (st3 (st2 (st1 x b1) b2) b3) item) b5) rfl .zero HZ.out ?_; intro w9 m9 B9))
    (try simp only [Exit.inBlock, Exit.then])
    refine ⟨rfl, _, res_row rfl _ _ G 37 _ _ rfl B9 uN rfl iN, rfl, HBL.out.trans (m9.below HBL.out.size fun k hk => by omega)⟩
  · by_cases h7 : vk = 7
    · subst h7
      go_wp2_with (first
        | (refine ldN rfl (.tmp 2) rfl _ rfl (st5 (st4 (st3 (st2 (st1 x b1) b2) b3) item) b5) HA.out.lies ?_)
        | (refine stN rfl (.tmp 4) (.tmp 49) rfl rfl _ rfl (st5 (st4 (st3 (st2 (st1 x b1) b2) b3) item) b5) rfl .zero HZ.out ?_; intro w9 m9 B9))
      (try simp only [Exit.inBlock, Exit.then])
      refine ⟨rfl, _, res_row rfl _ _ G 37 _ _ rfl B9 uN rfl iN, rfl, HBL.out.trans (m9.below HBL.out.size fun k hk => by omega)⟩
    · have e : (vk == 6 || vk == 7) = false := by simp [h6, h7]
      have hl := HA.out.lt
      have HE := Lib.hid e
      have h6b : (vk == 6) = false := by simp [h6]
      have h7b : (vk == 7) = false := by simp [h7]
      have h6c : (vk != 6) = true := by simp [h6]
      have h7c : (vk != 7) = true := by simp [h7]
      clear e
      go_upto_if 46 with fail
      go_wp2_with (first
        | (refine ldN rfl (.tmp 2) rfl _ rfl (st6 (st5 (st4 (st3 (st2 (st1 x b1) b2) b3) item) b5) false) (Blk.lies (blk_cast (HA.out.set_ 14 _) (by rfl))) ?_)
        | (refine stN rfl (.tmp 4) (.tmp 49) rfl rfl _ rfl (st6 (st5 (st4 (st3 (st2 (st1 x b1) b2) b3) item) b5) false) rfl .zero (Blk.keep (S := fun k => k = w.heap.size) HZ.out ((Mod.refl (fun k => k = w.heap.size) _).setCell (p := ⟨w.heap.size, 14, none⟩) (.inl rfl) _) (by omega)) ?_; intro w9 m9 B9))
      (try simp only [Exit.inBlock, Exit.then])
      refine ⟨rfl, _, res_row rfl _ _ G 37 _ _ rfl B9 uN rfl iN, (by rw [HE.out]), (HBL.out.setCell (p := ⟨w.heap.size, 14, none⟩) (Nat.le_refl _) _).trans (m9.below (by simp; have := HBL.out.size; omega) fun k hk => by omega)⟩
end Go.Proofs.YtgpobhnonjdamaaDoor
