/- Contracts of class.All and of the document's Same. Condition: at most 100000 numbers. -/
import Derived.Test.YtgmdechhghbmpaaDoorCOf
import Derived.Laws.MakeOwn
namespace Go.Proofs.YtgmdechhghbmpaaDoor
open Go.ChangeShapes Go.WideShapes Go.ChangeAt Go.RowKit

theorem run_make_rowN {P : Program} (t e : TypeId) (i : TypeInfo) (z : Value) (ht : P.underlying t = some (.slice e)) (hi : P.info? e = some i) (hz : i.zero = some z)
    (kl kc : IntKind) (n c : Nat) (hnc : n ≤ c) (hbytes : i.bytes * c ≤ 281474976710656) (h63 : c ≤ 9223372036854775807) (w : World) :
    (Instr.makeSlice t (.int kl (n : Int)) (.int kc (c : Int))).run P w = .ok (.slice (some ⟨w.heap.size, 0, none⟩) n c) (w.alloc (.cells (madeCells z.cells (c * i.size)) e)) := by
  have hb : (i.bytes : Int) * (c : Int) ≤ 281474976710656 := by
    have h : ((i.bytes * c : Nat) : Int) ≤ 281474976710656 := by omega
    rwa [Int.natCast_mul] at h
  have hr := run_make (P := P) w t e i z ht hi hz kl kc n c (by omega) (by omega) hb (by omega)
  simp only [Int.toNat_natCast] at hr
  exact hr

theorem info8 : (Tryd.prog.info? 5).map (fun i => (i.zero, i.size, i.bytes)) = some (some (.int .u8 0), 1, 1) := by kernel_rfl
/-- n bytes of zero -/
def zeros8 (n : Nat) : Array Value := madeCells #[.int .u8 0] n
theorem zeros8_size (n : Nat) : (zeros8 n).size = n := by simp [zeros8, madeCells]
theorem mk8 (n : Nat) (hn : n ≤ 100000) (w : World) :
    (Instr.makeSlice 26 (.int .i64 (n : Int)) (.int .i64 (n : Int))).run Tryd.prog w = .ok (.slice (some ⟨w.heap.size, 0, none⟩) n n) (w.alloc (.cells (zeros8 n) 5)) := by
  obtain ⟨i0, hi, hz0, hz1, hz2⟩ := info_parts info8
  have := run_make_rowN (P := Tryd.prog) 26 5 i0 (.int .u8 0) Tryd.underlying26 hi hz0 .i64 .i64 n n (Nat.le_refl _) (by rw [hz2]; omega) (by omega) w
  rw [hz1, Nat.mul_one] at this
  exact this

/-- the block holds the classes of the first k numbers -/
def Clss (zs : List Int) (k : Nat) (cs : Array Value) : Prop := cs.size = zs.length ∧ ∀ j z, j < k → zs[j]? = some z → cs[j]? = some (.int .u8 (clsOf z))
theorem Clss.zero (zs : List Int) : Clss zs 0 (zeros8 zs.length) := ⟨zeros8_size _, fun j z hj => by omega⟩
theorem Clss.step {zs : List Int} {k : Nat} {cs : Array Value} (h : Clss zs k cs) {z : Int} (hz : zs[k]? = some z) : Clss zs (k + 1) (cs.setIfInBounds k (.int .u8 (clsOf z))) := by
  have hk : k < cs.size := by rw [h.1]; exact (List.getElem?_eq_some_iff.1 hz).1
  refine ⟨by simpa using h.1, fun j y hj hy => ?_⟩
  by_cases e : j = k
  · subst e
    rw [hz] at hy
    cases hy
    simp [hk]
  · rw [Array.getElem?_setIfInBounds_ne (fun h => e h.symm)]
    exact h.2 j y (by omega) hy

set_option maxRecDepth 100000 in
set_option maxHeartbeats 4000000 in
theorem call_any (v : Value) (n : Nat) (zs : List Int) (w : World) (hn : zs.length = n) (hm : n ≤ 100000) (hR : Row (fun _ => False) w v (zs.map (Value.int .i32))) :
    Calls Tryd.prog 13 #[v] w fun e w' => ∃ G cs, e = .returned (.slice (some ⟨G, 0, none⟩) n n) ∧ w.heap.size ≤ G ∧ Blk w' G 5 cs ∧ Clss zs n cs ∧ Below w.heap.size w w' := by
  have HM := Lib.hid (mk8 n hm)
  have HN := Lib.hid hn
  have HRw := Lib.hid hR
  obtain ⟨A, cap, rfl⟩ := hR.form
  rw [List.length_map, hn] at HRw ⊢
  clear hn hR
  go_enter Tryd.func13, Tryd.ntmps13
  go_wp2_with fail
  refine (rows_any _).mono ?_
  rintro e w1 ⟨rfl, b1⟩
  rename_i Q K1 h1 K2 h2
  refine h2 _ _ ?_
  clear h2 K2
  refine Go.Great.wpList_allocTo rfl (some 3) rfl (.pointer (some ⟨w1.heap.size, 0, none⟩)) (.cells tzero 34) (by kernel_rfl) ?_
  refine wpList_store_row rfl 34 (.tmp 3) (.tmp 7) rfl w1.heap.size tcells rfl rfl 34 tzero (heap_alloc_new w1 _) (by kernel_rfl) (by kernel_rfl) (by kernel_rfl) ?_
  obtain ⟨t2, b2⟩ := stored w1
  generalize (w1.alloc (.cells tzero 34)).setRow w1.heap.size tcells = w2 at *
  have b12 := below_seq b1 b2
  have l2 : w1.heap.size < w2.heap.size := t2.lt
  have l1 := b1.size
  refine wpList_nil ?_
  refine h1 _ _ ?_
  clear h1 K1 b1 b2
  have hmk := HM.out
  go_wp2_with fail
  clear hmk
  go_loopg [13] n (fun kx s13 wr => ∃ (k : Nat) (cs : Array Value), s13 = .int .i64 k ∧ k ≤ n ∧ kx = n - k ∧ Below w.heap.size w wr ∧ w2.heap.size < wr.heap.size ∧ TabAt wr w1.heap.size ∧ Blk wr w2.heap.size 5 cs ∧ Hid (Clss zs k cs))
  case atStart => exact ⟨0, zeros8 n, rfl, by omega, by omega, below_seq b12 (below_alloc _ _), by simp, t2.below (below_alloc _ _), Blk.new _ _ _, by rw [← HN.out]; exact Clss.zero zs⟩
  case round =>
    obtain ⟨k, cs, rfl, hk, rfl, bel, hsz, hT, hG, HK⟩ := hrel
    by_cases hlt : k < n
    · have hkl : k < zs.length := by rw [HN.out]; exact hlt
      obtain ⟨z, hz⟩ : ∃ z, zs[k]? = some z := ⟨zs[k], List.getElem?_eq_getElem hkl⟩
      have HZ := Lib.hid hz
      obtain ⟨a, cap2, hv, hab, _, hcell⟩ := HRw.out.at_ (by simp; omega)
      obtain rfl : A = some a := by injection hv
      have hcz : wr.cell? (a.add k) = some (.int .i32 z) := (bel.cell (p := a.add k) (by rw [block_of_add]; exact hab)).trans (hcell k _ (by rw [List.getElem?_map, hz]; rfl))
      have hcs : k < cs.size := by rw [HK.out.1]; exact hkl
      have hold : cs[k]? = some cs[k] := Array.getElem?_eq_getElem hcs
      generalize cs[k] = old at hold
      have HO := Lib.hid hold
      have hkz : (k : Int) < n := by omega
      clear hv hcell hz hold hcs hkl
      go_wp2_with fail
      refine (cclass_any _ z _ hT).mono ?_
      rintro e w4 ⟨rfl, b4⟩
      have hG4 := hG.keep (S := fun _ => False) (Mod.of_below b4) id
      have c4 := (hG4.cell k).trans HO.out
      have f4 := hG4.frozen k
      have hs4 := b4.size
      have bel4 := bel.trans (b4.mono bel.size)
      have hT4 := hT.below b4
      go_wp2_with fail
      go_roundg (n - (k + 1))
      case measure => omega
      case rel => exact ⟨k + 1, cs.setIfInBounds k (.int .u8 (clsOf z)), by go_num, by omega, rfl, bel4.setCell (by show w.heap.size ≤ w2.heap.size; omega) _, by simp [World.setCell]; omega, Blk.keep (S := fun j => j = w2.heap.size) hT4 (Mod.setCell (S := fun j => j = w2.heap.size) (Mod.refl _ _) (p := ⟨w2.heap.size, k, none⟩) (.inl rfl) _) (by omega), hG4.set_ k _, HK.out.step HZ.out⟩
    · have hkn : k = n := by omega
      subst hkn
      go_wp2_with fail
      go_ret
      exact ⟨_, cs, rfl, by omega, hG, HK.out, bel⟩

set_option maxRecDepth 100000 in
set_option maxHeartbeats 2000000 in
theorem csame_true (G1 G2 n c1 c2 : Nat) (w : World) (hn : n ≤ 100000) (h : ∀ j, j < n → ∃ x : Int, w.cell? ⟨G1, j, none⟩ = some (.int .u8 x) ∧ w.cell? ⟨G2, j, none⟩ = some (.int .u8 x)) :
    Calls Tryd.prog 23 #[.slice (some ⟨G1, 0, none⟩) n c1, .slice (some ⟨G2, 0, none⟩) n c2] w fun e w' => e = .returned (.bool true) ∧ Below w.heap.size w w' := by
  have H := Lib.hid h
  clear h
  go_enter Tryd.func23, Tryd.ntmps23
  go_wp2_with fail
  go_loopg [5] n (fun kx i wr => ∃ (k m : Nat), i = .int .i64 k ∧ k ≤ n ∧ kx = n - k ∧ wr = w.drewN m)
  case atStart => exact ⟨0, 0, rfl, by omega, by omega, rfl⟩
  case round =>
    obtain ⟨k, m, rfl, hk, rfl, rfl⟩ := hrel
    by_cases hlt : k < n
    · obtain ⟨x, h1, h2⟩ := H.out k hlt
      have hkz : (k : Int) < n := by omega
      go_wp2_with fail
      go_quiet (fail)
      go_wp2_with fail
      go_roundg (n - (k + 1))
      case measure => omega
      case rel => exact ⟨k + 1, _, by go_num, by omega, rfl, rfl⟩
    · have hkn : k = n := by omega
      subst hkn
      go_wp2_with fail
      go_ret
      exact ⟨rfl, below_drewN (Below.refl _ _) _⟩
end Go.Proofs.YtgmdechhghbmpaaDoor
