/- Contract of pair's place.next. No conditions. -/
import Derived.Test.YtijdippkkaigjaaPr3
namespace Go.Proofs.Ytijdippkkaigjaa
open Go.ChangeShapes Go.WideShapes Go.ChangeAt Go.RowKit

theorem Blk.set_other {w : World} {g : Nat} {t : TypeId} {cs : Array Value} (h : Blk w g t cs) {p : Addr} (hp : g ≠ p.block) (v : Value) : Blk (w.setCell p v) g t cs :=
  h.keep (S := fun k => k = p.block) (Mod.setCell (S := fun k => k = p.block) (Mod.refl _ _) (.inl rfl) v) hp
theorem blk_cast {w : World} {g : Nat} {t : TypeId} {cs cs' : Array Value} (h : Blk w g t cs) (e : cs = cs') : Blk w g t cs' := e ▸ h
def nxP (p : Plc) (c : Int) : Plc := ⟨p.b, (cntI c p.b).1, if p.b = 5 then p.o else p.b, (cntI c p.b).2⟩

set_option maxRecDepth 100000 in
set_option maxHeartbeats 4000000 in
theorem pnext_any (p : Plc) (c : Int) (w : World) :
    Calls Try.prog 57 #[.agg (plC p), .int .u8 c] w fun e w' => e = .returned (.agg (plC (nxP p c))) ∧ Below w.heap.size w w' := by
  obtain ⟨a, b, o, cl⟩ := p
  have C : Hid (∀ w, Calls Try.prog 59 #[.int .u8 c, .int .u8 b] w fun e w' => e = .returned (.tuple #[.int .u8 (cntI c b).1, .bool (cntI c b).2]) ∧ w' = w) := Lib.hid fun w => pcounts_any c b w
  obtain ⟨d, hd⟩ : ∃ d, cntI c b = d := ⟨_, rfl⟩
  obtain ⟨d1, d2⟩ := d
  have e : nxP ⟨a, b, o, cl⟩ c = ⟨b, d1, if b = 5 then o else b, d2⟩ := by unfold nxP; rw [hd]
  rw [e]
  rw [hd] at C
  clear hd e
  go_enter Try.func57, Try.ntmps57
  go_wp2_with (first
    | (refine bxPV rfl (.tmp 0) rfl ⟨a, b, o, cl⟩ rfl ?_; intro w1 b1 B1)
    | (refine alPV rfl rfl ?_; intro w2 b2 B2; refine Mk.out ?_))
  constructor
  have B1' := B1.keep (S := fun _ => False) (Mod.of_below b2) id
  have c1 : w2.cell? ⟨w.heap.size, 1, none⟩ = some (.int .u8 b) := B1'.cell 1
  go_wp2_with (refine nwP (o1 := ⟨some 5, _, _, _, _, _⟩) rfl rfl 5 rfl rfl (.tmp 10) rfl rfl ⟨b, 0, b, false⟩ (fun _ => rfl) (fun _ => rfl) ?_; intro w3 b3 B3; refine Mk.out ?_)
  constructor
  have B1'' := B1'.keep (S := fun _ => False) (Mod.of_below b3) id
  have B2' := B2.keep (S := fun _ => False) (Mod.of_below b3) id
  have l1 := b1.size
  have l2 := B2.lt
  have l2' := b2.size
  have l3 := B3.lt
  have b03 := below_seq b1 (below_seq b2 b3)
  clear c1 B1 B2 B1'
  have c1 : w3.cell? ⟨w.heap.size, 1, none⟩ = some (.int .u8 b) := B1''.cell 1
  have c2 : w3.cell? ⟨w.heap.size, 2, none⟩ = some (.int .u8 o) := B1''.cell 2
  by_cases h5 : b = 5
  · subst h5
    have n2 : w3.cell? ⟨w2.heap.size, 2, none⟩ = some (.int .u8 5) := B3.cell 2
    have f2 := B3.frozen 2
    go_wp2_with fail
    have B4 := blk_cast (B3.set_ 2 (.int .u8 o)) (show _ = plC ⟨5, 0, o, false⟩ from rfl)
    have B5 := B2'.set_other (p := ⟨w2.heap.size, 2, none⟩) (by show w1.heap.size ≠ w2.heap.size; omega) (.int .u8 o)
    have b4 : Below w.heap.size w (w3.setCell ⟨w2.heap.size, 2, none⟩ (.int .u8 o)) := b03.setCell (by show w.heap.size ≤ w2.heap.size; omega) _
    have B6 := B1''.set_other (p := ⟨w2.heap.size, 2, none⟩) (by show w.heap.size ≠ w2.heap.size; omega) (.int .u8 o)
    obtain ⟨w4, hw4⟩ : ∃ w4, w3.setCell ⟨w2.heap.size, 2, none⟩ (.int .u8 o) = w4 := ⟨_, rfl⟩
    rw [hw4] at B4 B5 B6 b4 ⊢
    clear hw4
    have c1' : w4.cell? ⟨w.heap.size, 1, none⟩ = some (.int .u8 5) := B6.cell 1
    clear c1 c2 n2 f2
    have n1 : w4.cell? ⟨w2.heap.size, 1, none⟩ = some (.int .u8 0) := B4.cell 1
    have f1 := B4.frozen 1
    go_wp2_with fail
    refine (C.out _).mono ?_
    rintro e w5 ⟨rfl, rfl⟩
    clear C
    have n3 : (w5.setCell ⟨w2.heap.size, 1, none⟩ (.int .u8 d1)).cell? ⟨w2.heap.size, 3, none⟩ = some (.bool false) := (B4.set_ 1 (.int .u8 d1)).cell 3
    have f3 := (B4.set_ 1 (.int .u8 d1)).frozen 3
    have B7 := blk_cast ((B4.set_ 1 (.int .u8 d1)).set_ 3 (.bool d2)) (show _ = plC ⟨5, d1, o, d2⟩ from rfl)
    have B8 := (B5.set_other (p := ⟨w2.heap.size, 1, none⟩) (by show w1.heap.size ≠ w2.heap.size; omega) (.int .u8 d1)).set_other (p := ⟨w2.heap.size, 3, none⟩) (by show w1.heap.size ≠ w2.heap.size; omega) (.bool d2)
    have b7 := (b4.setCell (p := ⟨w2.heap.size, 1, none⟩) (by show w.heap.size ≤ w2.heap.size; omega) (.int .u8 d1)).setCell (p := ⟨w2.heap.size, 3, none⟩) (by show w.heap.size ≤ w2.heap.size; omega) (.bool d2)
    go_wp2_with (refine ldP (o := ⟨some 26, _, _, _, _, _⟩) rfl (.tmp 5) rfl _ rfl ⟨5, d1, o, d2⟩ B7.lies ?_; refine stP rfl (.tmp 4) (.tmp 26) rfl rfl _ rfl ⟨5, d1, o, d2⟩ rfl zPl B8 ?_; intro w6 m6 B9)
    refine bodyPost_ret (v := .agg (plC ⟨5, d1, o, d2⟩)) (res_row rfl _ _ w1.heap.size 57 _ _ rfl B9 uP rfl (iP _)) rfl ⟨?_, b7.trans (m6.below b7.size fun k hk => by omega)⟩
    rfl
  · obtain ⟨w4, hw4⟩ : ∃ w4, w3 = w4 := ⟨_, rfl⟩
    have B4 := B3
    have b4 := b03
    have B5 := B2'
    have c1' := c1
    rw [hw4] at B4 B5 b4 c1' ⊢
    clear hw4 c1 c2
    have n1 : w4.cell? ⟨w2.heap.size, 1, none⟩ = some (.int .u8 0) := B4.cell 1
    have f1 := B4.frozen 1
    go_wp2_with fail
    refine (C.out _).mono ?_
    rintro e w5 ⟨rfl, rfl⟩
    clear C
    have n3 : (w5.setCell ⟨w2.heap.size, 1, none⟩ (.int .u8 d1)).cell? ⟨w2.heap.size, 3, none⟩ = some (.bool false) := (B4.set_ 1 (.int .u8 d1)).cell 3
    have f3 := (B4.set_ 1 (.int .u8 d1)).frozen 3
    have B7 := blk_cast ((B4.set_ 1 (.int .u8 d1)).set_ 3 (.bool d2)) (show _ = plC ⟨b, d1, b, d2⟩ from rfl)
    have B8 := (B5.set_other (p := ⟨w2.heap.size, 1, none⟩) (by show w1.heap.size ≠ w2.heap.size; omega) (.int .u8 d1)).set_other (p := ⟨w2.heap.size, 3, none⟩) (by show w1.heap.size ≠ w2.heap.size; omega) (.bool d2)
    have b7 := (b4.setCell (p := ⟨w2.heap.size, 1, none⟩) (by show w.heap.size ≤ w2.heap.size; omega) (.int .u8 d1)).setCell (p := ⟨w2.heap.size, 3, none⟩) (by show w.heap.size ≤ w2.heap.size; omega) (.bool d2)
    go_wp2_with (refine ldP (o := ⟨some 26, _, _, _, _, _⟩) rfl (.tmp 5) rfl _ rfl ⟨b, d1, b, d2⟩ B7.lies ?_; refine stP rfl (.tmp 4) (.tmp 26) rfl rfl _ rfl ⟨b, d1, b, d2⟩ rfl zPl B8 ?_; intro w6 m6 B9)
    refine bodyPost_ret (v := .agg (plC ⟨b, d1, b, d2⟩)) (res_row rfl _ _ w1.heap.size 57 _ _ rfl B9 uP rfl (iP _)) rfl ⟨?_, b7.trans (m6.below b7.size fun k hk => by omega)⟩
    simp
end Go.Proofs.Ytijdippkkaigjaa
