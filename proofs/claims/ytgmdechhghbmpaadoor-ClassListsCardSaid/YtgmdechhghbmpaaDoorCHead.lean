/- Contract of the laws' helper 'head' of layer 4: it returns true. Condition: the package's table of wide ranges lies in memory as the program's text lays it. -/
import Derived.Test.YtgmdechhghbmpaaDoorCAll
import Derived.Test.YtgmdechhghbmpaaDoorCWide
import Derived.Test.YtgmdechhghbmpaaDoorCName
namespace Go.Proofs.YtgmdechhghbmpaaDoor
open Go.ChangeShapes Go.WideShapes Go.ChangeAt Go.RowKit

def hzs : List Int := [97, 32, 10, 45, 20013, 769, 12353, 12300, 12301, 65292, 65532, -1]
def hcs : List Int := [0, 5, 3, 13, 25, 9, 20, 14, 15, 15, 26, 0]
theorem hzs_cls : hzs.map clsOf = hcs := by decide +kernel
theorem row_new (w : World) (cs : Array Value) (t : TypeId) (n : Nat) (hn : cs.size = n) : Row (fun _ => False) (w.alloc (.cells cs t)) (.slice (some ⟨w.heap.size, 0, none⟩) n n) cs.toList := by
  refine .inr ⟨⟨w.heap.size, 0, none⟩, n, by simp [hn], .inr ⟨by simp, id⟩, fun j u hu => ?_⟩
  have e : (⟨w.heap.size, 0, none⟩ : Addr).add j = ⟨w.heap.size, j, none⟩ := by unfold Addr.add; split <;> simp_all
  rw [e, World.cell?_alloc_new]
  simpa using hu

set_option maxRecDepth 100000 in
set_option maxHeartbeats 2000000 in
theorem chead_any (w : World) (hT : Tab w) : Calls Tryd.prog 12 #[] w fun e w' => e = .returned (.bool true) ∧ Below w.heap.size w w' := by
  have P1 : Hid (∀ w0 : World, Calls Tryd.prog 13 #[.slice (some ⟨w0.heap.size, 0, none⟩) 12 12] (w0.alloc (.cells #[.int .i32 97, .int .i32 32, .int .i32 10, .int .i32 45, .int .i32 20013, .int .i32 769, .int .i32 12353, .int .i32 12300, .int .i32 12301, .int .i32 65292, .int .i32 65532, .int .i32 (-1)] 21)) fun e w' => ∃ G cs, e = .returned (.slice (some ⟨G, 0, none⟩) 12 12) ∧ Blk w' G 5 cs ∧ Hid (Clss hzs 12 cs) ∧ Below w0.heap.size w0 w') := fun w0 => by
    refine (call_any _ 12 hzs _ rfl (by omega) (row_new w0 _ 21 12 rfl)).mono ?_
    rintro e w' ⟨G, cs, rfl, _, h2, h3, h4⟩
    exact ⟨G, cs, rfl, h2, h3, below_seq (below_alloc _ _) h4⟩
  have P2 : Hid (∀ (G : Nat) (cs : Array Value) (w0 : World), Blk w0 G 5 cs → Hid (Clss hzs 12 cs) → Calls Tryd.prog 23 #[.slice (some ⟨G, 0, none⟩) 12 12, .slice (some ⟨w0.heap.size, 0, none⟩) 12 12] (w0.alloc (.cells #[.int .u8 0, .int .u8 5, .int .u8 3, .int .u8 13, .int .u8 25, .int .u8 9, .int .u8 20, .int .u8 14, .int .u8 15, .int .u8 15, .int .u8 26, .int .u8 0] 5)) fun e w' => e = .returned (.bool true) ∧ Below w0.heap.size w0 w') := fun G cs w0 hB hC => by
    refine (csame_true G w0.heap.size 12 12 12 _ (by omega) fun j hj => ?_).mono ?_
    · have hz : hzs[j]? = some (hzs[j]'(by show j < 12; omega)) := List.getElem?_eq_getElem _
      have h1 := hC.out.2 j _ hj hz
      have h2 : hcs[j]? = some (clsOf (hzs[j]'(by show j < 12; omega))) := by rw [← hzs_cls, List.getElem?_map, hz]; rfl
      refine ⟨_, ((hB.alloc _).cell j).trans h1, ?_⟩
      rw [World.cell?_alloc_new]
      have h3 : (#[.int .u8 0, .int .u8 5, .int .u8 3, .int .u8 13, .int .u8 25, .int .u8 9, .int .u8 20, .int .u8 14, .int .u8 15, .int .u8 15, .int .u8 26, .int .u8 0] : Array Value)[j]? = (hcs[j]?).map (Value.int .u8) := by
        rw [← List.getElem?_map, ← List.getElem?_toArray]
        rfl
      rw [h3, h2]
      rfl
    · rintro e w' ⟨rfl, b⟩
      exact ⟨rfl, below_seq (below_alloc _ _) b⟩
  have P3 : Hid (∀ w0, Tab w0 → Calls Tryd.prog 10 #[.int .i32 20013] w0 fun e w' => e = .returned (.bool true) ∧ Below w0.heap.size w0 w') := fun w0 h => cwide_is _ w0 h _ (by decide +kernel)
  have P4 : Hid (∀ w0, Tab w0 → Calls Tryd.prog 10 #[.int .i32 97] w0 fun e w' => e = .returned (.bool false) ∧ Below w0.heap.size w0 w') := fun w0 h => cwide_is _ w0 h _ (by decide +kernel)
  have P5 : Hid (∀ w0, Calls Tryd.prog 9 #[.int .i32 769] w0 fun e w' => e = .returned (.bool true) ∧ Below w0.heap.size w0 w') := fun w0 => cmark_any _ w0 _ (by decide +kernel)
  have P6 : Hid (∀ w0, Calls Tryd.prog 14 #[.int .u8 12] w0 fun e w' => e = .returned (.string ⟨#[66, 50]⟩) ∧ w0 = w') := fun w0 => cname_any 12 w0 (by omega)
  have P7 : Hid (∀ w0, Calls Tryd.prog 14 #[.int .u8 99] w0 fun e w' => e = .returned (.string ⟨#[]⟩) ∧ w0 = w') := fun w0 => cname_any 99 w0 (by omega)
  go_enter Tryd.func12, Tryd.ntmps12
  go_wp2_with fail
  refine (P1.out _).mono ?_
  rintro e w1 ⟨G, cs, rfl, hB, hC, b1⟩
  go_wp2_with fail
  refine (P2.out G cs w1 hB hC).mono ?_
  rintro e w2 ⟨rfl, b2⟩
  have t2 := (hT.below b1).below b2
  clear hB hC
  go_wp2_with fail
  refine (P3.out _ t2).mono ?_
  rintro e w3 ⟨rfl, b3⟩
  go_wp2_with fail
  refine (P4.out _ (t2.below b3)).mono ?_
  rintro e w4 ⟨rfl, b4⟩
  go_wp2_with fail
  refine (P5.out _).mono ?_
  rintro e w5 ⟨rfl, b5⟩
  go_wp2_with fail
  refine (P6.out _).mono ?_
  rintro e w6 ⟨rfl, rfl⟩
  go_wp2_with fail
  refine (P7.out _).mono ?_
  rintro e w7 ⟨rfl, rfl⟩
  go_wp2_with fail
  go_ret
  exact ⟨rfl, below_seq b1 (below_seq b2 (below_seq b3 (below_seq b4 b5)))⟩
end Go.Proofs.YtgmdechhghbmpaaDoor
