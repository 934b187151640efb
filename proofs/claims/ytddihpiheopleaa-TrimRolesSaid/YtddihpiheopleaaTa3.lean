/- Contract of tabs.pens: the iterator over the pens, and where it says its error. No conditions. -/
import Derived.Test.YtddihpiheopleaaTa2
namespace Go.Proofs.Ytddihpiheopleaa.Ta
open Go.ChangeShapes Go.WideShapes Go.ChangeAt Go.RowKit Go.Shelf
open Ce
open Fo (fitV fitE)

/-- the blocks that the iterator has: the row, the roles, the number, the error, its address -/
def KL (b : Nat) (v vr : Value) (x e : Int) : List (Nat × TypeId × Array Value) :=
  [(b, 22, #[v]), (b + 1, 30, #[vr]), (b + 2, 2, #[.int .i64 x]), (b + 3, 24, #[.int .i64 e]), (b + 4, 51, #[.pointer (some ⟨b + 3, 0, none⟩)])]
def itV (b : Nat) : Value := .func (.func 34) #[] #[.pointer (some ⟨b, 0, none⟩), .pointer (some ⟨b + 4, 0, none⟩), .pointer (some ⟨b + 2, 0, none⟩), .pointer (some ⟨b + 1, 0, none⟩)]
set_option maxRecDepth 100000 in
set_option maxHeartbeats 1000000 in
theorem pens_mk (A A2 : Option Addr) (k c k2 c2 : Nat) (x : Int) (w : World) :
    Calls Try.prog 30 #[.slice A k c, .slice A2 k2 c2, .int .i64 x] w fun e w' => e = .returned (.tuple #[itV w.heap.size, .pointer (some ⟨w.heap.size + 3, 0, none⟩)]) ∧ Kn w' (KL w.heap.size (.slice A k c) (.slice A2 k2 c2) x 0) ∧ w'.heap.size = w.heap.size + 5 ∧ Below w.heap.size w w' := by
  go_enter Try.func30, Try.ntmps30
  go_wp2_with fail
  go_quiet (fail)
  go_wp2_with fail
  go_ret2
  have K0 := Blk.new w 22 #[.slice A k c]
  have K1 := Blk.new (w.alloc (.cells #[.slice A k c] 22)) 30 #[.slice A2 k2 c2]
  have K2 := Blk.new ((w.alloc (.cells #[.slice A k c] 22)).alloc (.cells #[.slice A2 k2 c2] 30)) 2 #[.int .i64 x]
  have K3 := Blk.new (((w.alloc (.cells #[.slice A k c] 22)).alloc (.cells #[.slice A2 k2 c2] 30)).alloc (.cells #[.int .i64 x] 2)) 24 #[.int .i64 0]
  have K4 := Blk.new ((((w.alloc (.cells #[.slice A k c] 22)).alloc (.cells #[.slice A2 k2 c2] 30)).alloc (.cells #[.int .i64 x] 2)).alloc (.cells #[.int .i64 0] 24)) 51 #[.pointer (some ⟨w.heap.size + 3, 0, none⟩)]
  simp only [World.size_alloc] at K1 K2 K3 K4
  refine ⟨rfl, fun y hy => ?_, by simp [World.drewN], ?_⟩
  · simp only [KL, List.mem_cons, List.not_mem_nil, or_false] at hy
    rcases hy with rfl | rfl | rfl | rfl | rfl
    · exact ((((K0.alloc _).alloc _).alloc _).alloc _).drewN _
    · exact (((K1.alloc _).alloc _).alloc _).drewN _
    · exact ((K2.alloc _).alloc _).drewN _
    · exact (K3.alloc _).drewN _
    · exact K4.drewN _
  · exact below_drewN (((((below_alloc _ _).alloc (by simp) _).alloc (by simp; omega) _).alloc (by simp; omega) _).alloc (by simp; omega) _) _
end Go.Proofs.Ytddihpiheopleaa.Ta
