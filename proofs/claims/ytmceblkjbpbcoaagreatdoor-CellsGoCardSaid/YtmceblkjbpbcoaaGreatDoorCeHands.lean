/- What the walks of the laws share: what is handed in, from every later world. Conditions as in CeAny. -/
import Derived.Test.YtmceblkjbpbcoaaGreatDoorCeEndsM
namespace Go.Proofs.YtmceblkjbpbcoaaGreatDoor.Ce
set_option maxRecDepth 100000
set_option maxHeartbeats 1000000
open Go.ChangeShapes Go.WideShapes Go.ChangeAt Go.RowKit Go.Shelf
open Ar
open Wh (Cr)
open Fo (Fnt W64)
theorem uGn : Tryz.prog.underlying 27 = some (.struct (Tryz.prog.fieldsOf 27)) := by kernel_rfl
theorem iGn (z : Int) (A1 A2 A3 : Option Addr) (n1 n2 n3 c1 c2 c3 : Nat) : (Tryz.prog.info? 27).map (·.size) = some (#[Value.int .i64 z, .slice A1 n1 c1, .slice A2 n2 c2, .slice A3 n3 c3] : Array Value).size := by kernel_rfl
theorem ldGn {ops : Array Oper} {Q : Exit -> Act -> World -> Prop} {a : Act} {w : World} {rest : List Oper} {o : Oper} (hg : o.guard = none) (x : Operand) (ho : o.op = .load 27 x) (p : Addr) (hx : a.eval x = .pointer (some p)) (z : Int) (A1 A2 A3 : Option Addr) (n1 n2 n3 c1 c2 c3 : Nat) (hL : qar w p #[.int .i64 z, .slice A1 n1 c1, .slice A2 n2 c2, .slice A3 n3 c3])
 (h : wpList Tryz.prog ops Q rest (a.put o.dst (.agg #[.int .i64 z, .slice A1 n1 c1, .slice A2 n2 c2, .slice A3 n3 c3])) w) : wpList Tryz.prog ops Q (o :: rest) a w :=
 qan hg 27 x ho p hx _ _ hL uGn rfl (iGn z A1 A2 A3 n1 n2 n3 c1 c2 c3) h
structure Hands (w : World) (l : List Nod) (v : Value) (z : Int) (A1 A2 A3 : Option Addr) (q m n3 c1 c2 c3 : Nat) (ss : List Sty) (fs : List Fnt) (at_ : List Int) : Prop where
 made : ∀ W, Below w.heap.size w W -> Calls Tryz.prog 7 #[v] W (qfp l W)
 great : ∀ W, Below w.heap.size w W -> Calls Tryz.prog 8 #[v, .agg #[.int .i64 z, .slice A1 q c1, .slice A2 m c2, .slice A3 n3 c3]] W (qgv l ss fs n3 W)
 head : ∀ W, Below w.heap.size w W -> Calls Tryz.prog 9 #[] W fun e w' => e = .returned (.bool true) /\ Below W.heap.size W w'
 cells : ∀ W p, Below w.heap.size w W -> Tr W p l -> chkT l = 0 -> Small l ss fs n3 -> Calls Tryz.prog 10 #[p, .int .i64 z, .slice A1 q c1, .slice A2 m c2, .slice A3 n3 c3] W (qkl l z ss fs at_ W)
theorem qj0 (l : List Nod) (v : Value) (z : Int) (A1 A2 A3 : Option Addr) (c1 c2 c3 : Nat) (ss : List Sty) (fs : List Fnt) (at_ : List Int) (w : World) (hN : Ns w v l) (hW : WfL l) (hn : l.length <= 9223372036854775807) (hM : Ms w (.slice A1 ss.length c1) (.slice A2 fs.length c2) (.slice A3 at_.length c3) ss fs at_) (h64 : ∀ s ∈ ss, W64 s.a6)
 (hs : ss.length <= 9223372036854775807) (hf : fs.length <= 9223372036854775807) (ha : at_.length <= 9223372036854775807) (hT : Tbs w) : Hands w l v z A1 A2 A3 ss.length fs.length at_.length c1 c2 c3 ss fs at_ where
 made W b := qse l v W (hN.below b) hW (hT.below b).ar
 great W b := qov l v z A1 A2 A3 at_.length c1 c2 c3 ss fs W (hN.below b) hn (hM.f.below b) hf hs ha
 head W b := qsl W (hT.below b)
 cells W p b h hg hS := qoy p l z A1 A2 A3 c1 c2 c3 ss fs at_ W h hg hS (hT.below b) (hM.below b) h64
theorem qar.cl {w : World} {g o : Nat} {x : Cl} (h : qar w ⟨g, o, none⟩ (clA x)) : w.cell? ⟨g, o, none⟩ = some (.int .u8 x.k) /\ w.cell? ⟨g, o + 1, none⟩ = some (.int .i64 x.node) /\ w.cell? ⟨g, o + 2, none⟩ = some (.int .i64 x.ch) /\ w.cell? ⟨g, o + 3, none⟩ = some (.int .i64 x.adv) /\ w.cell? ⟨g, o + 4, none⟩ = some (.bool x.sf) /\ w.cell? ⟨g, o + 5, none⟩ = some (.bool x.em) :=
 ⟨h.at_ 0 rfl, h.at_ 1 rfl, h.at_ 2 rfl, h.at_ 3 rfl, h.at_ 4 rfl, h.at_ 5 rfl⟩
end Go.Proofs.YtmceblkjbpbcoaaGreatDoor.Ce
