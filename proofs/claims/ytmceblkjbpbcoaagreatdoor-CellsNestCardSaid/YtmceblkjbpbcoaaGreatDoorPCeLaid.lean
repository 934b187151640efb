/- Contracts of layers below. -/
import Derived.Test.YtmceblkjbpbcoaaGreatDoorPCeHead
import Derived.Test.YtmceblkjbpbcoaaGreatDoorRows
import Derived.Test.YtmceblkjbpbcoaaGreatDoorCards
import Derived.Test.YtmceblkjbpbcoaaGreatDoorTie
import Derived.Deep.DeepHandedRow
import Derived.Lib.LaidTab
import Derived.ChangeOld
namespace Go.Proofs.YtmceblkjbpbcoaaGreatDoor.Ce.Ld
set_option maxRecDepth 100000
open Go.ChangeShapes Go.WideShapes Go.ChangeAt Go.RowKit
open Ar (tRuby tKids tText tEdges tSize tValign)
open Ut (tabCells)
theorem cWides : Tryz.prog.cellsOf 252 = 22 := by kernel_rfl
theorem cWide : Tryz.prog.cellsOf 251 = 2 := by kernel_rfl
theorem cI32 : Tryz.prog.cellsOf 21 = 1 := by kernel_rfl
theorem qau {H : Type} {enc : TypeId × Value -> H} {W : World} {base : Nat} {sp : Nat -> Bool} {held : Bool} {fuel : Nat} {ce : List Value} {p : List MemPlace} {a b : Int}
 (h : DataW.trod enc Tryz.prog W base sp held fuel 251 ce = some (.agg [.lit (.int .i32 a), .lit (.int .i32 b)], p)) :
 ce = [.int .i32 a, .int .i32 b] := by
 cases fuel with
 | zero => simp [DataW.trod] at h
 | succ fuel =>
   simp only [DataW.trod, Tryz.underlying251, cWide] at h
   split at h
   ·rename_i hl
    match ce, hl, h with
    | [x0, x1], _, h =>
      obtain ⟨xs, hm, hx⟩ := Option.map_eq_some_iff.1 h
      simp only [List.mapM_cons, List.mapM_nil, Option.bind_eq_bind, Option.bind_eq_some_iff, Option.pure_def, xai] at hm
      obtain ⟨y0, h0, _, ⟨y1, h1, _, rfl, rfl⟩, rfl⟩ := hm
      simp only [cI32] at h0 h1
      obtain ⟨z0, e0, rfl, _⟩ := DataW.trod_int Tryz.underlying21 h0
      obtain ⟨z1, e1, rfl, _⟩ := DataW.trod_int Tryz.underlying21 h1
      simp at e0 e1 hx
      obtain ⟨⟨r0, r1⟩, _⟩ := hx
      subst e0 e1 r0 r1
      rfl
   ·cases h
theorem qa2 {α : Type} (l : List α) (k : Nat) (a b : List α) (h1 : (l.drop (k * 2)).take 2 = a) (h2 : l.drop (k * 2 + 2) = b) : l.drop (k * 2) = a ++ b := by
 rw [<- h1, <- h2, <- List.drop_drop, List.take_append_drop]
theorem cForms : Tryz.prog.cellsOf 258 = 54 := by kernel_rfl
theorem cForm : Tryz.prog.cellsOf 237 = 6 := by kernel_rfl
theorem cByte : Tryz.prog.cellsOf 5 = 1 := by kernel_rfl
theorem cIntU : Tryz.prog.cellsOf 3 = 1 := by kernel_rfl
theorem qa8 {H : Type} {enc : TypeId × Value -> H} {W : World} {base : Nat} {sp : Nat -> Bool} {held : Bool} {fuel : Nat} {ce : List Value} {p : List MemPlace} {a b c d e n : Int}
 (h : DataW.trod enc Tryz.prog W base sp held fuel 237 ce = some (.agg [.lit (.int .u8 a), .lit (.int .u8 b), .lit (.int .u8 c), .lit (.int .u8 d), .lit (.int .u8 e), .lit (.int .i64 n)], p)) :
 ce = [.int .u8 a, .int .u8 b, .int .u8 c, .int .u8 d, .int .u8 e, .int .i64 n] := by
 cases fuel with
 | zero => simp [DataW.trod] at h
 | succ fuel =>
   simp only [DataW.trod, Tryz.underlying237, cForm] at h
   split at h
   ·rename_i hl
    match ce, hl, h with
    | [x0, x1, x2, x3, x4, x5], _, h =>
      obtain ⟨xs, hm, hx⟩ := Option.map_eq_some_iff.1 h
      simp only [List.mapM_cons, List.mapM_nil, Option.bind_eq_bind, Option.bind_eq_some_iff, Option.pure_def, xai] at hm
      obtain ⟨y0, h0, _, ⟨y1, h1, _, ⟨y2, h2, _, ⟨y3, h3, _, ⟨y4, h4, _, ⟨y5, h5, _, rfl, rfl⟩, rfl⟩, rfl⟩, rfl⟩, rfl⟩, rfl⟩ := hm
      simp only [cByte, cIntU] at h0 h1 h2 h3 h4 h5
      obtain ⟨z0, e0, rfl, _⟩ := DataW.trod_int Tryz.underlying5 h0
      obtain ⟨z1, e1, rfl, _⟩ := DataW.trod_int Tryz.underlying5 h1
      obtain ⟨z2, e2, rfl, _⟩ := DataW.trod_int Tryz.underlying5 h2
      obtain ⟨z3, e3, rfl, _⟩ := DataW.trod_int Tryz.underlying5 h3
      obtain ⟨z4, e4, rfl, _⟩ := DataW.trod_int Tryz.underlying5 h4
      obtain ⟨z5, e5, rfl, _⟩ := DataW.trod_int Tryz.underlying3 h5
      simp at e0 e1 e2 e3 e4 e5 hx
      obtain ⟨⟨r0, r1, r2, r3, r4, r5⟩, _⟩ := hx
      subst e0 e1 e2 e3 e4 e5 r0 r1 r2 r3 r4 r5
      rfl
   ·cases h
theorem drop_take {α : Type} (l : List α) (k : Nat) (a b : List α) (h1 : (l.drop (k * 6)).take 6 = a) (h2 : l.drop (k * 6 + 6) = b) : l.drop (k * 6) = a ++ b := by
 rw [<- h1, <- h2, <- List.drop_drop, List.take_append_drop]
theorem cT9 : Tryz.prog.cellsOf 214 = 9 := by kernel_rfl
theorem cBool : Tryz.prog.cellsOf 4 = 1 := by kernel_rfl
def bagg (bs : List Bool) : DataW Unit := .agg (bs.map fun b => .lit (.bool b))
theorem tab1 {W : World} {n : String} {g g' : Nat} {t : TypeId} {cs : Array Value} {fuel : Nat} {p : List MemPlace} {bs : List Bool} (h9 : bs.length = 9) (hn : Tryz.prog.globalNamed n = some g) (hT : (Tryz.prog.globals[g]?).map (·.type) = some 214)
 (hg : Tryz.prog.globalNamed n = some g') (ht : (Tryz.prog.globals[g']?).map (·.type) = some t) (hv : W.var? Tryz.prog n = some cs) (hd : DataW.trod (fun _ => ()) Tryz.prog W 0 (fun _ => true) false fuel t cs.toList = some (bagg bs, p)) : Ar.TabAt W g bs := by
 obtain rfl := xaw (hn.symm.trans hg)
 obtain rfl := xaw (hT.symm.trans ht)
 have hcs : cs = (bs.map Value.bool).toArray := by
  obtain ⟨cl⟩ := cs
  cases fuel with
  | zero => simp [DataW.trod] at hd
  | succ fuel =>
    simp only [DataW.trod, Tryz.underlying214, cT9, cBool] at hd
    split at hd
    ·rename_i hl
     have hl2 : cl.length = 9 := hl
     obtain ⟨xs, hm, hx⟩ := Option.map_eq_some_iff.1 hd
     have hxs : xs.map (·.1) = bs.map fun b => (.lit (.bool b) : DataW Unit) := by
      have := congrArg Prod.fst hx
      simpa [bagg] using this
     have key : ∀ i, i < 9 -> cl[i]? = (bs.map Value.bool)[i]? := by
      intro i hi
      obtain ⟨b, hb, hf⟩ := Lib.mapM_at hm i i (by simp [hi])
      obtain ⟨c, hc, hcx⟩ := DataW.trod_bool Tryz.underlying4 hf
      have h1 : (xs.map (·.1))[i]? = some b.1 := by rw [xan, hb]; rfl
      rw [hxs, hcx, xan] at h1
      have h2 : bs[i]? = some c := by
       cases hbi : bs[i]? with
       | none => rw [hbi] at h1; cases h1
       | some c' =>
         rw [hbi] at h1
         simp at h1
         rw [h1]
      rw [xan, h2]
      have h3 : ((cl.drop (i * 1)).take 1)[0]? = some (.bool c) := by rw [hc]; rfl
      simpa using h3
     have : cl = bs.map Value.bool := by
      apply List.ext_getElem?
      intro i
      by_cases hi : i < 9
      ·exact key i hi
      ·rw [List.getElem?_eq_none (by omega), List.getElem?_eq_none (by rw [xao]; omega)]
     rw [this]
    ·cases hd
 rw [hcs] at hv
 simp only [World.var?, hn, Option.bind_some] at hv
 split at hv
 ·rename_i c t' fr hb
  cases hv
  exact ⟨t', fr, hb⟩
 ·cases hv
theorem widT {W : World} {g : Nat} {t : TypeId} {cs : Array Value} {fuel : Nat} {p : List MemPlace}
 (hg : Tryz.prog.globalNamed "stickful/class.wides" = some g) (ht : (Tryz.prog.globals[g]?).map (·.type) = some t) (hv : W.var? Tryz.prog "stickful/class.wides" = some cs) (hd : DataW.trod (fun _ => ()) Tryz.prog W 0 (fun _ => true) false fuel t cs.toList = some (Rows.laid_stickful_class_wides, p)) : Go.Proofs.YtmceblkjbpbcoaaGreatDoor.Tab W := by
 obtain rfl := xaw ((show Tryz.prog.globalNamed "stickful/class.wides" = some 8 by kernel_rfl).symm.trans hg)
 obtain rfl := xaw ((show (Tryz.prog.globals[8]?).map (·.type) = some 252 by kernel_rfl).symm.trans ht)
 have hcs : cs = qg8 := by
  obtain ⟨cl⟩ := cs
  cases fuel with
  | zero => simp [DataW.trod] at hd
  | succ fuel =>
    simp only [DataW.trod, Tryz.underlying252, cWides, cWide] at hd
    split at hd
    ·rename_i hl
     have hl2 : cl.length = 22 := hl
     obtain ⟨xs, hm, hx⟩ := Option.map_eq_some_iff.1 hd
     have hxs : xs.map (·.1) = [.agg [.lit (.int .i32 4352), .lit (.int .i32 4447)], .agg [.lit (.int .i32 11904), .lit (.int .i32 12350)], .agg [.lit (.int .i32 12353), .lit (.int .i32 42191)], .agg [.lit (.int .i32 44032), .lit (.int .i32 55203)], .agg [.lit (.int .i32 63744), .lit (.int .i32 64255)], .agg [.lit (.int .i32 65072), .lit (.int .i32 65103)], .agg [.lit (.int .i32 65281), .lit (.int .i32 65376)], .agg [.lit (.int .i32 65504), .lit (.int .i32 65510)], .agg [.lit (.int .i32 127744), .lit (.int .i32 128591)], .agg [.lit (.int .i32 129280), .lit (.int .i32 129535)], .agg [.lit (.int .i32 131072), .lit (.int .i32 262141)]] := by
      have := congrArg Prod.fst hx
      simpa [Rows.laid_stickful_class_wides] using this
     have R : ∀ i (d : DataW Unit), i < 11 -> (xs.map (·.1))[i]? = some d -> ∃ p, DataW.trod (fun _ => ()) Tryz.prog W 0 (fun _ => true) false fuel 251 ((cl.drop (i * 2)).take 2) = some (d, p) := by
      intro i d hi hd2
      obtain ⟨b, hb, hf⟩ := Lib.mapM_at hm i i (by simp [hi])
      rw [xan, hb] at hd2
      simp at hd2
      subst hd2
      exact ⟨b.2, hf⟩
     obtain ⟨_, q0⟩ := R 0 _ (by omega) (by rw [hxs]; rfl)
     have t0 := qau q0
     obtain ⟨_, q1⟩ := R 1 _ (by omega) (by rw [hxs]; rfl)
     have t1 := qau q1
     obtain ⟨_, q2⟩ := R 2 _ (by omega) (by rw [hxs]; rfl)
     have t2 := qau q2
     obtain ⟨_, q3⟩ := R 3 _ (by omega) (by rw [hxs]; rfl)
     have t3 := qau q3
     obtain ⟨_, q4⟩ := R 4 _ (by omega) (by rw [hxs]; rfl)
     have t4 := qau q4
     obtain ⟨_, q5⟩ := R 5 _ (by omega) (by rw [hxs]; rfl)
     have t5 := qau q5
     obtain ⟨_, q6⟩ := R 6 _ (by omega) (by rw [hxs]; rfl)
     have t6 := qau q6
     obtain ⟨_, q7⟩ := R 7 _ (by omega) (by rw [hxs]; rfl)
     have t7 := qau q7
     obtain ⟨_, q8⟩ := R 8 _ (by omega) (by rw [hxs]; rfl)
     have t8 := qau q8
     obtain ⟨_, q9⟩ := R 9 _ (by omega) (by rw [hxs]; rfl)
     have t9 := qau q9
     obtain ⟨_, q10⟩ := R 10 _ (by omega) (by rw [hxs]; rfl)
     have t10 := qau q10
     have e11 : cl.drop (10 * 2 + 2) = [] := List.drop_eq_nil_of_le (by omega)
     have e10 := qa2 cl 10 _ _ t10 e11
     have e9 := qa2 cl 9 _ _ t9 e10
     have e8 := qa2 cl 8 _ _ t8 e9
     have e7 := qa2 cl 7 _ _ t7 e8
     have e6 := qa2 cl 6 _ _ t6 e7
     have e5 := qa2 cl 5 _ _ t5 e6
     have e4 := qa2 cl 4 _ _ t4 e5
     have e3 := qa2 cl 3 _ _ t3 e4
     have e2 := qa2 cl 2 _ _ t2 e3
     have e1 := qa2 cl 1 _ _ t1 e2
     have e0 := qa2 cl 0 _ _ t0 e1
     have e0' : cl = _ := e0
     rw [e0']
     rfl
    ·cases hd
 rw [hcs] at hv
 simp only [World.var?, (show Tryz.prog.globalNamed "stickful/class.wides" = some 8 by kernel_rfl), Option.bind_some] at hv
 split at hv
 ·rename_i c t' fr hb
  cases hv
  exact ⟨t', fr, hb⟩
 ·cases hv
theorem frmT {W : World} {g : Nat} {t : TypeId} {cs : Array Value} {fuel : Nat} {p : List MemPlace}
 (hg : Tryz.prog.globalNamed "stickful/utf.forms" = some g) (ht : (Tryz.prog.globals[g]?).map (·.type) = some t) (hv : W.var? Tryz.prog "stickful/utf.forms" = some cs) (hd : DataW.trod (fun _ => ()) Tryz.prog W 0 (fun _ => true) false fuel t cs.toList = some (Rows.laid_stickful_utf_forms, p)) : Ut.Tab W := by
 obtain rfl := xaw ((show Tryz.prog.globalNamed "stickful/utf.forms" = some 9 by kernel_rfl).symm.trans hg)
 obtain rfl := xaw ((show (Tryz.prog.globals[9]?).map (·.type) = some 258 by kernel_rfl).symm.trans ht)
 have hcs : cs = tabCells := by
  obtain ⟨cl⟩ := cs
  cases fuel with
  | zero => simp [DataW.trod] at hd
  | succ fuel =>
    simp only [DataW.trod, Tryz.underlying258, cForms, cForm] at hd
    split at hd
    ·rename_i hl
     have hl2 : cl.length = 54 := hl
     obtain ⟨xs, hm, hx⟩ := Option.map_eq_some_iff.1 hd
     have hxs : xs.map (·.1) = [.agg [.lit (.int .u8 0), .lit (.int .u8 127), .lit (.int .u8 0), .lit (.int .u8 0), .lit (.int .u8 0), .lit (.int .i64 1)], .agg [.lit (.int .u8 194), .lit (.int .u8 223), .lit (.int .u8 128), .lit (.int .u8 191), .lit (.int .u8 192), .lit (.int .i64 2)], .agg [.lit (.int .u8 224), .lit (.int .u8 224), .lit (.int .u8 160), .lit (.int .u8 191), .lit (.int .u8 224), .lit (.int .i64 3)], .agg [.lit (.int .u8 225), .lit (.int .u8 236), .lit (.int .u8 128), .lit (.int .u8 191), .lit (.int .u8 224), .lit (.int .i64 3)], .agg [.lit (.int .u8 237), .lit (.int .u8 237), .lit (.int .u8 128), .lit (.int .u8 159), .lit (.int .u8 224), .lit (.int .i64 3)], .agg [.lit (.int .u8 238), .lit (.int .u8 239), .lit (.int .u8 128), .lit (.int .u8 191), .lit (.int .u8 224), .lit (.int .i64 3)], .agg [.lit (.int .u8 240), .lit (.int .u8 240), .lit (.int .u8 144), .lit (.int .u8 191), .lit (.int .u8 240), .lit (.int .i64 4)], .agg [.lit (.int .u8 241), .lit (.int .u8 243), .lit (.int .u8 128), .lit (.int .u8 191), .lit (.int .u8 240), .lit (.int .i64 4)], .agg [.lit (.int .u8 244), .lit (.int .u8 244), .lit (.int .u8 128), .lit (.int .u8 143), .lit (.int .u8 240), .lit (.int .i64 4)]] := by
      have := congrArg Prod.fst hx
      simpa [Rows.laid_stickful_utf_forms] using this
     have R : ∀ i (d : DataW Unit), i < 9 -> (xs.map (·.1))[i]? = some d -> ∃ p, DataW.trod (fun _ => ()) Tryz.prog W 0 (fun _ => true) false fuel 237 ((cl.drop (i * 6)).take 6) = some (d, p) := by
      intro i d hi hd2
      obtain ⟨b, hb, hf⟩ := Lib.mapM_at hm i i (by simp [hi])
      rw [xan, hb] at hd2
      simp at hd2
      subst hd2
      exact ⟨b.2, hf⟩
     obtain ⟨_, q0⟩ := R 0 _ (by omega) (by rw [hxs]; rfl)
     have t0 := qa8 q0
     obtain ⟨_, q1⟩ := R 1 _ (by omega) (by rw [hxs]; rfl)
     have t1 := qa8 q1
     obtain ⟨_, q2⟩ := R 2 _ (by omega) (by rw [hxs]; rfl)
     have t2 := qa8 q2
     obtain ⟨_, q3⟩ := R 3 _ (by omega) (by rw [hxs]; rfl)
     have t3 := qa8 q3
     obtain ⟨_, q4⟩ := R 4 _ (by omega) (by rw [hxs]; rfl)
     have t4 := qa8 q4
     obtain ⟨_, q5⟩ := R 5 _ (by omega) (by rw [hxs]; rfl)
     have t5 := qa8 q5
     obtain ⟨_, q6⟩ := R 6 _ (by omega) (by rw [hxs]; rfl)
     have t6 := qa8 q6
     obtain ⟨_, q7⟩ := R 7 _ (by omega) (by rw [hxs]; rfl)
     have t7 := qa8 q7
     obtain ⟨_, q8⟩ := R 8 _ (by omega) (by rw [hxs]; rfl)
     have t8 := qa8 q8
     have e9 : cl.drop (8 * 6 + 6) = [] := List.drop_eq_nil_of_le (by omega)
     have e8 := drop_take cl 8 _ _ t8 e9
     have e7 := drop_take cl 7 _ _ t7 e8
     have e6 := drop_take cl 6 _ _ t6 e7
     have e5 := drop_take cl 5 _ _ t5 e6
     have e4 := drop_take cl 4 _ _ t4 e5
     have e3 := drop_take cl 3 _ _ t3 e4
     have e2 := drop_take cl 2 _ _ t2 e3
     have e1 := drop_take cl 1 _ _ t1 e2
     have e0 := drop_take cl 0 _ _ t0 e1
     have e0' : cl = _ := e0
     rw [e0']
     rfl
    ·cases hd
 rw [hcs] at hv
 simp only [World.var?, (show Tryz.prog.globalNamed "stickful/utf.forms" = some 9 by kernel_rfl), Option.bind_some] at hv
 split at hv
 ·rename_i c t' fr hb
  cases hv
  exact ⟨t', fr, hb⟩
 ·cases hv
theorem qwz {W : World} (h : laidMetH Tryz.prog Rows.cellsEndsRow.laid W) : Tbs W := by
 have h2 : laidMet Tryz.prog Rows.cellsEndsRow.laid W := h
 obtain ⟨ps, ⟨g1, t1, c1, f1, p1, q1, hg1, ht1, hv1, hd1, ⟨g2, t2, c2, f2, p2, q2, hg2, ht2, hv2, hd2, ⟨g3, t3, c3, f3, p3, q3, hg3, ht3, hv3, hd3, ⟨g4, t4, c4, f4, p4, q4, hg4, ht4, hv4, hd4, ⟨g5, t5, c5, f5, p5, q5, hg5, ht5, hv5, hd5, ⟨g6, t6, c6, f6, p6, q6, hg6, ht6, hv6, hd6, ⟨g7, t7, c7, f7, p7, q7, hg7, ht7, hv7, hd7, ⟨g8, t8, c8, f8, p8, q8, hg8, ht8, hv8, hd8, _, _⟩, _⟩, _⟩, _⟩, _⟩, _⟩, _⟩, _⟩, _⟩ := h2
 exact ⟨⟨tab1 (bs := tRuby) rfl (by kernel_rfl) (by kernel_rfl) hg8 ht8 hv8 hd8, tab1 (bs := tKids) rfl (by kernel_rfl) (by kernel_rfl) hg3 ht3 hv3 hd3,
  tab1 (bs := tText) rfl (by kernel_rfl) (by kernel_rfl) hg4 ht4 hv4 hd4, tab1 (bs := tEdges) rfl (by kernel_rfl) (by kernel_rfl) hg5 ht5 hv5 hd5, tab1 (bs := tSize) rfl (by kernel_rfl) (by kernel_rfl) hg6 ht6 hv6 hd6, tab1 (bs := tValign) rfl (by kernel_rfl) (by kernel_rfl) hg7 ht7 hv7 hd7⟩,
  widT hg1 ht1 hv1 hd1, frmT hg2 ht2 hv2 hd2⟩
def putT (bs : List Bool) : Obj -> Obj
 | .cells _ t frozen => .cells (bs.map Value.bool).toArray t frozen
 | o => o
def putC (cs : Array Value) : Obj -> Obj
 | .cells _ t frozen => .cells cs t frozen
 | o => o
noncomputable def laidWorld (os : Os) : World :=
 { World.holding Tryz.prog os ⟨#[], #[], []⟩ with heap := (((((((((World.holding Tryz.prog os ⟨#[], #[], []⟩).heap.modify 0 (putT tRuby)).modify 1 (putT tKids)).modify 4 (putT tText)).modify 5 (putT tEdges)).modify 6 (putT tSize)).modify 7 (putT tValign)).modify 8 (putC qg8)).modify 9 (putC tabCells)) }
end Go.Proofs.YtmceblkjbpbcoaaGreatDoor.Ce.Ld
