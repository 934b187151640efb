/- Contracts of layers below. -/
import Derived.Test.YtmceblkjbpbcoaaGreatDoorPArMath
import Derived.Test.YtmceblkjbpbcoaaGreatDoorPY5
import Derived.RangeFuncNested
import Derived.RangeFuncBound
import Derived.RangeFuncCalls
import Derived.RangeFuncLeaves
import Derived.RangeFuncBox
import Derived.Shelf.Abstract
import Derived.Shelf.RegionOpen
import Derived.OwnWalkIn
import Derived.TacticsInMore
import Derived.LoopNIn
import Derived.LoopIn
import Derived.Sort.QuietIn
namespace Go.Proofs.YtmceblkjbpbcoaaGreatDoor
set_option maxRecDepth 100000
set_option maxHeartbeats 4000000
open Go.ChangeShapes Go.WideShapes Go.ChangeAt Go.RowKit
namespace Ar
structure TreeAt (w : World) (g gn ge cn ce : Nat) (l : List Nod) : Prop where
 ht : Blk w g 102 #[.slice (some ⟨gn, 0, none⟩) l.length cn, .slice (some ⟨ge, 0, none⟩) l.length ce]
 hgn : gn < w.heap.size
 hn : ∀ i x, l[i]? = some x -> qar w ⟨gn, i * 22, none⟩ x.cells
 hge : ge < w.heap.size
 he : ∀ i, i < l.length -> ∃ e : Nat, EndOf (psOf l) i e /\ w.cell? ⟨ge, i, none⟩ = some (.int .i64 (e : Int))
theorem qjv {w w' : World} {p : Addr} {cs : Array Value} (h : qar w p cs) (hk : w'.heap[p.block]? = w.heap[p.block]?) : qar w' p cs := fun j v hv => by
 exact (World.cell?_of_block (a := p.add j) (by rw [qac]; exact hk)).trans (h j v hv)
theorem TreeAt.keep {w w' : World} {g gn ge cn ce : Nat} {l : List Nod} (h : TreeAt w g gn ge cn ce l) (hs : w.heap.size <= w'.heap.size) (hk : ∀ k, k = g \/ k = gn \/ k = ge -> w'.heap[k]? = w.heap[k]?) : TreeAt w' g gn ge cn ce l := by
 obtain ⟨h1, h2, h3, h4, h5⟩ := h
 refine ⟨(hk g (.inl rfl)).trans h1, Nat.lt_of_lt_of_le h2 hs, fun i x hi => qjv (h3 i x hi) (hk gn (.inr (.inl rfl))), Nat.lt_of_lt_of_le h4 hs, fun i hi => ?_⟩
 obtain ⟨e, he, hc⟩ := h5 i hi
 exact ⟨e, he, (World.cell?_of_block (a := ⟨ge, i, none⟩) (hk ge (.inr (.inr rfl)))).trans hc⟩
theorem TreeAt.below {w w' : World} {g gn ge cn ce : Nat} {l : List Nod} (h : TreeAt w g gn ge cn ce l) (b : Below w.heap.size w w') : TreeAt w' g gn ge cn ce l := by
 refine h.keep b.size fun k hk => b.block k ?_
 have h1 := h.ht.lt
 have h2 := h.hgn
 have h3 := h.hge
 rcases hk with rfl | rfl | rfl <;> assumption
theorem TreeAt.c0 {w : World} {g gn ge cn ce : Nat} {l : List Nod} (h : TreeAt w g gn ge cn ce l) : w.cell? ⟨g, 0, none⟩ = some (.slice (some ⟨gn, 0, none⟩) l.length cn) := h.ht.cell 0
theorem TreeAt.c1 {w : World} {g gn ge cn ce : Nat} {l : List Nod} (h : TreeAt w g gn ge cn ce l) : w.cell? ⟨g, 1, none⟩ = some (.slice (some ⟨ge, 0, none⟩) l.length ce) := h.ht.cell 1
def Tr (w : World) (v : Value) (l : List Nod) : Prop := ∃ g gn ge cn ce, v = .pointer (some ⟨g, 0, none⟩) /\ TreeAt w g gn ge cn ce l
theorem Tr.below {w w' : World} {v : Value} {l : List Nod} (h : Tr w v l) (b : Below w.heap.size w w') : Tr w' v l := by
 obtain ⟨g, gn, ge, cn, ce, hv, h⟩ := h
 exact ⟨g, gn, ge, cn, ce, hv, h.below b⟩
def qi2 (w : World) (v : Value) (n : Nat) : Prop := (v = .pointer none /\ n = 0) \/ ∃ g A c, v = .pointer (some ⟨g, 0, none⟩) /\ w.cell? ⟨g, 0, none⟩ = some (.slice A n c)
theorem qi2.below {w w' : World} {v : Value} {n : Nat} (h : qi2 w v n) (b : Below w.heap.size w w') : qi2 w' v n := by
 rcases h with h | ⟨g, A, c, hv, hc⟩
 ·exact .inl h
 ·exact .inr ⟨g, A, c, hv, (b.cell (World.block_lt_of_cell? _ _ hc)).trans hc⟩
theorem Tr.len {w : World} {v : Value} {l : List Nod} (h : Tr w v l) : qi2 w v l.length := by
 obtain ⟨g, gn, ge, cn, ce, hv, h⟩ := h
 exact .inr ⟨g, _, _, hv, h.c0⟩
def fndE (n : Nat) (k : Int) : Int := if n = 0 then 1 else if k < 0 \/ (n : Int) <= k then 7 else 0
theorem qgg {n k : Nat} (h : k < n) : fndE n (k : Int) = 0 := by unfold fndE; rw [if_neg (by omega), if_neg (by omega)]
theorem qvl {n : Nat} {k : Int} (h : 0 < n) (hk : k < 0 \/ (n : Int) <= k) : fndE n k = 7 := by unfold fndE; rw [if_neg (by omega), if_pos hk]
theorem qr2 (k : Int) : fndE 0 k = 1 := rfl
theorem qoi (n : Nat) (k : Int) : fndE n k = 1 \/ fndE n k = 7 \/ (fndE n k = 0 /\ 0 <= k /\ k < n) := by
 unfold fndE
 split
 ·exact .inl rfl
 ·split
  ·exact .inr (.inl rfl)
  ·exact .inr (.inr ⟨rfl, by omega, by omega⟩)
theorem qfo (v : Value) (n : Nat) (w : World) (h : qi2 w v n) :
 Calls Tryz.prog 21 #[v] w fun e w' => e = .returned (.int .i64 (n : Int)) /\ w = w' := by
 rcases h with ⟨rfl, rfl⟩ | ⟨g, A, c, rfl, hc⟩
 ·go_enter Tryz.func21, Tryz.ntmps21
  go_wp2_with fail
  go_ret
  exact ⟨rfl, rfl⟩
 ·go_enter Tryz.func21, Tryz.ntmps21
  go_wp2_with fail
  go_ret
  exact ⟨rfl, rfl⟩
theorem qbg (v : Value) (n : Nat) (k : Int) (w : World) (h : qi2 w v n) :
 Calls Tryz.prog 53 #[v, .int .i64 k] w fun e w' => e = .returned (.int .i64 (fndE n k)) /\ w = w' := by
 have C := xaa (qfo v n w h)
 clear h
 by_cases h0 : n = 0
 ·subst h0
  rw [qr2]
  go_enter Tryz.func53, Tryz.ntmps53
  go_wp2_with fail
  refine C.out.mono ?_
  rintro e w2 ⟨rfl, rfl⟩
  go_wp2_with fail
  go_ret
  exact ⟨rfl, rfl⟩
 ·have hn : ¬ (n : Int) = 0 := by omega
  by_cases h1 : k < 0
  ·rw [qvl (by omega) (.inl h1)]
   go_enter Tryz.func53, Tryz.ntmps53
   go_wp2_with fail
   refine C.out.mono ?_
   rintro e w2 ⟨rfl, rfl⟩
   go_wp2_with fail
   go_ret
   exact ⟨rfl, rfl⟩
  ·have h1' : 0 <= k := by omega
   have hf : fndE n k = if (n : Int) <= k then 7 else 0 := by
    unfold fndE
    rw [if_neg h0]
    by_cases h2 : (n : Int) <= k
    ·rw [if_pos (.inr h2), if_pos h2]
    ·rw [if_neg (by omega), if_neg h2]
   rw [hf]
   clear hf
   by_cases h2 : (n : Int) <= k
   ·rw [if_pos h2]
    go_enter Tryz.func53, Tryz.ntmps53
    go_wp2_with fail
    refine C.out.mono ?_
    rintro e w2 ⟨rfl, rfl⟩
    go_wp2_with fail
    refine C.out.mono ?_
    rintro e w2 ⟨rfl, rfl⟩
    go_wp2_with fail
    go_ret
    exact ⟨rfl, rfl⟩
   ·rw [if_neg h2]
    have h3 : k < (n : Int) := by omega
    clear h2
    go_enter Tryz.func53, Tryz.ntmps53
    go_wp2_with fail
    refine C.out.mono ?_
    rintro e w2 ⟨rfl, rfl⟩
    go_wp2_with fail
    refine C.out.mono ?_
    rintro e w2 ⟨rfl, rfl⟩
    go_wp2_with fail
    go_ret
    exact ⟨rfl, rfl⟩
theorem qwn (v : Value) (n : Nat) (k : Int) (w : World) (h : qi2 w v n) (hf : fndE n k ≠ 0) :
 Calls Tryz.prog 27 #[v, .int .i64 k] w fun e w' => e = .returned (.tuple #[.agg Nod.zero.cells, .int .i64 (fndE n k)]) /\ Below w.heap.size w w' := by
 have C : Hid (∀ W, Below w.heap.size w W -> Calls Tryz.prog 53 #[v, .int .i64 k] W fun e w' => e = .returned (.int .i64 (fndE n k)) /\ W = w') := fun W hW => qbg v n k W (h.below hW)
 have bd : ∀ w : World, (Instr.build 50 #[]).run Tryz.prog w = .ok (.agg Nod.zero.cells) w := fun _ => by kernel_rfl
 have h1 := qoi n k
 obtain ⟨f, hff⟩ : ∃ f, fndE n k = f := ⟨_, rfl⟩
 rw [hff] at C hf h1 |-
 clear h hff
 go_enter Tryz.func27, Tryz.ntmps27
 go_wp2_with (refine alNV rfl rfl ?_; intro w1 b1 B1)
 refine (C.out _ b1).mono ?_
 rintro e w2 ⟨rfl, rfl⟩
 go_wp2_with (refine stN rfl (.tmp 4) (.tmp 12) rfl rfl _ rfl .zero rfl .zero B1 ?_; intro w2 m2 B2)
 (try simp only [Exit.inBlock, Exit.then])
 refine ⟨rfl, _, qf2 rfl _ _ w.heap.size 50 Nod.zero.cells _ rfl B2 uN rfl iN, ?_⟩
 exact ⟨rfl, b1.trans (m2.below b1.size (fun k hk => by omega))⟩
theorem qgt (v : Value) (l : List Nod) (k : Nat) (x : Nod) (w : World) (h : Tr w v l) (hk : l[k]? = some x) :
 Calls Tryz.prog 27 #[v, .int .i64 (k : Int)] w fun e w' => e = .returned (.tuple #[.agg x.cells, .int .i64 0]) /\ Below w.heap.size w w' := by
 have hkl : k < l.length := (xah hk).1
 have C : Hid (∀ W, Below w.heap.size w W -> Calls Tryz.prog 53 #[v, .int .i64 (k : Int)] W fun e w' => e = .returned (.int .i64 0) /\ W = w') := fun W hW => by
  have := qbg v l.length k W (h.len.below hW)
  rwa [qgg hkl] at this
 obtain ⟨g, gn, ge, cn, ce, rfl, hT⟩ := h
 have HT := xaa hT
 have hL := hT.hn k x hk
 have HL := xaa hL
 have hgn := hT.hgn
 obtain ⟨n, hn⟩ : ∃ n, l.length = n := ⟨_, rfl⟩
 have HC := xaa hT.c0
 rw [hn] at HC hkl
 clear hT hk hL hn
 have hz : (k : Int) < n := by omega
 go_enter Tryz.func27, Tryz.ntmps27
 go_wp2_with (refine alNV rfl rfl ?_; intro w1 b1 B1; have c0 := (b1.cell (World.block_lt_of_cell? _ _ HC.out)).trans HC.out)
 refine (C.out _ b1).mono ?_
 rintro e w2 ⟨rfl, rfl⟩
 have L1 := HL.out.below b1
 go_wp2_with (first
  | (refine ldN rfl (.tmp 19) rfl _ rfl x L1 ?_)
  | (refine stN rfl (.tmp 4) (.tmp 20) rfl rfl _ rfl x rfl .zero B1 ?_; intro w2 m2 B2))
 (try simp only [Exit.inBlock, Exit.then])
 refine ⟨rfl, _, qf2 rfl _ _ w.heap.size 50 x.cells _ rfl B2 uN rfl iN, ?_⟩
 exact ⟨rfl, b1.trans (m2.below b1.size (fun k hk => by omega))⟩
def or2 (a b : Int) : Int := if a = 0 then b else a
theorem qlh (g : Nat) (a b : Int) (w : World) (hB : Blk w g 34 #[.int .i64 a, .int .i64 b]) :
 Calls Tryz.prog 55 #[.slice (some ⟨g, 0, none⟩) 2 2] w fun e w' => e = .returned (.int .i64 (or2 a b)) /\ w = w' := by
 have c0 : w.cell? ⟨g, 0, none⟩ = some (.int .i64 a) := hB.cell 0
 have c1 : w.cell? ⟨g, 1, none⟩ = some (.int .i64 b) := hB.cell 1
 clear hB
 go_enter Tryz.func55, Tryz.ntmps55
 go_wp2_with fail
 go_loopg [8] 2 (fun kx s8 wr => w = wr /\ ∃ k : Nat, s8 = .int .i64 k /\ k <= 2 /\ kx = 2 - k /\ (0 < k -> a = 0) /\ (1 < k -> b = 0))
 case atStart => exact ⟨rfl, 0, rfl, by omega, rfl, fun h => by omega, fun h => by omega⟩
 case round =>
  obtain ⟨rfl, k, rfl, hk, rfl, h1, h2⟩ := hrel
  have : k = 0 \/ k = 1 \/ k = 2 := by omega
  rcases this with rfl | rfl | rfl
  ·clear h1 h2
   by_cases ha : a = 0
   ·go_wp2_with fail
    go_roundg 1
    case measure => omega
    case rel => exact ⟨rfl, 1, rfl, by omega, rfl, fun _ => ha, fun h => by omega⟩
   ·have e : Hid (or2 a b = a) := if_neg ha
    go_wp2_with fail
    go_ret
    exact ⟨qb7 e.out.symm, rfl⟩
  ·obtain rfl := h1 (by omega)
   have e : Hid (or2 0 b = b) := if_pos rfl
   clear h1 h2
   by_cases hb : b = 0
   ·go_wp2_with fail
    go_roundg 0
    case measure => omega
    case rel => exact ⟨rfl, 2, rfl, by omega, rfl, fun _ => (by simp), fun _ => hb⟩
   ·go_wp2_with fail
    go_ret
    exact ⟨qb7 e.out.symm, rfl⟩
  ·obtain rfl := h1 (by omega)
   obtain rfl := h2 (by omega)
   clear h1 h2
   go_wp2_with fail
   go_ret
   exact ⟨rfl, rfl⟩
theorem bs2 (a b : Int) (w : World) : (Instr.buildSlice 169 2 #[(0, .int .i64 a), (1, .int .i64 b)]).run Tryz.prog w = .ok (.slice (some ⟨w.heap.size, 0, none⟩) 2 2) (w.alloc (.cells #[.int .i64 a, .int .i64 b] 34)) := by kernel_rfl
theorem qo9 (v : Value) (l : List Nod) (a b : Nat) (w : World) (h : Tr w v l) (hT : Tre (psOf l)) (hab : a < b) (hhn : b < l.length) :
 Calls Tryz.prog 30 #[v, .int .i64 (a : Int), .int .i64 (b : Int)] w fun e w' => ∃ c : Nat, e = .returned (.tuple #[.int .i64 (c : Int), .int .i64 0]) /\ Com (psOf l) a b c /\ Below w.heap.size w w' := by
 have hba : ¬ b < a := by omega
 have hll : a <= b := by omega
 have hlz : a < l.length := by omega
 have C1 := xaa (qbg v l.length a w h.len)
 have C2 := xaa (qbg v l.length b w h.len)
 have C3 := xaa (fun g W => qlh g 0 0 W)
 have e0 : or2 0 0 = 0 := rfl
 rw [qgg (by omega)] at C1 C2
 rw [e0] at C3
 clear e0
 have HTr := xaa hT
 obtain ⟨g, gn, ge, cn, ce, rfl, hTA⟩ := h
 have HTA := xaa (hTA.below (xar w (.cells #[.int .i64 0, .int .i64 0] 34)))
 obtain ⟨n, hl⟩ : ∃ n, l.length = n := ⟨_, rfl⟩
 have HL := xaa hl
 rw [hl] at hhn
 have hb2 := bs2 0 0
 clear hT hTA hl hlz
 go_enter Tryz.func30, Tryz.ntmps30
 go_wp2_with fail
 refine C1.out.mono ?_
 rintro e w2 ⟨rfl, rfl⟩
 go_wp2_with fail
 refine C2.out.mono ?_
 rintro e w2 ⟨rfl, rfl⟩
 go_wp2_with fail
 refine (C3.out _ _ (Blk.new _ _ _)).mono ?_
 rintro e w2 ⟨rfl, rfl⟩
 obtain ⟨w1, hw1⟩ : ∃ w1, w.alloc (.cells #[.int .i64 0, .int .i64 0] 34) = w1 := ⟨_, rfl⟩
 have b1 : Below w.heap.size w w1 := hw1 ▸ xar _ _
 rw [hw1] at HTA |-
 clear hw1 hb2 C1 C2 C3
 go_wp2_with fail
 go_loopg [9] (a + 1) (fun kx s9 wr => w1 = wr /\ ∃ k : Nat, s9 = .int .i64 k /\ k <= b /\ kx = k + 1 /\ Hid (∀ c, Com (psOf l) k b c -> Com (psOf l) a b c))
 case atStart => exact ⟨rfl, a, rfl, hll, rfl, xaa fun _ h => h⟩
 case round =>
  obtain ⟨rfl, k, rfl, hk, rfl, HI_⟩ := hrel
  have hkl : k < l.length := by rw [HL.out]; omega
  obtain ⟨en, hE, ce1⟩ := HTA.out.he k hkl
  have c1 := HTA.out.c1
  have c0 := HTA.out.c0
  rw [HL.out] at c1 c0
  have hz : (k : Int) < n := by omega
  have HE := xaa hE
  clear hE
  by_cases hlt : b < en
  ·have hle : ¬ (en : Int) <= b := by omega
   have FIN := xaa (HI_.out k (Com.self (HE.out.all b hk hlt)))
   clear HI_ HE
   go_wp2_with fail
   go_ret2
   exact ⟨k, rfl, FIN.out, b1⟩
  ·have hle : (en : Int) <= b := by omega
   have hnab : ¬ Abv (psOf l) k b := fun h => by
    have := ((HE.out.out HTr.out (by rw [qad, HL.out]; exact hhn)).1 h).2
    omega
   obtain ⟨x, hx⟩ := qex hkl
   have hpr := qk1 hx
   have h0 : 0 <= x.p := by
    rcases Nat.eq_zero_or_pos k with rfl | hk0
    ·exact absurd (Abv.root HTr.out b (by rw [qad, HL.out]; exact hhn)) hnab
    ·have := (HTr.out.par k hk0 (by rw [qad]; exact hkl)).1
     omega
   obtain ⟨q1, q2⟩ := qjo HTr.out hx
   have hLi := HTA.out.hn k x hx
   have hc := hLi.p
   have b' : Hid (∀ c, Com (psOf l) x.p.toNat b c -> Com (psOf l) a b c) := xaa fun c h => HI_.out c (Com.up (by rw [hpr]; exact h0) hnab (by rw [hpr]; exact h))
   obtain ⟨p, hp⟩ : ∃ p, x.p = p := ⟨_, rfl⟩
   rw [hp] at q1 q2 hc b' h0
   obtain ⟨m, rfl⟩ : ∃ m : Nat, p = m := ⟨p.toNat, by omega⟩
   rw [xax] at b'
   clear HI_ hLi hpr hx hp hnab q1 HE
   go_wp2_with fail
   go_roundg (m + 1)
   case measure => omega
   case rel => exact ⟨rfl, m, rfl, by omega, rfl, b'⟩
theorem qpa (v : Value) (l : List Nod) (a b : Nat) (w : World) (h : Tr w v l) (hT : Tre (psOf l)) (hab : b < a) (hhn : a < l.length) :
 Calls Tryz.prog 30 #[v, .int .i64 (a : Int), .int .i64 (b : Int)] w fun e w' => ∃ c : Nat, e = .returned (.tuple #[.int .i64 (c : Int), .int .i64 0]) /\ Com (psOf l) b a c /\ Below w.heap.size w w' := by
 have hba : ¬ a < b := by omega
 have hll : b <= a := by omega
 have hlz : b < l.length := by omega
 have C1 := xaa (qbg v l.length a w h.len)
 have C2 := xaa (qbg v l.length b w h.len)
 have C3 := xaa (fun g W => qlh g 0 0 W)
 have e0 : or2 0 0 = 0 := rfl
 rw [qgg (by omega)] at C1 C2
 rw [e0] at C3
 clear e0
 have HTr := xaa hT
 obtain ⟨g, gn, ge, cn, ce, rfl, hTA⟩ := h
 have HTA := xaa (hTA.below (xar w (.cells #[.int .i64 0, .int .i64 0] 34)))
 obtain ⟨n, hl⟩ : ∃ n, l.length = n := ⟨_, rfl⟩
 have HL := xaa hl
 rw [hl] at hhn
 have hb2 := bs2 0 0
 clear hT hTA hl hlz
 go_enter Tryz.func30, Tryz.ntmps30
 go_wp2_with fail
 refine C1.out.mono ?_
 rintro e w2 ⟨rfl, rfl⟩
 go_wp2_with fail
 refine C2.out.mono ?_
 rintro e w2 ⟨rfl, rfl⟩
 go_wp2_with fail
 refine (C3.out _ _ (Blk.new _ _ _)).mono ?_
 rintro e w2 ⟨rfl, rfl⟩
 obtain ⟨w1, hw1⟩ : ∃ w1, w.alloc (.cells #[.int .i64 0, .int .i64 0] 34) = w1 := ⟨_, rfl⟩
 have b1 : Below w.heap.size w w1 := hw1 ▸ xar _ _
 rw [hw1] at HTA |-
 clear hw1 hb2 C1 C2 C3
 go_wp2_with fail
 go_loopg [9] (b + 1) (fun kx s9 wr => w1 = wr /\ ∃ k : Nat, s9 = .int .i64 k /\ k <= a /\ kx = k + 1 /\ Hid (∀ c, Com (psOf l) k a c -> Com (psOf l) b a c))
 case atStart => exact ⟨rfl, b, rfl, hll, rfl, xaa fun _ h => h⟩
 case round =>
  obtain ⟨rfl, k, rfl, hk, rfl, HI_⟩ := hrel
  have hkl : k < l.length := by rw [HL.out]; omega
  obtain ⟨en, hE, ce1⟩ := HTA.out.he k hkl
  have c1 := HTA.out.c1
  have c0 := HTA.out.c0
  rw [HL.out] at c1 c0
  have hz : (k : Int) < n := by omega
  have HE := xaa hE
  clear hE
  by_cases hlt : a < en
  ·have hle : ¬ (en : Int) <= a := by omega
   have FIN := xaa (HI_.out k (Com.self (HE.out.all a hk hlt)))
   clear HI_ HE
   go_wp2_with fail
   go_ret2
   exact ⟨k, rfl, FIN.out, b1⟩
  ·have hle : (en : Int) <= a := by omega
   have hnab : ¬ Abv (psOf l) k a := fun h => by
    have := ((HE.out.out HTr.out (by rw [qad, HL.out]; exact hhn)).1 h).2
    omega
   obtain ⟨x, hx⟩ := qex hkl
   have hpr := qk1 hx
   have h0 : 0 <= x.p := by
    rcases Nat.eq_zero_or_pos k with rfl | hk0
    ·exact absurd (Abv.root HTr.out a (by rw [qad, HL.out]; exact hhn)) hnab
    ·have := (HTr.out.par k hk0 (by rw [qad]; exact hkl)).1
     omega
   obtain ⟨q1, q2⟩ := qjo HTr.out hx
   have hLi := HTA.out.hn k x hx
   have hc := hLi.p
   have a' : Hid (∀ c, Com (psOf l) x.p.toNat a c -> Com (psOf l) b a c) := xaa fun c h => HI_.out c (Com.up (by rw [hpr]; exact h0) hnab (by rw [hpr]; exact h))
   obtain ⟨p, hp⟩ : ∃ p, x.p = p := ⟨_, rfl⟩
   rw [hp] at q1 q2 hc a' h0
   obtain ⟨m, rfl⟩ : ∃ m : Nat, p = m := ⟨p.toNat, by omega⟩
   rw [xax] at a'
   clear HI_ hLi hpr hx hp hnab q1 HE
   go_wp2_with fail
   go_roundg (m + 1)
   case measure => omega
   case rel => exact ⟨rfl, m, rfl, by omega, rfl, a'⟩
theorem qpb (v : Value) (l : List Nod) (a : Nat) (w : World) (h : Tr w v l) (hT : Tre (psOf l)) (hhn : a < l.length) :
 Calls Tryz.prog 30 #[v, .int .i64 (a : Int), .int .i64 (a : Int)] w fun e w' => ∃ c : Nat, e = .returned (.tuple #[.int .i64 (c : Int), .int .i64 0]) /\ Com (psOf l) a a c /\ Below w.heap.size w w' := by
 have C1 := xaa (qbg v l.length a w h.len)
 have C2 := xaa (qbg v l.length a w h.len)
 have C3 := xaa (fun g W => qlh g 0 0 W)
 have e0 : or2 0 0 = 0 := rfl
 rw [qgg (by omega)] at C1 C2
 rw [e0] at C3
 clear e0
 have HTr := xaa hT
 obtain ⟨g, gn, ge, cn, ce, rfl, hTA⟩ := h
 have HTA := xaa (hTA.below (xar w (.cells #[.int .i64 0, .int .i64 0] 34)))
 obtain ⟨n, hl⟩ : ∃ n, l.length = n := ⟨_, rfl⟩
 have HL := xaa hl
 rw [hl] at hhn
 have hb2 := bs2 0 0
 clear hT hTA hl
 go_enter Tryz.func30, Tryz.ntmps30
 go_wp2_with fail
 refine C1.out.mono ?_
 rintro e w2 ⟨rfl, rfl⟩
 go_wp2_with fail
 refine C2.out.mono ?_
 rintro e w2 ⟨rfl, rfl⟩
 go_wp2_with fail
 refine (C3.out _ _ (Blk.new _ _ _)).mono ?_
 rintro e w2 ⟨rfl, rfl⟩
 obtain ⟨w1, hw1⟩ : ∃ w1, w.alloc (.cells #[.int .i64 0, .int .i64 0] 34) = w1 := ⟨_, rfl⟩
 have b1 : Below w.heap.size w w1 := hw1 ▸ xar _ _
 rw [hw1] at HTA |-
 clear hw1 hb2 C1 C2 C3
 go_wp2_with fail
 go_loopg [9] (a + 1) (fun kx s9 wr => w1 = wr /\ ∃ k : Nat, s9 = .int .i64 k /\ k <= a /\ kx = k + 1 /\ Hid (∀ c, Com (psOf l) k a c -> Com (psOf l) a a c))
 case atStart => exact ⟨rfl, a, rfl, xat, rfl, xaa fun _ h => h⟩
 case round =>
  obtain ⟨rfl, k, rfl, hk, rfl, HI_⟩ := hrel
  have hkl : k < l.length := by rw [HL.out]; omega
  obtain ⟨en, hE, ce1⟩ := HTA.out.he k hkl
  have c1 := HTA.out.c1
  have c0 := HTA.out.c0
  rw [HL.out] at c1 c0
  have hz : (k : Int) < n := by omega
  have HE := xaa hE
  clear hE
  by_cases hlt : a < en
  ·have hle : ¬ (en : Int) <= a := by omega
   have FIN := xaa (HI_.out k (Com.self (HE.out.all a hk hlt)))
   clear HI_ HE
   go_wp2_with fail
   go_ret2
   exact ⟨k, rfl, FIN.out, b1⟩
  ·have hle : (en : Int) <= a := by omega
   have hnab : ¬ Abv (psOf l) k a := fun h => by
    have := ((HE.out.out HTr.out (by rw [qad, HL.out]; exact hhn)).1 h).2
    omega
   obtain ⟨x, hx⟩ := qex hkl
   have hpr := qk1 hx
   have h0 : 0 <= x.p := by
    rcases Nat.eq_zero_or_pos k with rfl | hk0
    ·exact absurd (Abv.root HTr.out a (by rw [qad, HL.out]; exact hhn)) hnab
    ·have := (HTr.out.par k hk0 (by rw [qad]; exact hkl)).1
     omega
   obtain ⟨q1, q2⟩ := qjo HTr.out hx
   have hLi := HTA.out.hn k x hx
   have hc := hLi.p
   have a' : Hid (∀ c, Com (psOf l) x.p.toNat a c -> Com (psOf l) a a c) := xaa fun c h => HI_.out c (Com.up (by rw [hpr]; exact h0) hnab (by rw [hpr]; exact h))
   obtain ⟨p, hp⟩ : ∃ p, x.p = p := ⟨_, rfl⟩
   rw [hp] at q1 q2 hc a' h0
   obtain ⟨m, rfl⟩ : ∃ m : Nat, p = m := ⟨p.toNat, by omega⟩
   rw [xax] at a'
   clear HI_ hLi hpr hx hp hnab q1 HE
   go_wp2_with fail
   go_roundg (m + 1)
   case measure => omega
   case rel => exact ⟨rfl, m, rfl, by omega, rfl, a'⟩
theorem qlq (v : Value) (l : List Nod) (a b : Nat) (w : World) (h : Tr w v l) (hT : Tre (psOf l)) (ha : a < l.length) (hb : b < l.length) :
 Calls Tryz.prog 30 #[v, .int .i64 (a : Int), .int .i64 (b : Int)] w fun e w' => ∃ c : Nat, e = .returned (.tuple #[.int .i64 (c : Int), .int .i64 0]) /\ Com (psOf l) a b c /\ Below w.heap.size w w' := by
 rcases Nat.lt_trichotomy a b with hab | rfl | hab
 ·exact qo9 v l a b w h hT hab hb
 ·exact qpb v l a w h hT ha
 ·exact (qpa v l a b w h hT hab ha).mono fun e w' ⟨c, he, hc, hw⟩ => ⟨c, he, hc.symm, hw⟩
end Ar
section
open Go.Shelf
section
variable {P : Program} {ops : Array Oper} {Q : Exit -> Act -> World -> Prop} {md : Region.Mode} {S : World -> Prop} {R : Act -> Prop} {n l : Nat}
def qce (ops : Array Oper) : Bool := ops.toList.all fun o => match o.op with | .defer _ => false | _ => true
theorem qem (h : qce ops = true) {i : Nat} {o : Oper} (hi : ops[i]? = some o) : ∀ c, o.op ≠ .defer c := fun c hc => by
 have h1 := xam h o (by simpa using Array.mem_of_getElem? hi)
 rw [hc] at h1
 cases h1
theorem qaf.stepIn {i : Nat} {o : Oper} {v : Value} {a : Act} {K : Act -> World -> Prop} {w : World} (hd : ∀ c, o.op ≠ .defer c) (hi : ops[i]? = some o) (hy : qaf P ops S o v a) (hS : S w)
 (h : ∀ w', S w' -> K (a.put o.dst v) w') : wpOpIn (Fence.wide.inRound l) n P ops Q i K a w := by
 unfold wpOpIn
 simp only [hi]
 rcases hy with ⟨hw, hv⟩ | ⟨hw, rfl⟩
 ·rw [if_pos hw]
  unfold Oper.wpIn
  rw [Oper.semAt_eq _ _ _ hd]
  refine ⟨fun _ _ => trivial, ?_⟩
  rcases hv w hS with ⟨w', hr, hS'⟩ | ⟨f, args, w', hr, hc⟩
  ·rw [hr]
   exact h w' hS'
  ·rw [hr]
   rw [Oper.uponIn_enter]
   refine ⟨fun h0 => (by cases h0), CallsIn.inRound l (CallsIn.mono (callsIn_wide.2 hc) ?_)⟩
   rintro e w'' ⟨rfl, hS'⟩
   exact h w'' hS'
 ·rw [if_neg (by simp [hw])]
  exact ⟨fun _ _ => trivial, h w hS⟩
theorem qjc (hnd : qce ops = true) {st : Nat} {os : Oper} (hst : ops[st]? = some os) (hlast : ops.size = st + 1)
 (hac : ∀ i o, ops[i]? = some o -> ∀ e ∈ o.after, Region.binds md e = true -> e.on < i)
 (hall : ∀ i, i < st -> ∃ e ∈ os.after, Region.binds md e = true /\ e.on = i)
 (hQ : ∀ a w, S w -> R a -> wpOpIn (Fence.wide.inRound l) n P ops Q st (fun a' w' => Q .normal a' w') a w) :
 ∀ (fuel : Nat) (listed : Array Bool) (a : Act) (w : World), listed.size = ops.size -> listed.getD st true = false →
  AllS P md ops S R fuel (listed.setIfInBounds st true) a -> S w -> wpAnyIn (Fence.wide.inRound l) n P md ops Q (fuel + 1) listed a w := by
 intro fuel
 induction fuel with
 | zero =>
   intro listed a w hsz hun hA hS
   refine ⟨fun h => absurd h (qag hac hsz st hun), fun i hi => ?_⟩
   by_cases e : i = st
   ·subst e
    exact wpOpIn_mono (fun a' w' h => ⟨hA.1, h⟩) (hQ a w hS hA.2)
   ·have := ready_mono hi e
    rw [hA.1] at this
    cases this
 | succ f ih =>
   intro listed a w hsz hun hA hS
   refine ⟨fun h => absurd h (qag hac hsz st hun), fun i hi => ?_⟩
   by_cases e : i = st
   ·subst e
    obtain ⟨_, o2, ho2, hl⟩ := mem_ready.1 hi
    rw [hst] at ho2
    injection ho2 with ho2
    subst ho2
    have hnone : Region.ready md ops (listed.setIfInBounds i true) = [] := by
     rw [List.eq_nil_iff_forall_not_mem]
     intro j hj
     obtain ⟨h1, o, ho, _⟩ := mem_ready.1 hj
     have hjs : j < ops.size := (xag ho).1
     by_cases ej : j = i
     ·subst ej
      have hjl : j < listed.size := by omega
      simp [hjl] at h1
     ·obtain ⟨ed, hed, hb, hon⟩ := hall j (by omega)
      have h2 := hl ed hed hb
      rw [hon] at h2
      rw [getD_set_ne true (Ne.symm ej)] at h1
      have hjl : j < listed.size := by omega
      simp [hjl] at h1 h2
      rw [h1] at h2
      cases h2
    exact wpOpIn_mono (fun a' w' h => ⟨fun _ => h, fun j hj => by rw [hnone] at hj; cases hj⟩) (hQ a w hS (hA.1 hnone))
   ·obtain ⟨oi, v, ho, hk, hr⟩ := hA.2 i (ready_mono hi e)
    refine hk.stepIn (qem hnd ho) ho hS fun w' hS' => ?_
    refine ih (listed.setIfInBounds i true) _ w' (by simpa using hsz) (by rw [getD_set_ne true e]; exact hun) ?_ hS'
    rw [Array.setIfInBounds_comm _ _ e]
    exact hr
theorem qfs {F : Fence} {i : Nat} {o : Oper} {a : Act} {w : World} {K : Act -> World -> Prop} (hi : ops[i]? = some o) (hg : o.guard = none) (h : o.wpIn F n P a w K Q) : wpOpIn F n P ops Q i K a w := by
 unfold wpOpIn
 simp only [hi]
 rw [if_pos (qaa hg _)]
 exact h
theorem qcb {id : Nat} {a : Act} {w : World} (hm : P.follows .mixedOrders = true) (S : World -> Prop) (h0 : S w.drew) (hnd : qce ops = true) (st : Nat) (hlast : ops.size = st + 1) (hb : qsv ops = true) (hl : lastB ops st = true)
 (h : ∀ R : Act -> Prop, Hid (∀ a', (∀ w', S w' -> wpOpIn (Fence.wide.inRound l) n P ops Q st (fun a'' w'' => Q .normal a'' w'') a' w') -> R a') -> AllS P .any ops S R st ((Array.replicate ops.size false).setIfInBounds st true) a) : (Code.region id ops true).wpIn (Fence.wide.inRound l) n P Q a w := by
 refine wpIn_region_any hm ?_
 obtain ⟨os, hos⟩ : ∃ os, ops[st]? = some os := ⟨_, Array.getElem?_eq_getElem (by omega)⟩
 have hh := h (fun a' => ∀ w', S w' -> wpOpIn (Fence.wide.inRound l) n P ops Q st (fun a'' w'' => Q .normal a'' w'') a' w') (xaa fun _ h => h)
 have hac : ∀ i o, ops[i]? = some o -> ∀ e ∈ o.after, Region.binds .any e = true -> e.on < i := fun i o ho e he _ => by
  have h1 := xam hb i (List.mem_range.2 (xag ho).1)
  rw [ho] at h1
  exact of_decide_eq_true (xam h1 e (by simpa using he))
 have hall : ∀ i, i < st -> ∃ e ∈ os.after, Region.binds .any e = true /\ e.on = i := fun i hi => by
  have h1 := xam hl i (List.mem_range.2 hi)
  rw [hos] at h1
  obtain ⟨e, he, h2⟩ := List.any_eq_true.1 h1
  simp only [Bool.and_eq_true, decide_eq_true_eq] at h2
  exact ⟨e, by simpa using he, h2⟩
 have := qjc hnd hos hlast hac hall (Q := Q) (S := S) (R := fun a' => ∀ w', S w' -> wpOpIn (Fence.wide.inRound l) n P ops Q st (fun a'' w'' => Q .normal a'' w'') a' w') (fun a w hS hR => hR w hS) st (Array.replicate ops.size false) a w.drew (by simp) (by simp [hlast]) hh h0
 rw [hlast]
 rw [hlast] at this
 exact this
end
def qeh (K : Nat -> Prop) (W W' : World) : Prop := ∀ k, K k -> W'.heap[k]? = W.heap[k]?
theorem qeh.trans {K : Nat -> Prop} {X Y Z : World} (h : qeh K X Y) (k : qeh K Y Z) : qeh K X Z := fun i hi => (k i hi).trans (h i hi)
theorem qeh.obj {K : Nat -> Prop} {w : World} (hK : ∀ k, K k -> k < w.heap.size) (W : World) (l : Nat) (o o' : Obj) (hl : w.heap.size <= l) (_ : W.heap[l]? = some o) (_ : o.isCells = false) (_ : o.isWalk = false) : qeh K W (W.putObj l o') :=
 fun k hk => World.putObj_heap_other (by have := hK k hk; omega)
theorem grown_of_below {w w' : World} (h : Below w.heap.size w w') : w.grownBy w' none := ⟨h.os, h.tape, h.output, h.size, fun k hk _ => h.block k hk⟩
end
namespace Ar
open Go.Shelf
attribute [local go_sem] Oper.semAt_some
def TabAt (w : World) (g : Nat) (t : List Bool) : Prop := ∃ ty fz, w.heap[g]? = some (.cells (t.map Value.bool).toArray ty fz)
theorem TabAt.keep {w w' : World} {g : Nat} {t : List Bool} (h : TabAt w g t) (hk : w'.heap[g]? = w.heap[g]?) : TabAt w' g t := by
 obtain ⟨ty, fz, h⟩ := h
 exact ⟨ty, fz, hk.trans h⟩
theorem TabAt.lt {w : World} {g : Nat} {t : List Bool} (h : TabAt w g t) : g < w.heap.size := by
 obtain ⟨ty, fz, h⟩ := h
 exact (xag h).1
theorem TabAt.cell {w : World} {g : Nat} {t : List Bool} (h : TabAt w g t) (hl : t.length = 9) {k : Nat} (hk : k <= 8) : w.cell? ⟨g, k, none⟩ = some (.bool (tb t (k : Int))) := by
 obtain ⟨ty, fz, h⟩ := h
 rw [cell_of_row w g k _ _ _ h, xab, xan, tb_at hl hk]
 rfl
structure Tab (w : World) : Prop where
 ruby : TabAt w 0 tRuby
 kids : TabAt w 1 tKids
 text : TabAt w 4 tText
 edges : TabAt w 5 tEdges
 size : TabAt w 6 tSize
 valign : TabAt w 7 tValign
theorem Tab.keep {w w' : World} (h : Tab w) (hk : ∀ k, k < 7 + 1 -> w'.heap[k]? = w.heap[k]?) : Tab w' :=
 ⟨h.ruby.keep (hk _ (by omega)), h.kids.keep (hk _ (by omega)), h.text.keep (hk _ (by omega)), h.edges.keep (hk _ (by omega)), h.size.keep (hk _ (by omega)), h.valign.keep (hk _ (by omega))⟩
theorem Tab.pos {w : World} (h : Tab w) : 7 + 1 <= w.heap.size := h.valign.lt
theorem Tab.below {B : Nat} {w w' : World} (h : Tab w) (hB : 7 + 1 <= B) (b : Below B w w') : Tab w' := h.keep fun k hk => b.block k (by omega)
def encN (x : Nat) : Array Value := #[.int .i64 (x : Int)]
def TK (Bt Bn g gn ge : Nat) (b : Nat) : Prop := b = Bt \/ b = Bn \/ b = g \/ b = gn \/ b = ge
theorem qjf {K : Nat -> Prop} {w w' : World} {b : Nat} (h : qeh K w w') (hb : K b) (hlt : b < w.heap.size) : b < w'.heap.size := by
 have := h b hb
 rw [Array.getElem?_eq_getElem hlt] at this
 exact (xag this).1
theorem TreeAt.keepK {K : Nat -> Prop} {w w' : World} {g gn ge cn ce : Nat} {l : List Nod} (h : TreeAt w g gn ge cn ce l) (hk : qeh K w w') (h1 : K g) (h2 : K gn) (h3 : K ge) : TreeAt w' g gn ge cn ce l := by
 obtain ⟨q1, q2, q3, q4, q5⟩ := h
 refine ⟨(hk g h1).trans q1, qjf hk h2 q2, fun i x hi => qjv (q3 i x hi) (hk gn h2), qjf hk h3 q4, fun i hi => ?_⟩
 obtain ⟨e, he, hc⟩ := q5 i hi
 exact ⟨e, he, (World.cell?_of_block (a := ⟨ge, i, none⟩) (hk ge h3)).trans hc⟩
theorem qzz (n : Nat) (L Bt Bn g gn ge cn ce : Nat) (l : List Nod) (k : Nat) (hT : Tre (psOf l)) (hk : k < l.length) (hlen : l.length <= 1048576) (J Jx : List Nat -> World -> Prop)
 (hY : ∀ pre x W, J pre W -> pre ++ [x] <+: kidsL (psOf l) k -> YieldAt Fence.wide (n - 1) Tryz.prog L (encN x) W fun e W' =>
  (e = .returned (.bool true) /\ J (pre ++ [x]) W' /\ qeh (TK Bt Bn g gn ge) W W') \/ (e = .returned (.bool false) /\ Jx (pre ++ [x]) W'))
 (W : World) (hJ : AbidesFrom W.heap.size J) (hBt : W.cell? ⟨Bt, 0, none⟩ = some (.pointer (some ⟨g, 0, none⟩))) (hBn : W.cell? ⟨Bn, 0, none⟩ = some (.int .i64 (k : Int))) (hTA : TreeAt W g gn ge cn ce l) (h0 : J [] W) :
 CallsIn Fence.wide n Tryz.prog 148 #[.func (.yield L) #[] #[], .pointer (some ⟨Bn, 0, none⟩), .pointer (some ⟨Bt, 0, none⟩)] W fun e W' => (∃ v, e = .returned v) ∧
  ((∃ xs, xs = kidsL (psOf l) k /\ J xs W') \/ (∃ pre, pre <+: kidsL (psOf l) k /\ Jx pre W')) := by
 have HY := xaa hY
 have HJ := xaa hJ
 have HT := xaa hT
 obtain ⟨m, hm⟩ : ∃ m, l.length = m := ⟨_, rfl⟩
 have HM := xaa hm
 obtain ⟨en, hE, _⟩ := hTA.he k hk
 have HC := xaa (qhm hT hE)
 have hen := hE.le
 have hlt := hE.lt
 rw [qad, hm] at hen
 rw [hm] at hlen
 have HE := xaa hE
 rw [hm] at hk
 have hkz : (k : Int) < m := by omega
 clear hY hJ hT hm hE
 refine callsIn_of_wp Tryz.func148 rfl trivial ?_ rfl
 simp only [Tryz.ntmps148, List.size_toArray, List.length_cons, List.length_nil, Nat.reduceAdd, Nat.reduceSub, Array.replicate_succ, Array.replicate_zero, List.push_toArray, List.append_toArray, List.nil_append, List.cons_append]
 gi_wp2
 gi_loopw [4] (fun s4 wr => ∃ (c : Nat) (pre rest : List Nat), s4 = .int .i64 c /\ k < c /\ c <= en /\ Hid (kidsL (psOf l) k = pre ++ rest) /\ Hid (Chn (psOf l) en c rest) /\ J pre wr /\ wr.cell? ⟨Bt, 0, none⟩ = some (.pointer (some ⟨g, 0, none⟩)) /\ wr.cell? ⟨Bn, 0, none⟩ = some (.int .i64 (k : Int)) /\ TreeAt wr g gn ge cn ce l)
  (fun s4 _ => en - (intOf s4).toNat)
 case atStart => exact ⟨k + 1, [], _, by go_num, by omega, by omega, xaa rfl, HC, h0, hBt, hBn, hTA⟩
 case round =>
  obtain ⟨c, pre, rest, rfl, hc1, hc2, HI, HCh, hJs, hBr, hBnr, hTr⟩ := hrel
  clear h0 hTA hBt hBn HC
  have c1 := hTr.c1
  rw [HM.out] at c1
  obtain ⟨e2, hE2, hce⟩ := hTr.he k (by rw [HM.out]; exact hk)
  obtain rfl := HE.out.uniq hE2
  clear hE2
  have HTr := xaa hTr
  have HBr := xaa hBr
  have HBnr := xaa hBnr
  clear hTr
  by_cases hlt2 : c < en
  ·have hz : (c : Int) < en := by omega
   have hr : ∃ f rest', rest = c :: rest' /\ EndOf (psOf l) c f /\ Chn (psOf l) en f rest' := by
    have h := HCh.out
    cases h with
    | nil => omega
    | cons hf h => exact ⟨_, _, rfl, hf, h⟩
   obtain ⟨f, rest', rfl, hf, hch⟩ := hr
   have hi := HI.out
   have HI' : Hid (kidsL (psOf l) k = (pre ++ [c]) ++ rest') := xaa (by rw [hi]; simp)
   have HF := xaa hf
   have HCh' := xaa hch
   have hfl := hf.lt
   have hcm : c < m := by omega
   have hJ4 : J pre wr.drew := HJ.out pre wr _ none hJs (grown_of_below (below_drewN (xas) 1)) (fun r e => by cases e)
   obtain ⟨fn, tmps, assign, body, hy, hR⟩ := HY.out pre c _ hJ4 ⟨rest', by rw [hi]; simp⟩
   dsimp only [encN] at hy
   clear HI hi HY HJ hf hch HCh hJ4 hJs
   have hfcf : f <= en := by
    have hcc := HCh'.out
    clear HTr
    have key : ∀ {n : Nat} {l' : List Nat}, Chn (psOf l) en n l' -> n <= en := by
     intro n l' h
     induction h with
     | nil => exact xat
     | cons hf _ ih => have := hf.lt; omega
    exact key hcc
   have hR2 := hR.mono (R' := fun e W' => ∃ b, e = .returned (.bool b) /\ ((b = true /\ J (pre ++ [c]) W' /\ qeh (TK Bt Bn g gn ge) wr.drew W') \/ (b = false /\ Jx (pre ++ [c]) W'))) (fun e W' h => h.elim (fun ⟨h1, h2⟩ => ⟨true, h1, .inl ⟨rfl, h2⟩⟩) (fun ⟨h1, h2⟩ => ⟨false, h1, .inr ⟨rfl, h2⟩⟩))
   clear hR
   gi_wp2
   gi_region_with (refine ⟨fun h => (by cases h), hR2.mono ?_⟩; rintro e w4 ⟨b, rfl, hb4⟩)
   all_goals rcases hb4 with ⟨rfl, hJ4, hk4⟩ | ⟨rfl, hx4⟩
   all_goals first
    | (have kt : qeh (TK Bt Bn g gn ge) wr w4 := hk4
       have hT4 := HTr.out.keepK kt (.inr (.inr (.inl rfl))) (.inr (.inr (.inr (.inl rfl)))) (.inr (.inr (.inr (.inr rfl))))
       have hB4 : w4.cell? ⟨Bt, 0, none⟩ = some (.pointer (some ⟨g, 0, none⟩)) := (World.cell?_of_block (a := ⟨Bt, 0, none⟩) (kt Bt (.inl rfl))).trans HBr.out
       have hBn4 : w4.cell? ⟨Bn, 0, none⟩ = some (.int .i64 (k : Int)) := (World.cell?_of_block (a := ⟨Bn, 0, none⟩) (kt Bn (.inr (.inl rfl)))).trans HBnr.out
       have c1 := hT4.c1
       obtain ⟨e3, hE3, hce3⟩ := hT4.he c (by rw [HM.out]; exact hcm)
       obtain rfl := HF.out.uniq hE3
       rw [HM.out] at c1
       have HT4 := xaa hT4
       clear hT4 hk4 kt hE3
       gi_wp2
       go_roundw
       case rel => exact ⟨f, pre ++ [c], rest', rfl, by omega, hfcf, HI', HCh', hJ4, hB4, hBn4, HT4.out⟩
       case measure => simp [intOf]; omega)
    | (gi_wp2
       go_end0
       exact ⟨⟨_, rfl⟩, .inr ⟨pre ++ [c], ⟨_, HI'.out.symm⟩, hx4⟩⟩)
  ·obtain rfl : c = en := by omega
   have hr : rest = [] := by
    have h := HCh.out
    cases h with
    | nil => rfl
    | cons hf h =>
      have key : ∀ {n : Nat} {l' : List Nat}, Chn (psOf l) c n l' -> n <= c := by
       intro n l' h
       induction h with
       | nil => exact xat
       | cons hf _ ih => have := hf.lt; omega
      have := key h
      have := hf.lt
      omega
   have FIN : Hid (kidsL (psOf l) k = pre) := xaa (by rw [HI.out, hr, List.append_nil])
   have HJ2 : Hid (∀ q, Hid (J pre (wr.drewN q))) := xaa fun q => xaa (HJ.out pre wr _ none hJs (grown_of_below (below_drewN (xas) q)) (fun r e => by cases e))
   clear HI HCh hr HY HJ hJs
   gi_wp2
   refine wpIn_region_quiet_lit rfl (by kernel_rfl) (by kernel_rfl) ?_
   repeat (gi_big_quiet_step (fail))
   refine BigFrame.wpQuietIn_skip (fun _ _ _ _ => trivial) rfl ?_
   (try simp only [Act.put, xaf, xaj, xak])
   repeat (gi_big_quiet_step (fail))
   refine wpQuietIn_nil ?_
   rintro wq ⟨nq, rfl⟩
   have hJ4 := (HJ2.out nq).out
   gi_wp2
   go_end0
   exact ⟨⟨_, rfl⟩, .inl ⟨_, FIN.out.symm, hJ4⟩⟩
theorem qs4 {us : List Nat} {B : Nat} {J : List {x // x ∈ us} -> World -> Prop} (h : AbidesFrom B J) : AbidesFrom B (fun (p : List Nat) W => ∃ p', p'.map Subtype.val = p /\ J p' W) :=
 fun _ A C row ⟨p', hp, hj⟩ hg hr => ⟨p', hp, h p' A C row hj hg hr⟩
theorem qcg {us pre : List Nat} {x : Nat} (h : pre ++ [x] <+: us) : x ∈ us := h.subset (by simp)
theorem qim {us pre : List Nat} {x : Nat} (h : pre ++ [x] <+: us) : pre.length < us.length := by
 have := h.length_le
 rw [List.length_append, List.length_singleton] at this
 omega
def encM {us : List Nat} (x : {x // x ∈ us}) : Array Value := encN x.1
theorem qod (n : Nat) (Bt Bn g gn ge cn ce : Nat) (l : List Nod) (k : Nat) (w : World) (hT : Tre (psOf l)) (hk : k < l.length) (hlen : l.length <= 1048576) (h1 : Bt < w.heap.size) (h2 : Bn < w.heap.size)
 (hBt : w.cell? ⟨Bt, 0, none⟩ = some (.pointer (some ⟨g, 0, none⟩))) (hBn : w.cell? ⟨Bn, 0, none⟩ = some (.int .i64 (k : Int))) (hTA : TreeAt w g gn ge cn ce l) :
 SeqStopsK Fence.wide n Tryz.prog 148 #[.pointer (some ⟨Bn, 0, none⟩), .pointer (some ⟨Bt, 0, none⟩)] (encM (us := kidsL (psOf l) k)) (qeh (TK Bt Bn g gn ge)) (fun xs => xs.map Subtype.val = kidsL (psOf l) k) (fun pre => pre.map Subtype.val <+: kidsL (psOf l) k) (kidsL (psOf l) k).length w := by
 intro L J Jx W hW hJ hJx hY h0
 refine (qzz n L Bt Bn g gn ge cn ce l k hT hk hlen (fun p W => ∃ p', p'.map Subtype.val = p /\ J p' W) (fun p W => ∃ p', p'.map Subtype.val = p /\ Jx p' W) ?_ W (qs4 hJ) ((hW.cell (p := ⟨Bt, 0, none⟩) h1).trans hBt) ((hW.cell (p := ⟨Bn, 0, none⟩) h2).trans hBn) (hTA.below hW) ⟨[], rfl, h0⟩).mono ?_
 ·rintro pre x W1 ⟨p', rfl, hj⟩ hp
  have hl := qim hp
  rw [xao] at hl
  exact YieldAt.mono (hY p' ⟨x, qcg hp⟩ W1 hj hl) fun e W' h => h.elim (fun ⟨he, hj', hk'⟩ => .inl ⟨he, ⟨p' ++ [⟨x, qcg hp⟩], by simp, hj'⟩, hk'⟩) (fun ⟨he, hj'⟩ => .inr ⟨he, ⟨p' ++ [⟨x, qcg hp⟩], by simp, hj'⟩⟩)
 ·rintro e W' ⟨hv, ⟨xs, hxs, p', hp', hj⟩ | ⟨pre, hpre, p', hp', hj⟩⟩
  ·exact ⟨hv, .inl ⟨p', hp'.trans hxs, hj⟩⟩
  ·exact ⟨hv, .inr ⟨p', (by show _ <+: _; rw [hp']; exact hpre), hj⟩⟩
theorem qzy (n : Nat) (v : Option Addr) (k : Int) (w : World) :
 CallsIn Fence.wide n Tryz.prog 127 #[.pointer v, .int .i64 k] w fun e w' => e = .returned (.func (.func 148) #[] #[.pointer (some ⟨w.heap.size + 1, 0, none⟩), .pointer (some ⟨w.heap.size, 0, none⟩)]) /\ w' = (w.alloc (.cells #[.pointer v] 28)).alloc (.cells #[.int .i64 k] 3) := by
 refine callsIn_of_wp Tryz.func127 rfl trivial ?_ rfl
 simp only [Tryz.ntmps127, List.size_toArray, List.length_cons, List.length_nil, Nat.reduceAdd, Nat.reduceSub, Array.replicate_succ, Array.replicate_zero, List.push_toArray, List.append_toArray, List.nil_append, List.cons_append]
 gi_wp2
 go_ret
 exact ⟨by simp, rfl⟩
theorem qsx {W w1 : World} {b0 B : Nat} {t e : TypeId} {size : Nat} {v v' : Value} {k m : Nat} {xs ys : List Value} {tmp : Obj}
 (hv : Boxed W B t v) (hB : B < b0) (hrow : W.ownsRow b0 e size v k xs) (hown' : w1.ownsRow b0 e size v' m ys) (hgrow : (W.alloc tmp).grownBy w1 v.ownBlock) :
 Boxed w1 B t v /\ Boxed (w1.setCell ⟨B, 0, none⟩ v') B t v' /\ (w1.setCell ⟨B, 0, none⟩ v').ownsRow b0 e size v' m ys /\ KeepsOthers W (w1.setCell ⟨B, 0, none⟩ v') /\ Mod (fun k => k = B \/ v.ownBlock = some k) W (w1.setCell ⟨B, 0, none⟩ v') := by
 have hne : ∀ {x : World} {u : Value} {j : Nat} {zs : List Value}, x.ownsRow b0 e size u j zs -> some B ≠ u.ownBlock := by
  intro x u j zs h e'
  rcases h.2 with ⟨rfl, _⟩ | ⟨g, cap, cur, rfl, hb, _⟩
  ·simp [Value.ownBlock] at e'
  ·obtain rfl : B = g := by simpa [Value.ownBlock] using e'
   omega
 have hv1 : Boxed w1 B t v := (hv.alloc tmp).kept hgrow (hne hrow)
 refine ⟨hv1, hv1.set v', hown'.kept (grownBy_setCell' w1 B v') (.inr (hne hown').symm), ?_, ?_⟩
 ·refine ((KeepsOthers.alloc W tmp).trans (KeepsOthers.of_grownBy hgrow fun j o ej hj => ?_)).trans (KeepsOthers.setCell _ _ _)
  rcases (hrow.alloc tmp).2 with ⟨rfl, _⟩ | ⟨g, cap, cur, rfl, _, hgb, _⟩
  ·simp [Value.ownBlock] at ej
  ·obtain rfl : g = j := by simpa [Value.ownBlock] using ej
   rw [hgb] at hj; cases hj; rfl
 ·refine ((((Mod.refl _ W).alloc tmp).grown hgrow fun j ej => .inl (.inr ej)).setCell (p := ⟨B, 0, none⟩) (.inl (.inl rfl)) v')
end Ar
end Go.Proofs.YtmceblkjbpbcoaaGreatDoor
