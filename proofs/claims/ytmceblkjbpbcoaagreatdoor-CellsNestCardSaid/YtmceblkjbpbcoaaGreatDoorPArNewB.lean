/- Contracts of layers below. -/
import Derived.Test.YtmceblkjbpbcoaaGreatDoorPBase
import Derived.Test.YtmceblkjbpbcoaaGreatDoorPArOpIn
import Derived.Test.YtmceblkjbpbcoaaGreatDoorPAr6b
import Derived.Test.YtmceblkjbpbcoaaGreatDoorPApG
import Derived.Test.YtmceblkjbpbcoaaGreatDoorPY5
import Derived.Test.YtmceblkjbpbcoaaGreatDoorPAr5
namespace Go.Proofs.YtmceblkjbpbcoaaGreatDoor
set_option maxRecDepth 100000
set_option maxHeartbeats 8000000
open Go.ChangeShapes Go.WideShapes Go.ChangeAt Go.RowKit
namespace Ar
theorem wp_skp {P : Program} {o : Oper} {a : Act} {w w' : World} {K : Act -> World -> Prop} {Q : Exit -> Act -> World -> Prop} (hrun : (execOp a.eval o).run P w = .ok .skip w') (h : K (a.put o.dst undef) w') : o.wp P a w K Q := by
 unfold Oper.wp
 rw [hrun]
 exact h
theorem qlz {α : Type} {xs : List α} {n i : Nat} {v : α} (h : (xs.take n)[i]? = some v) : xs[i]? = some v := by
 rw [List.getElem?_take] at h
 split at h
 ·exact h
 ·cases h
theorem qts {α : Type} {xs : Array α} {i : Nat} {v : α} (h : xs[i]? = some v) : xs.setIfInBounds i v = xs := by
 apply Array.ext_getElem?
 intro j
 rw [Array.getElem?_setIfInBounds]
 by_cases e : i = j
 ·subst e
  rw [if_pos rfl, h, if_pos (xag h).1]
 ·rw [if_neg e]
theorem qku {l : List Nod} {k : Nat} {x : Nod} (h : l[k]? = some x) : x.t.size <= sumT l := by
 have h1 := qh7 h
 have h2 := qkt l (k + 1)
 omega
def q03 (w : World) (l : List Nod) (e : Ending) (w' : World) : Prop :=
 (chkT l = 0 /\ ∃ p, e = .returned (.tuple #[p, .int .i64 0]) /\ Tr w' p l /\ Below w.heap.size w w') ∨
 (chkT l ≠ 0 /\ e = .returned (.tuple #[.pointer none, .int .i64 (chkT l)]) /\ Below w.heap.size w w')
theorem qm6 (l : List Nod) (v : Value) (w : World) (hR : Ns w v l) (hW : WfL l) (hTab : Tab w) :
 Calls Tryz.prog 18 #[v] w (q03 w l) := by
 have CK := xaa (qpc l v w hR hW hTab)
 by_cases hg : chkT l = 0
 ·have hG := (qci l).1 hg
  have hT := hG.tre
  have hlen : 0 < l.length /\ l.length <= 1048576 /\ sumT l <= 1048576 := ⟨hG.pos, hG.most, hG.sum⟩
  obtain ⟨hpos, hlen, hsum⟩ := hlen
  have CC1 := xaa (fun W (h : Below w.heap.size w W) => qob l v W (hR.below h) hlen hpos)
  have CE1 := xaa (fun W (h : Below w.heap.size w W) => qs1 l v W (hR.below h) hT hlen)
  have HSZ : Hid (∀ (k : Nat) (x : Nod), l[k]? = some x -> x.t.size <= 281474976710656) := xaa fun k (x : Nod) h => by
   have := qku h
   omega
  have FIN : Hid (∀ (w' : World) (g gn ge cn : Nat) (cur : Array Value) (f : Nat -> Nat), Blk w' g 102 #[.slice (some ⟨gn, 0, none⟩) l.length cn, .slice (some ⟨ge, 0, none⟩) l.length l.length] -> Blk w' gn 50 cur -> cur.toList.take (l.length * 22) = qiq l -> Blk w' ge 3 (qgw l.length f) -> (∀ i, i < l.length -> f i = endC (psOf l) i) -> TreeAt w' g gn ge cn l.length l) := xaa fun w' g gn ge cn cur f h1 h2 h3 h4 h5 => by
   refine ⟨h1, h2.lt, fun i x hx => h2.part _ (fun j u hu => ?_), h4.lt, fun i hi => ⟨_, qir (by rw [qad]; exact hi), ?_⟩⟩
   ·have h6 := qj6 hx hu
    rw [<- h3] at h6
    simpa using qlz h6
   ·rw [h4.cell, qdd hi, h5 i hi]
    rfl
  rw [hg] at CK
  obtain ⟨A, cap, rfl⟩ := hR.form
  obtain ⟨n, hl⟩ : ∃ n, l.length = n := ⟨_, rfl⟩
  have HL := xaa hl
  rw [hl] at hpos hlen CK CC1 CE1 FIN |-
  have HG := xaa hg
  clear hR hl hG hT hg hsum hW hTab
  go_enter Tryz.func18, Tryz.ntmps18
  go_wp2_with fail
  refine CK.out.mono ?_
  rintro e w1 ⟨rfl, b1⟩
  go_wp2_with fail
  refine (CC1.out _ b1).mono ?_
  rintro e w2 ⟨u, rfl, hown, b2⟩
  have b02 := xaq b1 b2
  obtain ⟨gn, cn, cur, rfl, hgn, hBn, hcur⟩ : ∃ gn cn cur, u = .slice (some ⟨gn, 0, none⟩) n cn /\ w1.heap.size <= gn /\ Blk w2 gn 50 cur /\ cur.toList.take (n * 22) = qiq l := by
   rcases hown.2 with ⟨_, h0⟩ | ⟨g, c, cur, h1, h2, h3, _, _, _, h4⟩
   ·omega
   ·exact ⟨g, c, cur, h1, h2, h3, h4⟩
  have HCUR := xaa hcur
  have hlt2 := hBn.lt
  clear hown hcur
  go_wp2_with fail
  refine (CE1.out _ b02).mono ?_
  rintro e w3 ⟨ge, f, rfl, hge, hBe, hf, b3⟩
  have b03 := xaq b02 b3
  have HF := xaa hf
  have B3n := hBn.kb b3
  clear hf hBn CC1 CE1 CK
  go_wp2_with fail
  have BG := Blk.new w3 102 #[.slice (some ⟨gn, 0, none⟩) n cn, .slice (some ⟨ge, 0, none⟩) n n]
  have b4 := xar w3 (.cells #[.slice (some ⟨gn, 0, none⟩) n cn, .slice (some ⟨ge, 0, none⟩) n n] 102)
  have B4n := B3n.alloc (.cells #[.slice (some ⟨gn, 0, none⟩) n cn, .slice (some ⟨ge, 0, none⟩) n n] 102)
  have B4e := hBe.alloc (.cells #[.slice (some ⟨gn, 0, none⟩) n cn, .slice (some ⟨ge, 0, none⟩) n n] 102)
  have b04 := xaq b03 b4
  have e1 := b02.size
  have e2 := b03.size
  have e3 := b1.size
  have hgG : gn < w3.heap.size := B3n.lt
  obtain ⟨G, hG⟩ : ∃ G, w3.heap.size = G := ⟨_, rfl⟩
  rw [hG] at BG e2 hgG |-
  obtain ⟨w4, hw4⟩ : ∃ w4, w3.alloc (.cells #[.slice (some ⟨gn, 0, none⟩) n cn, .slice (some ⟨ge, 0, none⟩) n n] 102) = w4 := ⟨_, rfl⟩
  rw [hw4] at BG B4n B4e b04 |-
  clear hw4 hG B3n hBe b1 b2 b3 b4 b02 b03
  go_loopg [24] n (fun kx s24 wr => ∃ k : Nat, s24 = .int .i64 k /\ k <= n /\ kx = n - k /\ Below w.heap.size w wr /\ Blk wr G 102 #[.slice (some ⟨gn, 0, none⟩) n cn, .slice (some ⟨ge, 0, none⟩) n n] /\ Blk wr gn 50 cur /\ Blk wr ge 3 (qgw n f))
  case atStart => exact ⟨0, rfl, by omega, rfl, b04, BG, B4n, B4e⟩
  case round =>
   obtain ⟨k, rfl, hk, rfl, bel, hBG, hBn, hBe⟩ := hrel
   clear BG B4n B4e b04
   by_cases hlt : k < n
   ·have hz : (k : Int) < n := by omega
    have hkl : k < l.length := by rw [HL.out]; exact hlt
    obtain ⟨x, hx⟩ := qex hkl
    have hat : ∀ (j : Nat) (u : Value), x.cells[j]? = some u -> cur[k * 22 + j]? = some u := fun j u hu => by
     have h6 := qj6 hx hu
     rw [<- HCUR.out] at h6
     simpa using qlz h6
    have hLi : qar wr ⟨gn, k * 22, none⟩ x.cells := hBn.part _ hat
    have hsame : cur.setIfInBounds (k * 22 + 2) (.string x.t) = cur := qts (hat 2 _ rfl)
    obtain ⟨t, ht⟩ : ∃ t, x.t = t := ⟨_, rfl⟩
    have CC := xaa (fun W => qnj x.t W (HSZ.out k x hx))
    have hc0 := hBG.cell 0
    have HSM := xaa hsame
    rw [ht] at CC HSM
    have HT := xaa ht
    have HX := xaa hx
    have h22 : cur[k * 22 + 2]? = some (.string t) := hat 2 (.string t) (by rw [<- ht]; rfl)
    have H22 := xaa h22
    have HBG := xaa hBG
    have HBN := xaa hBn
    have HBE := xaa hBe
    clear hx hat hsame ht hkl h22 hBG hBn hBe
    go_wp2_with (first
     | (refine ldN rfl (.tmp 27) rfl _ rfl x hLi ?_)
     | (refine alNV rfl rfl ?_; intro w6 b6 B6)
     | (refine stN rfl (.tmp 7) (.tmp 28) rfl rfl wr.heap.size rfl x rfl .zero B6 ?_; intro w5 m5 B5))
    have b5 : Below wr.heap.size wr w5 := b6.trans (m5.below b6.size (fun k hk => by omega))
    have A5 := HBG.out.kb b5
    have N5 := HBN.out.kb b5
    have E5 := HBE.out.kb b5
    have CG : Hid (∀ W, Below w5.heap.size w5 W -> W.cell? ⟨G, 0, none⟩ = some (.slice (some ⟨gn, 0, none⟩) n cn)) := xaa fun W h => (h.cell (p := ⟨G, 0, none⟩) A5.lt).trans (A5.cell 0)
    have CT : Hid (∀ W, Below w5.heap.size w5 W -> W.cell? ⟨wr.heap.size, 2, none⟩ = some (.string t)) := xaa fun W h => (h.cell (p := ⟨wr.heap.size, 2, none⟩) B5.lt).trans ((B5.cell 2).trans (by rw [<- HT.out]; rfl))
    have b15 := bel.trans (b5.mono bel.size)
    have HA5 := xaa A5
    have HN5 := xaa N5
    have HE5 := xaa E5
    clear A5 N5 E5 B5 B6 HBG HBN HBE m5 b6 b5 hLi hc0
    go_wp2_with fail
    refine qcs (by kernel_rfl) (fun W => Below w5.heap.size w5 W) (below_drewN (xas) 1) 10 (by rfl) (by kernel_rfl) (by kernel_rfl) (fun R hR => ?_)
    refine AllS.t_ (i := 0) ?_
    refine AllS.t_ (i := 1) ?_
    refine AllS.t_ (i := 2) ?_
    refine AllS.f_ (i := 3) CG.out ?_
    refine AllS.t_ (i := 4) ?_
    refine AllS.t_ (i := 5) ?_
    refine AllS.f_ (i := 6) CT.out ?_
    refine AllS.c_ (i := 7) (.string t) 36 #[.string t] (fun W hSw => ?_) ?_
    ·exact (CC.out W).mono (fun e w' h => ⟨h.1, xaq hSw h.2⟩)
    refine AllS.t_ (i := 8) ?_
    refine AllS.t_ (i := 9) ?_
    refine AllS.done (by kernel_rfl) (hR.out _ ?_) _
    clear hR R
    intro w7 b7
    refine qbh (by rw [xab]; rfl) rfl ?_
    have N7 := HN5.out.kb b7
    have hq : w7.cell? ⟨gn, k * 22 + 2, none⟩ = some (.string t) := (N7.cell _).trans H22.out
    have hfz := N7.frozen (k * 22 + 2)
    refine wp_skp (w' := w7.setCell ⟨gn, k * 22 + 2, none⟩ (.string t)) (by go_simp) ?_
    have N8 : Blk (w7.setCell ⟨gn, k * 22 + 2, none⟩ (.string t)) gn 50 cur := by
     have := N7.set_ (k * 22 + 2) (.string t)
     rwa [HSM.out] at this
    have m8 : Mod (fun j => j = gn) w5 (w7.setCell ⟨gn, k * 22 + 2, none⟩ (.string t)) := Mod.setCell (S := fun j => j = gn) (xap b7) (.inl rfl) _
    obtain ⟨w8, hw8⟩ : ∃ w8, w7.setCell ⟨gn, k * 22 + 2, none⟩ (.string t) = w8 := ⟨_, rfl⟩
    rw [hw8] at N8 m8 |-
    clear hw8 hq hfz
    go_wp2_with fail
    go_roundg (n - (k + 1))
    case measure => omega
    case rel => exact ⟨k + 1, by go_num, by omega, rfl, b15.trans (m8.below b15.size (fun j hj => by omega)), HA5.out.keep m8 (by omega), N8, HE5.out.keep m8 (by omega)⟩
   ·obtain rfl : k = n := by omega
    have RT := xaa (FIN.out wr G gn ge cn cur f hBG hBn HCUR.out hBe HF.out)
    clear FIN
    go_wp2_with fail
    go_ret2
    exact .inl ⟨HG.out, _, rfl, ⟨_, _, _, _, _, rfl, RT.out⟩, bel⟩
 ·obtain ⟨z, hz⟩ : ∃ z, chkT l = z := ⟨_, rfl⟩
  have HZ := xaa hz
  rw [hz] at hg CK
  clear hR hW hTab hz
  go_enter Tryz.func18, Tryz.ntmps18
  go_wp2_with fail
  refine CK.out.mono ?_
  rintro e w1 ⟨rfl, b1⟩
  go_wp2_with fail
  go_ret2
  exact .inr ⟨by rw [HZ.out]; exact hg, by rw [HZ.out]; rfl, b1⟩
end Ar
namespace Ar
open Go.Deep
section
variable {H : Type} {enc : TypeId × Value -> H} {W : World} {r : Reach} {b0 : Nat} {v : Value} {d : DataW H} {ps : List MemPlace} {fuel : Nat} {cs : List Value} {y : DataW H × List MemPlace}
theorem w8_of {a : Int} (h : (Lit.int .u8 a).wf = true) : 0 <= a /\ a <= 255 := by
 simpa [Lit.wf, IntKind.min, IntKind.max, IntKind.signed, IntKind.bits] using h
theorem c37 : Tryz.prog.cellsOf 50 = 22 := by kernel_rfl
theorem cV : Tryz.prog.cellsOf 48 = 2 := by kernel_rfl
theorem val_of (h : DataW.trod enc Tryz.prog W 0 (fun _ => true) true fuel 48 cs = some y) : ∃ k n : Int, cs = [.int .u8 k, .int .i64 n] /\ 0 <= k := by
 obtain ⟨xs, n, _, _, hl, hyl, hf⟩ := DataW.trod_struct Tryz.underlying48 h
 have hl2 : cs.length = 2 := hl.trans cV
 have hy2 : xs.length = 2 := hyl
 match cs, hl2 with
 | [q0, q1], _ =>
   obtain ⟨z0, g0, _, w0⟩ := DataW.trod_int Tryz.underlying5 ((hf 0 _ rfl).trans (xac (by omega)))
   obtain ⟨z1, g1, _, _⟩ := DataW.trod_int Tryz.underlying2 ((hf 1 _ rfl).trans (xac (by omega)))
   simp [c5] at g0
   simp [c2] at g1
   subst g0 g1
   exact ⟨z0, z1, rfl, (w8_of w0).1⟩
theorem nod_of (h : DataW.trod enc Tryz.prog W 0 (fun _ => true) true fuel 50 cs = some y) : ∃ x : Nod, cs = x.cells.toList /\ WfN x := by
 obtain ⟨xs, n, _, _, hl, hyl, hf⟩ := DataW.trod_struct Tryz.underlying50 h
 have hl22 : cs.length = 22 := hl.trans c37
 have hy : xs.length = 12 := hyl
 obtain ⟨d, hd, wd⟩ := dcl_of ((hf 3 _ rfl).trans (xac (by omega)))
 obtain ⟨vk, vn, hval, wv⟩ := val_of ((hf 4 _ rfl).trans (xac (by omega)))
 obtain ⟨z0, g0, _, w0⟩ := DataW.trod_int Tryz.underlying5 ((hf 0 _ rfl).trans (xac (by omega)))
 obtain ⟨z1, g1, _, _⟩ := DataW.trod_int Tryz.underlying3 ((hf 1 _ rfl).trans (xac (by omega)))
 obtain ⟨s2, g2, _, w2⟩ := DataW.trod_string Tryz.underlying9 ((hf 2 _ rfl).trans (xac (by omega)))
 obtain ⟨z5, g5, _, _⟩ := DataW.trod_int Tryz.underlying2 ((hf 5 _ rfl).trans (xac (by omega)))
 obtain ⟨z6, g6, _, _⟩ := DataW.trod_int Tryz.underlying2 ((hf 6 _ rfl).trans (xac (by omega)))
 obtain ⟨z7, g7, _, _⟩ := DataW.trod_int Tryz.underlying2 ((hf 7 _ rfl).trans (xac (by omega)))
 obtain ⟨z8, g8, _, _⟩ := DataW.trod_int Tryz.underlying2 ((hf 8 _ rfl).trans (xac (by omega)))
 obtain ⟨z9, g9, _, _⟩ := DataW.trod_int Tryz.underlying2 ((hf 9 _ rfl).trans (xac (by omega)))
 obtain ⟨z10, g10, _, _⟩ := DataW.trod_int Tryz.underlying3 ((hf 10 _ rfl).trans (xac (by omega)))
 obtain ⟨z11, g11, _, _⟩ := DataW.trod_int Tryz.underlying3 ((hf 11 _ rfl).trans (xac (by omega)))
 have e0 : (cs.drop 0).take 1 = [.int .u8 z0] := g0
 have e1 : (cs.drop 1).take 1 = [.int .i64 z1] := g1
 have e2 : (cs.drop 2).take 1 = [.string s2] := g2
 have e3 : (cs.drop 3).take 10 = d.cells.toList := hd
 have e4 : (cs.drop 13).take 2 = [.int .u8 vk, .int .i64 vn] := hval
 have e5 : (cs.drop 15).take 1 = [.int .i64 z5] := g5
 have e6 : (cs.drop 16).take 1 = [.int .i64 z6] := g6
 have e7 : (cs.drop 17).take 1 = [.int .i64 z7] := g7
 have e8 : (cs.drop 18).take 1 = [.int .i64 z8] := g8
 have e9 : (cs.drop 19).take 1 = [.int .i64 z9] := g9
 have e10 : (cs.drop 20).take 1 = [.int .i64 z10] := g10
 have e11 : (cs.drop 21).take 1 = [.int .i64 z11] := g11
 have hk := w8_of w0
 refine ⟨⟨z0, z1, s2, d, vk, vn, z5, z6, z7, z8, z9, z10, z11⟩, ?_, hk.1, hk.2, wd, w2, wv⟩
 have st : ∀ (a k : Nat), cs.drop a = (cs.drop a).take k ++ cs.drop (a + k) := fun a k => by
  rw [<- List.drop_drop, List.take_append_drop]
 have f0 : cs = cs.drop 0 := rfl
 rw [f0, st 0 1, st (0 + 1) 1, st (0 + 1 + 1) 1, st (0 + 1 + 1 + 1) 10, st (0 + 1 + 1 + 1 + 10) 2, st (0 + 1 + 1 + 1 + 10 + 2) 1, st (0 + 1 + 1 + 1 + 10 + 2 + 1) 1, st (0 + 1 + 1 + 1 + 10 + 2 + 1 + 1) 1, st (0 + 1 + 1 + 1 + 10 + 2 + 1 + 1 + 1) 1, st (0 + 1 + 1 + 1 + 10 + 2 + 1 + 1 + 1 + 1) 1, st (0 + 1 + 1 + 1 + 10 + 2 + 1 + 1 + 1 + 1 + 1) 1, st (0 + 1 + 1 + 1 + 10 + 2 + 1 + 1 + 1 + 1 + 1 + 1) 1]
 simp only [Nat.zero_add, Nat.reduceAdd]
 rw [e0, e1, e2, e3, e4, e5, e6, e7, e8, e9, e10, e11, List.drop_of_length_le (by omega)]
 rfl
theorem qq7 (hv : Value.okWide Tryz.prog W r b0 22 v) (h : DataW.Trod enc Tryz.prog W 0 (fun _ => true) true 22 v d ps) : ∃ l : List Nod, Ns W v l /\ WfL l /\ l.length <= 9223372036854775807 := by
 obtain ⟨a, len, cap, rfl⟩ := okWide_slice Tryz.underlying22 hv
 obtain ⟨f, hf⟩ := h
 obtain ⟨l, h1, h2⟩ := qek (fun x : Nod => x.cells.toList) WfN Tryz.underlying22 c37 (by omega) (fun _ => rfl) (fun n cs y hy => nod_of hy) hf
 refine ⟨l, qa5.mono h1 fun _ _ h => h.elim, fun i x hx => h2 x (xav hx), ?_⟩
 have hlen : len = l.length := by
  obtain ⟨A, c, hA⟩ := qa5.form h1
  rw [xao] at hA
  injection hA with _ hA _
 rw [<- hlen]
 rcases open_slice Tryz.underlying22 hf with ⟨hcs, _⟩ | ⟨a', len', cap', m, n, D, Pl, hcs, _, hl, hm, _⟩
 ·simp [Value.cells] at hcs
  omega
 ·simp [Value.cells] at hcs
  obtain ⟨_, rfl, rfl⟩ := hcs
  have : maxLen = 9223372036854775807 := rfl
  omega
end
end Ar
end Go.Proofs.YtmceblkjbpbcoaaGreatDoor
