/- Contracts of layers below. -/
import Derived.Test.YtmceblkjbpbcoaaGreatDoorPAr3
import Derived.Test.YtmceblkjbpbcoaaGreatDoorPY5
import Derived.Maps.AppendAt
import Derived.Deep.CutBlock
import Derived.Lib.Strings
import Derived.Lib.Walk
import Derived.Lib.BufferWrite
import Derived.Lib.UnsafeStr
import Derived.Laws.MakeOwn
namespace Go.Proofs.YtmceblkjbpbcoaaGreatDoor
set_option maxRecDepth 100000
set_option maxHeartbeats 4000000
open Go.ChangeShapes Go.WideShapes Go.ChangeAt Go.RowKit
namespace Ar
open Go.Shelf
attribute [local go_sem] Oper.semAt_some
theorem qjq {β : Type} (B c : Nat) : OwnFrom B (fun (_ : β) W => c <= W.heap.size) := fun _ _ _ _ hs hg _ => xau hs hg.size
theorem qxc {w : World} {base : Nat} {e : TypeId} {size : Nat} {v : Value} {n : Nat} {xs : List Value} {k : Nat} (h : w.ownsRow base e size v n xs) (hk : v.ownBlock = some k) : base <= k := by
 rcases h.2 with ⟨rfl, _⟩ | ⟨g, cap, cur, rfl, hb, _⟩
 ·simp [Value.ownBlock] at hk
 ·obtain rfl : g = k := by simpa [Value.ownBlock] using hk
  exact hb
def iv (x : Nat) : Value := .int .i64 (x : Int)
theorem infoI : (Tryz.prog.info? 3).map (fun i => (i.zero, i.size, i.bytes)) = some (some (.int .i64 0), 1, 8) := by kernel_rfl
theorem qs0 (v : Value) (l : List Nod) (k : Nat) (w : World) (h : Tr w v l) (hT : Tre (psOf l)) (hk : k < l.length) (hlen : l.length <= 1048576) :
 Calls Tryz.prog 100 #[v, .int .i64 (k : Int)] w fun e w' => ∃ u, e = .returned (.tuple #[u, .int .i64 0]) /\ Row (fun b => b < w.heap.size) w' u ((kidsL (psOf l) k).map iv) /\ Below w.heap.size w w' := by
 have C := xaa (qbg v l.length k w h.len)
 rw [qgg hk] at C
 obtain ⟨g, gn, ge, cn, ce, rfl, hTA⟩ := h
 obtain ⟨i0, hi, hz0, hz1, hz2⟩ := qbl infoI
 have hdl : (kidsL (psOf l) k).length <= 1048576 := by
  exact xau (List.length_filter_le (fun j => decide (pr (psOf l) j = (k : Int))) (List.range (psOf l).length)) (by rw [List.length_range, qad]; exact hlen)
 refine (callsIn_wide (n := 5)).1 ?_
 refine callsIn_of_wp_marks Tryz.func100 rfl trivial ?_ rfl
 simp only [Tryz.ntmps100, List.size_toArray, List.length_cons, List.length_nil, Nat.reduceAdd, Nat.reduceSub, Array.replicate_succ, Array.replicate_zero, List.push_toArray, List.append_toArray, List.nil_append, List.cons_append]
 gi_wp2_with fail
 refine ⟨trivial, (callsIn_wide.2 C.out).mono ?_⟩
 rintro e w1 ⟨rfl, rfl⟩
 gi_wp2_with fail
 refine ⟨trivial, (qzy _ _ _ _).mono ?_⟩
 rintro e w1 ⟨rfl, rfl⟩
 gi_wp2_with fail
 have hz := Boxed.new w 37 (.slice none 0 0)
 have b0 : Below w.heap.size w (((w.alloc (.cells #[.slice none 0 0] 37)).alloc (.cells #[.pointer (some ⟨g, 0, none⟩)] 28)).alloc (.cells #[.int .i64 (k : Int)] 3)) := (((Below.refl _ w).alloc (xat) _).alloc (by simp) _).alloc (by simp; omega) _
 have hTA2 := hTA.below b0
 have q1 := hTA.ht.lt
 have q2 := hTA.hgn
 have q3 := hTA.hge
 have bt := Boxed.new (w.alloc (.cells #[.slice none 0 0] 37)) 28 (.pointer (some ⟨g, 0, none⟩))
 have bn := Boxed.new ((w.alloc (.cells #[.slice none 0 0] 37)).alloc (.cells #[.pointer (some ⟨g, 0, none⟩)] 28)) 3 (.int .i64 (k : Int))
 simp only [World.size_alloc] at bt bn
 refine wpIn_rangeFunc_ownF rfl (by omega) (gf := 148) (lb := #[.pointer (some ⟨w.heap.size + 1 + 1, 0, none⟩), .pointer (some ⟨w.heap.size + 1, 0, none⟩)]) rfl trivial (enters_of Tryz.func148 (by kernel_rfl) rfl)
  (qod _ (w.heap.size + 1) (w.heap.size + 1 + 1) g gn ge cn ce l k _ hT hk hlen (by simp) (by simp) (bt.alloc _).cell bn.cell hTA2) qeh.trans (qeh.obj (fun b hb => by simp; rcases hb with rfl | rfl | rfl | rfl | rfl <;> omega)) (xas) (fun _ => rfl)
  (fun pre W => (∃ v, Boxed W w.heap.size 37 v /\ W.ownsRow (w.heap.size + 3) 3 1 v pre.length (pre.map fun x => iv x.1) /\ True) /\ (Below w.heap.size w W /\ w.heap.size + 3 <= W.heap.size))
  (fun _ _ _ => False)
  (OwnFrom.and (Own.from (holdsRow_own (w.heap.size + 3) w.heap.size 37 3 1 (fun pre : List {x // x ∈ kidsL (psOf l) k} => pre.length) (fun pre => pre.map fun x => iv x.1) (fun _ _ => True)) _) (OwnFrom.and (ownFrom_below (xat) (by simp; omega)) (qjq _ _)))
  (fun _ _ _ _ _ hs _ _ => hs)
  ⟨⟨_, (hz.alloc _).alloc _, World.ownsRow_nil _ _ _ _, trivial⟩, b0, by simp⟩
  ?a1 ?assign ?body ?done ?stop
 case assign =>
  intro L x W K hK
  simp only [encM, encN]
  gi_wp2
  exact hK
 case body =>
  rintro L pre x W ⟨⟨v, hv, hrow, _⟩, hB, hle⟩ hl
  have hc := hv.cell
  have hml : pre.length <= 1048576 := by omega
  gi_wp2_with (gi_at_builtin; refine wpListIn_append_own _ rfl _ _ 37 rfl (w.heap.size + 3) 3 i0 (.int .i64 0) 1 8 Tryz.underlying37 hi hz0 hz1 hz2 rfl (by decide) _ _ _ rfl (hrow.alloc _) ⟨W.heap.size, 0, none⟩ 1 1 [iv x.1] rfl rfl (cell_one_new _ _ _) (by simp [iv, Value.oneCell']) (by unfold maxLen; omega) (by omega) (by simp; omega) ?_; intro v' w3 hown' hgrow _; obtain ⟨g', cap', rfl⟩ := ownsRow_succ hown'; obtain ⟨hv1, hv2, hr2, hk2, hb2⟩ := qsx hv (by omega) hrow hown' hgrow; have hc1 := hv1.cell; have hf1 := hv1.frozen)
  refine ⟨hk2, fun b hb => hb2.block b (by rcases hb with rfl | rfl | rfl | rfl | rfl <;> omega) ?_, ⟨_, hv2, ?_, trivial⟩, hB.trans (hb2.below hB.size fun b hb => ?_), xau hle hb2.size⟩
  ·rintro (rfl | hown)
   ·rcases hb with h | h | h | h | h <;> omega
   ·have := qxc hrow hown
    rcases hb with h | h | h | h | h <;> omega
  ·rw [List.length_append, List.map_append]
   exact hr2
  ·rcases hb with rfl | hown
   ·exact xat
   ·have := qxc hrow hown
    omega
 case done =>
  rintro D ys W hD hys ⟨⟨v, hv, hrow, _⟩, hB, _⟩ hK
  have hc := hv.cell
  gi_wp2
  refine ⟨by simp, .inl ⟨_, _, rfl, run_takeDeferred hK, ?_⟩⟩
  refine ⟨_, results_tmp2 rfl _ _ _, v, rfl, ?_, hB.trans (belowK_b (w := w) (xat) W D _ _ (by simp at hD; omega) hK rfl rfl)⟩
  have hr := ownsRow_putObj hrow (.deferred none) hK rfl
  have hr2 := (Row.of_own hr).mono (T := fun b => b < w.heap.size) fun _ _ h => Nat.lt_of_lt_of_le h (Nat.le_add_right _ 3)
  rw [<- hys, List.map_map]
  exact hr2
 case stop =>
  rintro D c pre W _ _ h _
  exact h.elim
end Ar
namespace Ar
structure WfN (x : Nod) : Prop where
 k0 : 0 <= x.k
 k1 : x.k <= 255
 d : x.d.n < 65536
 t : x.t.size <= 9223372036854775807
 vk : 0 <= x.vk
def WfL (l : List Nod) : Prop := ∀ (i : Nat) (x : Nod), l[i]? = some x -> WfN x
theorem qln (z lo hi : Int) (w : World) :
 Calls Tryz.prog 137 #[.int .i64 z, .int .i64 lo, .int .i64 hi] w fun e w' => e = .returned (.bool (decide (lo <= z) && decide (z <= hi))) /\ w = w' := by
 by_cases h1 : lo <= z
 ·rw [decide_eq_true h1, Bool.true_and]
  go_enter Tryz.func137, Tryz.ntmps137
  go_wp2_with fail
  go_ret
  exact ⟨rfl, rfl⟩
 ·have h3 : z < lo := by omega
  rw [decide_eq_false h1, Bool.false_and]
  clear h1
  go_enter Tryz.func137, Tryz.ntmps137
  go_wp2_with fail
  go_ret
  exact ⟨rfl, rfl⟩
theorem qy4 {l : List Nod} {n i : Nat} {x : Nod} (h : i < n) (hx : l[i]? = some x) : pr (psOf (l.take n)) i = x.p := qk1 (by rw [List.getElem?_take_of_lt h]; exact hx)
theorem qs2 (l : List Nod) (v : Value) (n : Nat) (x : Nod) (last : Int) (w : World) (hR : Ns w v l) (hlen : l.length <= 1048576) (hx : l[n]? = some x) (hP : PreOk (l.take n) last) :
 Calls Tryz.prog 110 #[v, .int .i64 (n : Int), .int .i64 last] w fun e w' => e = .returned (.int .i64 (depA (psOf (l.take n)) x.p last)) /\ w = w' := by
 have HR := xaa hR
 have HX := xaa hx
 have hn : n < l.length := (xah hx).1
 have hlt : (psOf (l.take n)).length = n := by rw [qad, List.length_take]; omega
 have hlast : -1 <= last /\ last <= 1048576 := by
  rcases hP.tree with ⟨_, rfl⟩ | ⟨h1, rfl⟩
  ·omega
  ·have := dep_le h1 ((l.take n).length - 1)
   have : (l.take n).length <= l.length := by rw [List.length_take]; omega
   omega
 have HPB : Hid (∀ i y, i < n -> l[i]? = some y -> -1 <= y.p /\ y.p < i) := fun i y hi hy => by
  rcases hP.tree with ⟨h1, _⟩ | ⟨h1, _⟩
  ·rw [List.length_take] at h1; omega
  ·exact qjo h1 (by rw [List.getElem?_take_of_lt hi]; exact hy)
 obtain ⟨ad0, cap0, o0, hv0, _, ha0, hLi0⟩ := hR.get (xas) hx
 have hc0 := hLi0.p
 obtain ⟨tgt, htg⟩ : ∃ t, x.p = t := ⟨_, rfl⟩
 rw [htg] at hc0 |-
 obtain ⟨P, hPd⟩ : ∃ P, psOf (l.take n) = P := ⟨_, rfl⟩
 have HPD := xaa hPd
 rw [hPd] at hlt |-
 obtain ⟨m, hm⟩ : ∃ m, l.length = m := ⟨_, rfl⟩
 have HM := xaa hm
 rw [hm] at hlen hn hv0
 obtain ⟨D, hD⟩ : ∃ D, depA P tgt last = D := ⟨_, rfl⟩
 have HD : Hid (D = if (qgx P tgt (n + 1) ((n : Int) - 1) last).1 = tgt /\ ((qgx P tgt (n + 1) ((n : Int) - 1) last).1 < 0 ↔ n = 0) then (qgx P tgt (n + 1) ((n : Int) - 1) last).2 + 1 else -1) := by
  show _ = _
  rw [<- hD]
  unfold depA
  rw [hlt]
 rw [hD]
 obtain ⟨l1, l2⟩ := hlast
 have hnz : (n : Int) < m := by omega
 clear hR hx hP hLi0 htg hPd hm hD hlt
 subst hv0
 go_enter Tryz.func110, Tryz.ntmps110
 go_wp2_with fail
 go_loopg [2, 7] n (fun kx s2 s7 wr => w = wr /\ ∃ (a la : Int) (f : Nat), s2 = .int .i64 la /\ s7 = .int .i64 a /\ -1 <= a /\ a < n /\ a < f /\ last - n <= la - (a + 1) /\ la <= last /\ kx = (a + 1).toNat /\ Hid (qgx P tgt (n + 1) ((n : Int) - 1) last = qgx P tgt f a la))
 case atStart => exact ⟨rfl, (n : Int) - 1, last, n + 1, rfl, by go_num, by omega, by omega, by omega, by omega, by omega, by omega, xaa rfl⟩
 case round =>
  obtain ⟨rfl, a, la, f, rfl, rfl, h1, h2, h3, h4, h5, rfl, HI⟩ := hrel
  by_cases hgo : 0 <= a /\ a ≠ tgt
  ·obtain ⟨g1, g2⟩ := hgo
   obtain ⟨k, rfl⟩ : ∃ k : Nat, a = k := ⟨a.toNat, by omega⟩
   obtain ⟨f', rfl⟩ : ∃ f', f = f' + 1 := ⟨f - 1, by omega⟩
   have hkl : k < l.length := by rw [HM.out]; omega
   obtain ⟨y, hy⟩ := qex hkl
   obtain ⟨q1, q2⟩ := HPB.out k y (by omega) hy
   obtain ⟨ad, cap2, o, hv, _, ha, hLi⟩ := HR.out.get (xas) hy
   rw [HM.out] at hv
   injection hv with hv1 hv2 hv3
   injection hv1 with hv1
   subst hv1 hv3
   have hc := hLi.p
   have HI' : Hid (qgx P tgt (n + 1) ((n : Int) - 1) last = qgx P tgt f' y.p (la - 1)) := by
    show _ = _
    have hpk := qy4 (by omega : k < n) hy
    rw [HPD.out] at hpk
    rw [HI.out, qgx, if_pos ⟨g1, g2⟩, xax, hpk]
   obtain ⟨p, hp⟩ : ∃ p, y.p = p := ⟨_, rfl⟩
   rw [hp] at q1 q2 hc HI'
   have hkz : (k : Int) < m := by omega
   clear hv2 hLi hy hp HI HD
   go_wp2_with fail
   go_roundg ((p + 1).toNat)
   case measure => omega
   case rel => exact ⟨rfl, p, la - 1, f', by go_num, rfl, q1, by omega, by omega, by omega, by omega, rfl, HI'⟩
  ·have HI' : Hid (qgx P tgt (n + 1) ((n : Int) - 1) last = (a, la)) := by
    show _ = _
    rw [HI.out]
    cases f with
    | zero => rfl
    | succ f => rw [qgx, if_neg hgo]
   have HD' : Hid (D = if a = tgt /\ (a < 0 ↔ n = 0) then la + 1 else -1) := by
    have := HD.out
    rw [HI'.out] at this
    exact this
   clear HD HI HI'
   by_cases g1 : 0 <= a
   ·have g2 : a = tgt := Classical.byContradiction fun h => hgo ⟨g1, h⟩
    subst g2
    have hn0 : ¬ (n : Int) = 0 := by omega
    have hE : D = la + 1 := by
     rw [HD'.out, if_pos ⟨rfl, by constructor <;> (intro; omega)⟩]
    subst hE
    have d1 : decide (a < 0) = false := decide_eq_false (by omega)
    have d2 : decide ((n : Int) = 0) = false := decide_eq_false (by omega)
    clear HD' hgo
    go_wp2_with fail
    go_ret
    exact ⟨qb7 (by omega), rfl⟩
   ·obtain rfl : a = -1 := by omega
    by_cases g2 : -1 = tgt
    ·subst g2
     by_cases hn0 : n = 0
     ·subst hn0
      have hE : D = la + 1 := by
       rw [HD'.out, if_pos ⟨rfl, by constructor <;> (intro; omega)⟩]
      subst hE
      clear HD' hgo
      go_wp2_with fail
      go_ret
      exact ⟨qb7 (by omega), rfl⟩
     ·have hE : D = -1 := by
       rw [HD'.out, if_neg (by intro ⟨_, h⟩; exact hn0 (h.1 (by omega)))]
      subst hE
      have hnz0 : ¬ (n : Int) = 0 := by omega
      have d2 : ((n : Int) == 0) = false := by simpa using hn0
      have d3 : (!((n : Int) == 0)) = true := by rw [d2]; rfl
      clear HD' hgo
      go_wp2_with fail
      go_ret
      exact ⟨rfl, rfl⟩
    ·have hE : D = -1 := by
      rw [HD'.out, if_neg (by intro ⟨h, _⟩; exact g2 h)]
     subst hE
     clear HD' hgo
     go_wp2_with fail
     go_ret
     exact ⟨rfl, rfl⟩
theorem qo3 (l : List Nod) (v : Value) (n : Nat) (x : Nod) (w : World) (hR : Ns w v l) (hx : l[n]? = some x) (hx0 : 0 <= x.k) (hTab : Tab w)
 (hp : 0 < n -> 0 <= x.p /\ x.p < n) (hk : 0 < n -> 0 <= qav l x.p /\ qav l x.p <= 8) :
 Calls Tryz.prog 111 #[v, .int .i64 (n : Int)] w fun e w' => e = .returned (.bool (qdk (decide (n = 0)) x.k (qav l x.p))) /\ w = w' := by
 have hn : n < l.length := (xah hx).1
 obtain ⟨ad0, cap0, o0, hv0, _, ha0, hLi0⟩ := hR.get (xas) hx
 have hck := hLi0.k
 have hcp := hLi0.p
 by_cases hn0 : n = 0
 ·subst hn0
  rw [show qdk (decide (0 = 0)) x.k (qav l x.p) = (x.k == 0) from rfl]
  obtain ⟨kx, hkx⟩ : ∃ k, x.k = k := ⟨_, rfl⟩
  rw [hkx] at hck |-
  obtain ⟨m, hm⟩ : ∃ m, l.length = m := ⟨_, rfl⟩
  rw [hm] at hv0 hn
  subst hv0
  have hz : ((0 : Nat) : Int) < m := by omega
  clear hR hx hLi0 hkx hm hp hk hTab
  go_enter Tryz.func111, Tryz.ntmps111
  go_wp2_with fail
  go_ret
  exact ⟨rfl, rfl⟩
 ·rw [decide_eq_false hn0]
  have hnz : ¬ (n : Int) = 0 := by omega
  obtain ⟨p0, p1⟩ := hp (by omega)
  obtain ⟨pk, hpk⟩ : ∃ pk : Nat, x.p = pk := ⟨x.p.toNat, by omega⟩
  obtain ⟨k0, k8⟩ := hk (by omega)
  have hpl : pk < l.length := by omega
  obtain ⟨y, hy⟩ := qex hpl
  have hky : qav l x.p = y.k := by unfold qav; rw [hpk, xal, xax, hy]; rfl
  obtain ⟨ad, cap, o, hv, _, ha, hLi⟩ := hR.get (xas) hy
  have hv' := hv0.symm.trans hv
  injection hv' with hv1 hv2 hv3
  injection hv1 with hv1
  subst hv1 hv3
  have hcq := hLi.k
  rw [hky] at k0 k8 |-
  obtain ⟨q, hq⟩ : ∃ q : Nat, y.k = q := ⟨y.k.toNat, by omega⟩
  rw [hq] at hcq k8 |-
  rw [hpk] at hcp
  have hq8 : q <= 8 := by omega
  have hct := hTab.kids.cell rfl hq8
  obtain ⟨kk, hkk⟩ : ∃ kk : Nat, x.k = kk := ⟨x.k.toNat, by omega⟩
  rw [hkk] at hck |-
  obtain ⟨m, hm⟩ : ∃ m, l.length = m := ⟨_, rfl⟩
  rw [hm] at hv0 hn hpl
  have hz1 : (n : Int) < m := by omega
  have hz2 : (pk : Int) < m := by omega
  have hz3 : (q : Int) < 9 := by omega
  have hru := fun h : kk <= 8 => hTab.ruby.cell rfl h
  clear hR hx hLi0 hLi hy hky hq hkk hm hp hk hTab hv hv2 k0 hpk p0 p1
  subst hv0
  by_cases hk0 : kk = 0 \/ 9 <= kk
  ·have e : qdk false (kk : Int) (q : Int) = false := by
    unfold qdk
    rcases hk0 with rfl | h
    ·rfl
    ·have : decide (9 <= (kk : Int)) = true := decide_eq_true (by omega)
     simp [this]
   rw [e]
   clear hru e
   rcases hk0 with rfl | h
   ·go_enter Tryz.func111, Tryz.ntmps111
    go_wp2_with fail
    go_ret
    exact ⟨rfl, rfl⟩
   ·have h0 : ¬ (kk : Int) = 0 := by omega
    have h9 : 9 <= (kk : Int) := by omega
    go_enter Tryz.func111, Tryz.ntmps111
    go_wp2_with fail
    go_ret
    exact ⟨rfl, rfl⟩
  ·have h0 : ¬ (kk : Int) = 0 := by omega
   have h9 : (kk : Int) < 9 := by omega
   have h9' : ¬ 9 <= (kk : Int) := by omega
   have hcr := hru (by omega)
   clear hru hk0
   have e : qdk false (kk : Int) (q : Int) = if (tb tRuby (kk : Int) && !((q : Int) == 6)) || ((q : Int) == 5 && !((kk : Int) == 4)) then false else tb tKids (q : Int) := by
    unfold qdk
    rw [if_neg (by simp), if_neg (by simp; omega)]
   rw [e]
   clear e
   obtain ⟨bk, hbk⟩ : ∃ b, tb tKids (q : Int) = b := ⟨_, rfl⟩
   rw [hbk] at hct |-
   clear hbk
   obtain ⟨br, hbr⟩ : ∃ b, tb tRuby (kk : Int) = b := ⟨_, rfl⟩
   rw [hbr] at hcr |-
   clear hbr
   by_cases q6 : q = 6
   ·subst q6
    have e : (if (br && !(((6 : Nat) : Int) == 6)) || (((6 : Nat) : Int) == 5 && !((kk : Int) == 4)) then false else bk) = bk := by simp
    rw [e]
    clear e
    cases br
    all_goals
     go_enter Tryz.func111, Tryz.ntmps111
     go_wp2_with fail
     go_ret
     exact ⟨rfl, rfl⟩
   ·have q6z : ¬ (q : Int) = 6 := by omega
    by_cases q5 : q = 5
    ·subst q5
     by_cases k4 : kk = 4
     ·subst k4
      cases br
      ·have e : (if (false && !(((5 : Nat) : Int) == 6)) || (((5 : Nat) : Int) == 5 && !(((4 : Nat) : Int) == 4)) then false else bk) = bk := by simp
       rw [e]
       clear e
       go_enter Tryz.func111, Tryz.ntmps111
       go_wp2_with fail
       go_ret
       exact ⟨rfl, rfl⟩
      ·have e : (if (true && !(((5 : Nat) : Int) == 6)) || (((5 : Nat) : Int) == 5 && !(((4 : Nat) : Int) == 4)) then false else bk) = false := by simp
       rw [e]
       clear e
       go_enter Tryz.func111, Tryz.ntmps111
       go_wp2_with fail
       go_ret
       exact ⟨rfl, rfl⟩
     ·have k4z : ¬ (kk : Int) = 4 := by omega
      have e : (if (br && !(((5 : Nat) : Int) == 6)) || (((5 : Nat) : Int) == 5 && !((kk : Int) == 4)) then false else bk) = false := by simp [k4z]
      rw [e]
      clear e
      cases br
      all_goals
       go_enter Tryz.func111, Tryz.ntmps111
       go_wp2_with fail
       go_ret
       exact ⟨rfl, rfl⟩
    ·have q5z : ¬ (q : Int) = 5 := by omega
     have e : (if (br && !((q : Int) == 6)) || ((q : Int) == 5 && !((kk : Int) == 4)) then false else bk) = if br then false else bk := by
      have : ((q : Int) == 6) = false := beq_eq_false_iff_ne.2 q6z
      have h5 : ((q : Int) == 5) = false := beq_eq_false_iff_ne.2 q5z
      rw [this, h5]
      simp
     rw [e]
     clear e
     cases br
     all_goals
      go_enter Tryz.func111, Tryz.ntmps111
      go_wp2_with fail
      go_ret
      exact ⟨rfl, rfl⟩
end Ar
namespace Ar
def st1 (x : Nod) (b : Bool) : Nod := { x with t := if b then x.t else ByteArray.empty }
def st2 (x : Nod) (b : Bool) : Nod := { x with st := if b then x.st else 0, en := if b then x.en else 0 }
def st3 (x : Nod) (b : Bool) : Nod := { x with tp := if b then x.tp else 0, bt := if b then x.bt else 0, wd := if b then x.wd else 0 }
def st4 (x : Nod) (b : Bool) : Nod := { x with gr := if b then x.gr else 0, sh := if b then x.sh else 0 }
def st5 (x : Nod) (b : Bool) : Nod := { x with vk := if b then x.vk else 0, vn := if b then x.vn else 0 }
def st6 (x : Nod) (b : Bool) : Nod := { x with vn := if b then x.vn else 0 }
theorem alw_st (x : Nod) (item : Bool) : st6 (st5 (st4 (st3 (st2 (st1 x (tb tText x.k)) (tb tEdges x.k)) (tb tSize x.k)) item) (tb tValign x.k)) ((if tb tValign x.k then x.vk else 0) == 6 || (if tb tValign x.k then x.vk else 0) == 7) = alw x item := by
 cases h : tb tValign x.k <;> simp [st1, st2, st3, st4, st5, st6, alw, h]
theorem qpd (x : Nod) (item : Bool) (w : World) (hTab : Tab w) (h0 : 0 <= x.k) (h8 : x.k <= 8) :
 Calls Tryz.prog 138 #[.agg x.cells, .bool item] w fun e w' => e = .returned (.agg (alw x item).cells) /\ Below w.heap.size w w' := by
 rw [<- alw_st]
 have hTp := hTab.pos
 obtain ⟨kk, hkk⟩ : ∃ kk : Nat, x.k = kk := ⟨x.k.toNat, by omega⟩
 have hk8 : kk <= 8 := by omega
 have HK := xaa hkk
 have t3 := hTab.text.cell rfl hk8
 have t4 := hTab.edges.cell rfl hk8
 have t5 := hTab.size.cell rfl hk8
 have t6 := hTab.valign.cell rfl hk8
 rw [<- hkk] at t3 t4 t5 t6
 obtain ⟨b1, hb1⟩ : ∃ b, tb tText x.k = b := ⟨_, rfl⟩
 obtain ⟨b2, hb2⟩ : ∃ b, tb tEdges x.k = b := ⟨_, rfl⟩
 obtain ⟨b3, hb3⟩ : ∃ b, tb tSize x.k = b := ⟨_, rfl⟩
 obtain ⟨b5, hb5⟩ : ∃ b, tb tValign x.k = b := ⟨_, rfl⟩
 rw [hb1] at t3 |-
 rw [hb2] at t4 |-
 rw [hb3] at t5 |-
 rw [hb5] at t6 |-
 obtain ⟨vk, hvk⟩ : ∃ v, (if b5 = true then x.vk else 0) = v := ⟨_, rfl⟩
 rw [hvk]
 have HVK := xaa hvk
 clear hvk
 have T3 := xaa t3
 have T4 := xaa t4
 have T5 := xaa t5
 have T6 := xaa t6
 have hkz : (kk : Int) < 9 := by omega
 clear hb1 hb2 hb3 hb5 hkk h0 h8 hTab t3 t4 t5 t6
 go_enter Tryz.func138, Tryz.ntmps138
 go_upto_if 9 with (first
  | (refine bxNV rfl (.tmp 0) rfl x rfl ?_; intro w1 bb1 B1; have hl1 : w1.heap.size = w1.heap.size := rfl)
  | (refine alNV rfl rfl ?_; intro w2 bb2 B2; have bel2 := xaq bb1 bb2; have A2 := B1.kb bb2; have c0 : w2.cell? ⟨w.heap.size, 0, none⟩ = some (.int .u8 (kk : Int)) := (A2.cell 0).trans (by show some (Value.int .u8 x.k) = _; rw [HK.out]); have ct : w2.cell? ⟨4, kk, none⟩ = some (.bool b1) := (bel2.cell (p := ⟨4, kk, none⟩) (by show 4 < w.heap.size; omega)).trans T3.out))
 have hG : w.heap.size < w1.heap.size := B1.lt
 obtain ⟨G, hGG⟩ : ∃ G, w1.heap.size = G := ⟨_, rfl⟩
 rw [hGG] at hG B2 |-
 clear hGG B1 bb1 bb2
 go_cut [] (fun wx => Below w.heap.size w wx /\ Blk wx w.heap.size 50 (st1 x b1).cells /\ Blk wx G 50 Nod.zero.cells)
 case first =>
  have HA := xaa A2
  cases b1
  ·have hl := A2.lt
   have f2 : w2.frozen? ⟨w.heap.size, 2, none⟩ = false := A2.frozen 2
   have c2 := A2.cell 2
   have cc2 : w2.cell? ⟨w.heap.size, 2, none⟩ = some _ := c2
   clear A2
   have A2 := HA.out
   clear HA
   have HA := xaa A2
   have HZ := xaa B2
   have HBL := xaa bel2
   clear A2 B2 bel2
   go_wp2_with fail
   go_meet
   case rel =>
    have A2 := HA.out
    have B2 := HZ.out
    have bel2 := HBL.out
    exact ⟨(bel2.setCell (p := ⟨w.heap.size, 2, none⟩) (xat) _), qa4 (A2.set_ 2 _) (by rfl), (Blk.keep (S := fun k => k = w.heap.size) B2 ((Mod.refl (fun k => k = w.heap.size) _).setCell (p := ⟨w.heap.size, 2, none⟩) (.inl rfl) _) (by omega))⟩
  ·clear HA
   go_wp2_with fail
   go_meet
   case rel => exact ⟨bel2, A2, B2⟩
 case rest =>
 obtain ⟨bel3, A3, B3⟩ := hcut
 obtain ⟨w3, hwn⟩ : ∃ q, wc = q := ⟨_, rfl⟩
 rw [hwn] at bel3 A3 B3 |-
 clear hwn wc A2 B2 bel2
 have c0 : w3.cell? ⟨w.heap.size, 0, none⟩ = some (.int .u8 (kk : Int)) := (A3.cell 0).trans (by show some (Value.int .u8 x.k) = _; rw [HK.out])
 have ct : w3.cell? ⟨5, kk, none⟩ = some (.bool b2) := (bel3.cell (p := ⟨5, kk, none⟩) (by show 5 < w.heap.size; omega)).trans T4.out
 go_upto_if 15 with fail
 go_cut [] (fun wx => Below w.heap.size w wx /\ Blk wx w.heap.size 50 (st2 (st1 x b1) b2).cells /\ Blk wx G 50 Nod.zero.cells)
 case first =>
  have HA := xaa A3
  cases b2
  ·have hl := A3.lt
   have f15 : w3.frozen? ⟨w.heap.size, 15, none⟩ = false := A3.frozen 15
   have c15 := A3.cell 15
   have cc15 : w3.cell? ⟨w.heap.size, 15, none⟩ = some _ := c15
   have f16 : w3.frozen? ⟨w.heap.size, 16, none⟩ = false := A3.frozen 16
   have c16 := A3.cell 16
   have cc16 : w3.cell? ⟨w.heap.size, 16, none⟩ = some _ := c16
   clear A3
   have A3 := HA.out
   clear HA
   have HA := xaa A3
   have HZ := xaa B3
   have HBL := xaa bel3
   clear A3 B3 bel3
   go_wp2_with fail
   go_meet
   case rel =>
    have A3 := HA.out
    have B3 := HZ.out
    have bel3 := HBL.out
    exact ⟨((bel3.setCell (p := ⟨w.heap.size, 15, none⟩) (xat) _).setCell (p := ⟨w.heap.size, 16, none⟩) (xat) _), qa4 ((A3.set_ 15 _).set_ 16 _) (by rfl), (Blk.keep (S := fun k => k = w.heap.size) (Blk.keep (S := fun k => k = w.heap.size) B3 ((Mod.refl (fun k => k = w.heap.size) _).setCell (p := ⟨w.heap.size, 15, none⟩) (.inl rfl) _) (by omega)) ((Mod.refl (fun k => k = w.heap.size) _).setCell (p := ⟨w.heap.size, 16, none⟩) (.inl rfl) _) (by omega))⟩
  ·clear HA
   go_wp2_with fail
   go_meet
   case rel => exact ⟨bel3, A3, B3⟩
 case rest =>
 obtain ⟨bel4, A4, B4⟩ := hcut
 obtain ⟨w4, hwn⟩ : ∃ q, wc = q := ⟨_, rfl⟩
 rw [hwn] at bel4 A4 B4 |-
 clear hwn wc A3 B3 bel3
 have c0 : w4.cell? ⟨w.heap.size, 0, none⟩ = some (.int .u8 (kk : Int)) := (A4.cell 0).trans (by show some (Value.int .u8 x.k) = _; rw [HK.out])
 have ct : w4.cell? ⟨6, kk, none⟩ = some (.bool b3) := (bel4.cell (p := ⟨6, kk, none⟩) (by show 6 < w.heap.size; omega)).trans T5.out
 go_upto_if 22 with fail
 go_cut [] (fun wx => Below w.heap.size w wx /\ Blk wx w.heap.size 50 (st3 (st2 (st1 x b1) b2) b3).cells /\ Blk wx G 50 Nod.zero.cells)
 case first =>
  have HA := xaa A4
  cases b3
  ·have hl := A4.lt
   have f17 : w4.frozen? ⟨w.heap.size, 17, none⟩ = false := A4.frozen 17
   have c17 := A4.cell 17
   have cc17 : w4.cell? ⟨w.heap.size, 17, none⟩ = some _ := c17
   have f18 : w4.frozen? ⟨w.heap.size, 18, none⟩ = false := A4.frozen 18
   have c18 := A4.cell 18
   have cc18 : w4.cell? ⟨w.heap.size, 18, none⟩ = some _ := c18
   have f19 : w4.frozen? ⟨w.heap.size, 19, none⟩ = false := A4.frozen 19
   have c19 := A4.cell 19
   have cc19 : w4.cell? ⟨w.heap.size, 19, none⟩ = some _ := c19
   clear A4
   have A4 := HA.out
   clear HA
   have HA := xaa A4
   have HZ := xaa B4
   have HBL := xaa bel4
   clear A4 B4 bel4
   go_wp2_with fail
   go_meet
   case rel =>
    have A4 := HA.out
    have B4 := HZ.out
    have bel4 := HBL.out
    exact ⟨(((bel4.setCell (p := ⟨w.heap.size, 17, none⟩) (xat) _).setCell (p := ⟨w.heap.size, 18, none⟩) (xat) _).setCell (p := ⟨w.heap.size, 19, none⟩) (xat) _), qa4 (((A4.set_ 17 _).set_ 18 _).set_ 19 _) (by rfl), (Blk.keep (S := fun k => k = w.heap.size) (Blk.keep (S := fun k => k = w.heap.size) (Blk.keep (S := fun k => k = w.heap.size) B4 ((Mod.refl (fun k => k = w.heap.size) _).setCell (p := ⟨w.heap.size, 17, none⟩) (.inl rfl) _) (by omega)) ((Mod.refl (fun k => k = w.heap.size) _).setCell (p := ⟨w.heap.size, 18, none⟩) (.inl rfl) _) (by omega)) ((Mod.refl (fun k => k = w.heap.size) _).setCell (p := ⟨w.heap.size, 19, none⟩) (.inl rfl) _) (by omega))⟩
  ·clear HA
   go_wp2_with fail
   go_meet
   case rel => exact ⟨bel4, A4, B4⟩
 case rest =>
 obtain ⟨bel5, A5, B5⟩ := hcut
 obtain ⟨w5, hwn⟩ : ∃ q, wc = q := ⟨_, rfl⟩
 rw [hwn] at bel5 A5 B5 |-
 clear hwn wc A4 B4 bel4
 go_upto_if 27 with fail
 go_cut [] (fun wx => Below w.heap.size w wx /\ Blk wx w.heap.size 50 (st4 (st3 (st2 (st1 x b1) b2) b3) item).cells /\ Blk wx G 50 Nod.zero.cells)
 case first =>
  have HA := xaa A5
  cases item
  ·have hl := A5.lt
   have f20 : w5.frozen? ⟨w.heap.size, 20, none⟩ = false := A5.frozen 20
   have c20 := A5.cell 20
   have cc20 : w5.cell? ⟨w.heap.size, 20, none⟩ = some _ := c20
   have f21 : w5.frozen? ⟨w.heap.size, 21, none⟩ = false := A5.frozen 21
   have c21 := A5.cell 21
   have cc21 : w5.cell? ⟨w.heap.size, 21, none⟩ = some _ := c21
   clear A5
   have A5 := HA.out
   clear HA
   have HA := xaa A5
   have HZ := xaa B5
   have HBL := xaa bel5
   clear A5 B5 bel5
   go_wp2_with fail
   go_meet
   case rel =>
    have A5 := HA.out
    have B5 := HZ.out
    have bel5 := HBL.out
    exact ⟨((bel5.setCell (p := ⟨w.heap.size, 20, none⟩) (xat) _).setCell (p := ⟨w.heap.size, 21, none⟩) (xat) _), qa4 ((A5.set_ 20 _).set_ 21 _) (by rfl), (Blk.keep (S := fun k => k = w.heap.size) (Blk.keep (S := fun k => k = w.heap.size) B5 ((Mod.refl (fun k => k = w.heap.size) _).setCell (p := ⟨w.heap.size, 20, none⟩) (.inl rfl) _) (by omega)) ((Mod.refl (fun k => k = w.heap.size) _).setCell (p := ⟨w.heap.size, 21, none⟩) (.inl rfl) _) (by omega))⟩
  ·clear HA
   go_wp2_with fail
   go_meet
   case rel => exact ⟨bel5, A5, B5⟩
 case rest =>
 obtain ⟨bel6, A6, B6⟩ := hcut
 obtain ⟨w6, hwn⟩ : ∃ q, wc = q := ⟨_, rfl⟩
 rw [hwn] at bel6 A6 B6 |-
 clear hwn wc A5 B5 bel5
 have c0 : w6.cell? ⟨w.heap.size, 0, none⟩ = some (.int .u8 (kk : Int)) := (A6.cell 0).trans (by show some (Value.int .u8 x.k) = _; rw [HK.out])
 have ct : w6.cell? ⟨7, kk, none⟩ = some (.bool b5) := (bel6.cell (p := ⟨7, kk, none⟩) (by show 7 < w.heap.size; omega)).trans T6.out
 go_upto_if 34 with fail
 go_cut [] (fun wx => Below w.heap.size w wx /\ Blk wx w.heap.size 50 (st5 (st4 (st3 (st2 (st1 x b1) b2) b3) item) b5).cells /\ Blk wx G 50 Nod.zero.cells)
 case first =>
  have HA := xaa A6
  cases b5
  ·have hl := A6.lt
   have f13 : w6.frozen? ⟨w.heap.size, 13, none⟩ = false := A6.frozen 13
   have c13 := A6.cell 13
   have cc13 : w6.cell? ⟨w.heap.size, 13, none⟩ = some _ := c13
   have f14 : w6.frozen? ⟨w.heap.size, 14, none⟩ = false := A6.frozen 14
   have c14 := A6.cell 14
   have cc14 : w6.cell? ⟨w.heap.size, 14, none⟩ = some _ := c14
   clear A6
   have A6 := HA.out
   clear HA
   have HA := xaa A6
   have HZ := xaa B6
   have HBL := xaa bel6
   clear A6 B6 bel6
   have bdv : ∀ w : World, (Instr.build 48 #[]).run Tryz.prog w = .ok (.agg #[.int .u8 0, .int .i64 0]) w := fun _ => by kernel_rfl
   go_wp2_with (refine qb8 rfl 48 (.tmp 36) (.tmp 35) rfl rfl w.heap.size 13 rfl #[.int .u8 0, .int .i64 0] rfl 50 _ HA.out (by kernel_rfl) (by show 13 + 2 <= 22; omega) (by kernel_rfl) ?_; intro wv mv Bv)
   go_meet
   case rel =>
    exact ⟨HBL.out.trans (mv.below HBL.out.size (fun k hk => by omega)), qa4 Bv (by rfl), HZ.out.keep mv (by omega)⟩
  ·clear HA
   go_wp2_with fail
   go_meet
   case rel => exact ⟨bel6, A6, B6⟩
 case rest =>
 obtain ⟨bel7, A7, B7⟩ := hcut
 obtain ⟨w7, hwn⟩ : ∃ q, wc = q := ⟨_, rfl⟩
 rw [hwn] at bel7 A7 B7 |-
 clear hwn wc A6 B6 bel6
 have c13 : w7.cell? ⟨w.heap.size, 13, none⟩ = some (.int .u8 vk) := (A7.cell 13).trans (by show some (Value.int .u8 (if b5 = true then x.vk else 0)) = _; rw [HVK.out])
 have c14 := A7.cell 14
 have cc14 : w7.cell? ⟨w.heap.size, 14, none⟩ = some _ := c14
 have f14 : w7.frozen? ⟨w.heap.size, 14, none⟩ = false := A7.frozen 14
 have HA := xaa A7
 have HZ := xaa B7
 have HBL := xaa bel7
 clear A7 B7 bel7
 by_cases h6 : vk = 6
 ·subst h6
  go_wp2_with (first
   | (refine ldN rfl (.tmp 2) rfl _ rfl (st5 (st4 (st3 (st2 (st1 x b1) b2) b3) item) b5) HA.out.lies ?_)
   | (refine stN rfl (.tmp 4) (.tmp 49) rfl rfl _ rfl (st5 (st4 (st3 (st2 (st1 x b1) b2) b3) item) b5) rfl .zero HZ.out ?_; intro w9 m9 B9))
  (try simp only [Exit.inBlock, Exit.then])
  refine ⟨rfl, _, qbf rfl _ _ G 50 _ _ rfl B9 uN rfl iN, rfl, HBL.out.trans (m9.below HBL.out.size fun k hk => by omega)⟩
 ·by_cases h7 : vk = 7
  ·subst h7
   go_wp2_with (first
    | (refine ldN rfl (.tmp 2) rfl _ rfl (st5 (st4 (st3 (st2 (st1 x b1) b2) b3) item) b5) HA.out.lies ?_)
    | (refine stN rfl (.tmp 4) (.tmp 49) rfl rfl _ rfl (st5 (st4 (st3 (st2 (st1 x b1) b2) b3) item) b5) rfl .zero HZ.out ?_; intro w9 m9 B9))
   (try simp only [Exit.inBlock, Exit.then])
   refine ⟨rfl, _, qbf rfl _ _ G 50 _ _ rfl B9 uN rfl iN, rfl, HBL.out.trans (m9.below HBL.out.size fun k hk => by omega)⟩
  ·have e : (vk == 6 || vk == 7) = false := by simp [h6, h7]
   have hl := HA.out.lt
   have HE := xaa e
   have h6b : (vk == 6) = false := by simp [h6]
   have h7b : (vk == 7) = false := by simp [h7]
   have h6c : (vk != 6) = true := by simp [h6]
   have h7c : (vk != 7) = true := by simp [h7]
   clear e
   go_upto_if 46 with fail
   go_wp2_with (first
    | (refine ldN rfl (.tmp 2) rfl _ rfl (st6 (st5 (st4 (st3 (st2 (st1 x b1) b2) b3) item) b5) false) (Blk.lies (qa4 (HA.out.set_ 14 _) (by rfl))) ?_)
    | (refine stN rfl (.tmp 4) (.tmp 49) rfl rfl _ rfl (st6 (st5 (st4 (st3 (st2 (st1 x b1) b2) b3) item) b5) false) rfl .zero (Blk.keep (S := fun k => k = w.heap.size) HZ.out ((Mod.refl (fun k => k = w.heap.size) _).setCell (p := ⟨w.heap.size, 14, none⟩) (.inl rfl) _) (by omega)) ?_; intro w9 m9 B9))
   (try simp only [Exit.inBlock, Exit.then])
   refine ⟨rfl, _, qbf rfl _ _ G 50 _ _ rfl B9 uN rfl iN, (by rw [HE.out]), (HBL.out.setCell (p := ⟨w.heap.size, 14, none⟩) (xat) _).trans (m9.below (by simp; have := HBL.out.size; omega) fun k hk => by omega)⟩
end Ar
namespace Ar
open Go.Shelf
theorem infoU : (Tryz.prog.info? 5).map (fun i => (i.zero, i.size, i.bytes)) = some (some (.int .u8 0), 1, 1) := by kernel_rfl
theorem qoc (s : ByteArray) (w : World) (hlim : s.size <= 281474976710656) :
 Calls Tryz.prog 62 #[.string s] w fun e w' => e = .returned (.string s) /\ Below w.heap.size w w' := by
 by_cases h0 : s.size = 0
 ·have hs : s = ⟨#[]⟩ := by
   apply ByteArray.ext
   exact Array.eq_empty_of_size_eq_zero h0
  subst hs
  go_enter Tryz.func62, Tryz.ntmps62
  go_wp2
  go_ret
  exact ⟨rfl, xas⟩
 ·obtain ⟨i0, hi, hz0, hz1, hz2⟩ := qbl infoU
  have hinfo : (Tryz.prog.info? 5).map (·.size) = some 1 := by rw [hi]; simp [hz1]
  have hco : Tryz.prog.cellsOf 5 = 1 := by simp [Program.cellsOf, hi, hz1]
  obtain ⟨M, hM⟩ : ∃ M, M = madeCells (Value.int .u8 0).cells (((s.size : Nat) : Int).toNat * i0.size) := ⟨_, rfl⟩
  have hMs : M.size = s.size := by rw [hM, size_madeCells, hz1]; simp
  have hmk : ∀ W : World, (Instr.makeSlice 73 (.int .i64 (s.size : Int)) (.int .i64 (s.size : Int))).run Tryz.prog W = .ok (.slice (some ⟨W.heap.size, 0, none⟩) s.size s.size) (W.alloc (.cells M 5)) := fun W => by
   have h := run_make (P := Tryz.prog) W 73 5 i0 (.int .u8 0) Tryz.underlying73 hi hz0 .i64 .i64 (s.size : Int) (s.size : Int) (by omega) (by omega) (by rw [hz2]; omega) (by omega)
   rw [<- hM] at h
   simpa using h
  clear hM
  have hcp := Lib.run_copy_row_string (P := Tryz.prog) (w.alloc (.cells M 5)) 73 9 3 5 w.heap.size 0 s.size s.size s M 5 Tryz.underlying73 hinfo (heap_alloc_new w _) (xat) (by omega)
  obtain ⟨Y, hY⟩ : ∃ Y, Y = (M.toList.take 0 ++ Lib.byteCells s.data.toList ++ M.toList.drop (0 + s.size)).toArray := ⟨_, rfl⟩
  rw [<- hY] at hcp
  have hYl : Y.toList = Lib.byteCells s.data.toList := by
   rw [hY, List.toList_toArray, List.take_zero, List.nil_append, List.drop_of_length_le (by rw [Array.length_toList]; omega), List.append_nil]
  have hYs : Y.size = s.size := by rw [<- Array.length_toList, hYl, Lib.byteCells_length, <- Lib.size_eq]
  have hgY : ((w.alloc (.cells M 5)).setRow w.heap.size Y).heap[w.heap.size]? = some (.cells Y 5 (0, 0)) := setRow_heap _ _ M _ 5 (0, 0) (heap_alloc_new w _)
  have hne : s.data.toList ≠ [] := fun e => h0 (by rw [Lib.size_eq, e]; rfl)
  have hUS := Lib.run_unsafeString_row (P := Tryz.prog) ((w.alloc (.cells M 5)).setRow w.heap.size Y) 185 3 9 5 Tryz.underlying185 hco w.heap.size Y.size (by unfold World.shape?; rw [hgY]) s.data.toList hne (by rw [<- Lib.size_eq]; omega) (by rw [<- Lib.size_eq]; omega)
   (fun j x hx => Lib.cells_of_row hgY Y.size j _ (by rw [List.take_of_length_le (by rw [Array.length_toList]; exact xat), hYl]; simp [Lib.byteCells, hx]))
  rw [<- Lib.size_eq] at hUS
  clear hY
  go_enter Tryz.func62, Tryz.ntmps62
  go_wp2
  go_ret
  have hb1 : Below w.heap.size w (w.alloc (.cells M 5)) := (Below.refl _ w).alloc (xat) _
  have hb2 : Below w.heap.size (w.alloc (.cells M 5)) ((w.alloc (.cells M 5)).setRow w.heap.size Y) := ⟨rfl, rfl, rfl, by simp, fun k hk => setRow_other _ _ _ _ (by omega)⟩
  exact ⟨rfl, Lib.below_freeze (hb1.trans hb2) (p := ⟨w.heap.size, 0, none⟩) (xat) _⟩
theorem qnj (s : ByteArray) (w : World) (hlim : s.size <= 281474976710656) :
 Calls Tryz.prog 36 #[.string s] w fun e w' => e = .returned (.string s) /\ Below w.heap.size w w' := by
 have C := xaa (qoc s w hlim)
 go_enter Tryz.func36, Tryz.ntmps36
 go_wp2_with fail
 refine C.out.mono ?_
 rintro e w2 ⟨rfl, b2⟩
 go_wp2_with fail
 go_ret
 exact ⟨rfl, b2⟩
def qiq (l : List Nod) : List Value := (l.map fun s => s.cells.toList).flatten
theorem qr5 (l : List Nod) : (qiq l).length = l.length * 22 := by
 unfold qiq
 induction l with
 | nil => rfl
 | cons d l ih =>
   rw [List.map_cons, List.flatten_cons, List.length_append, ih, List.length_cons, Nat.succ_mul]
   show 22 + l.length * 22 = l.length * 22 + 22
   omega
theorem qr4 (l : List Nod) : ∀ u ∈ qiq l, u.oneCell' = true := fun u hu => by
 obtain ⟨x, hx, hu2⟩ := List.mem_flatten.1 hu
 obtain ⟨d, _, rfl⟩ := List.mem_map.1 hx
 exact (Array.all_eq_true_iff_forall_mem.1 (oneN d)) u (by simpa using hu2)
theorem qj6 {l : List Nod} {i : Nat} {x : Nod} (hi : l[i]? = some x) {j : Nat} {v : Value} (hv : x.cells[j]? = some v) : (qiq l)[i * 22 + j]? = some v :=
 flat_get 22 _ (fun y hy => by obtain ⟨d, _, rfl⟩ := List.mem_map.1 hy; rfl) i x.cells.toList (by rw [xan, hi]; rfl) j v (by simpa using hv)
theorem qmr (k : Nat) : ∀ (rows : List (List Value)), (∀ x ∈ rows, x.length = k) -> ∀ (j : Nat) (u : Value), rows.flatten[j]? = some u -> ∃ i x j', rows[i]? = some x /\ x[j']? = some u /\ j = i * k + j'
 | [], _, j, u, h => by simp at h
 | r :: rows, hk, j, u, h => by
   have hr := hk r (List.mem_cons_self ..)
   rw [List.flatten_cons] at h
   by_cases hj : j < r.length
   ·rw [List.getElem?_append_left hj] at h
    exact ⟨0, r, j, rfl, h, by simp⟩
   ·rw [List.getElem?_append_right (by omega)] at h
    obtain ⟨i, x, j', h1, h2, h3⟩ := qmr k rows (fun x hx => hk x (List.mem_cons_of_mem _ hx)) _ u h
    exact ⟨i + 1, x, j', by simpa using h1, h2, by rw [Nat.succ_mul]; omega⟩
theorem Ns.flat {w : World} {a : Addr} {n c : Nat} {l : List Nod} (h : Ns w (.slice (some a) n c) l) : ∀ j u, (qiq l)[j]? = some u -> w.cell? (a.add j) = some u := fun j u hu => by
 obtain ⟨i, x, j', h1, h2, h3⟩ := qmr 22 _ (fun x hx => by obtain ⟨d, _, rfl⟩ := List.mem_map.1 hx; rfl) j u hu
 rcases h with ⟨h, _⟩ | ⟨a', cap', hv, _, hc⟩
 ·cases h
 ·injection hv with hv1 _ _
  injection hv1 with hv1
  subst hv1
  rw [h3]
  exact hc i x h1 j' u h2
theorem infoN : (Tryz.prog.info? 50).map (fun i => (i.zero, i.size, i.bytes)) = some (some (.agg Nod.zero.cells), 22, 160) := by kernel_rfl
theorem bsN0 (w : World) : (Instr.buildSlice 22 0 #[]).run Tryz.prog w = .ok (.slice (some ⟨w.heap.size, 0, none⟩) 0 0) (w.alloc (.cells #[] 50)) := by kernel_rfl
theorem nilN (a : Addr) (n c : Nat) (w : World) : (binOp .eql 22 (.slice (some a) n c) (.slice none 0 0)).run Tryz.prog w = .ok (.bool false) w := by kernel_rfl
theorem qn8 (w : World) (base : Nat) (hb : base <= w.heap.size) : (w.alloc (.cells #[] 50)).ownsRow base 50 22 (.slice (some ⟨w.heap.size, 0, none⟩) 0 0) 0 [] :=
 ⟨rfl, .inr ⟨w.heap.size, 0, #[], rfl, hb, heap_alloc_new w _, xat, Nat.zero_le _, rfl, rfl⟩⟩
theorem qob (l : List Nod) (v : Value) (w : World) (hR : Ns w v l) (hlen : l.length <= 1048576) (hpos : 0 < l.length) :
 Calls Tryz.prog 34 #[v] w fun e w' => ∃ u, e = .returned u /\ w'.ownsRow w.heap.size 50 22 u l.length (qiq l) /\ Below w.heap.size w w' := by
 have HR := xaa hR
 obtain ⟨A, cap, rfl⟩ := hR.form
 rcases hR with ⟨h, h2⟩ | ⟨a, cap', hv, hb, hc⟩
 ·have : l.length = 0 := by
   have := congrArg List.length h2
   simpa using this
  omega
 ·injection hv with hv1 hv2 hv3
  subst hv1 hv3
  obtain ⟨n, hl⟩ : ∃ n, l.length = n := ⟨_, rfl⟩
  have HL := xaa hl
  rw [hl] at hlen hpos HR |-
  obtain ⟨i0, hi, hz0, hz1, hz2⟩ := qbl infoN
  have hfl := qr5 l
  rw [hl] at hfl
  have hbs := bsN0 w
  have hnil := nilN a n cap w
  clear hb hc hv2 hl
  go_enter Tryz.func34, Tryz.ntmps34
  go_wp2_with (refine wpList_append_own _ rfl (.tmp 5) (.tmp 6) 22 rfl w.heap.size 50 i0 (.agg Nod.zero.cells) 22 160 Tryz.underlying22 hi hz0 hz1 hz2 rfl (by decide) _ 0 [] rfl (qn8 w w.heap.size (xat)) a n cap (qiq l) rfl hfl (fun j u hu => (HR.out.below (xar w _)).flat j u hu) (qr4 l) (by unfold maxLen; omega) (by omega) (by simp) ?_; intro v' w3 hown' hgrow _)
  go_ret
  refine ⟨v', rfl, ?_, ?_⟩
  ·simpa using hown'
  ·exact (xar w _).trans (below_grown hgrow (by simp) (fun g hg => by cases hg; exact xat))
end Ar
end Go.Proofs.YtmceblkjbpbcoaaGreatDoor
