/- Contracts of layers below. -/
import Derived.Test.YtmceblkjbpbcoaaGreatDoorPCeMath
import Derived.Test.YtmceblkjbpbcoaaGreatDoorPClB
import Derived.Test.YtmceblkjbpbcoaaGreatDoorPCeM
import Derived.Test.YtmceblkjbpbcoaaGreatDoorPCh8
import Derived.Test.YtmceblkjbpbcoaaGreatDoorPWhD
import Derived.Test.YtmceblkjbpbcoaaGreatDoorPCh2
import Derived.Test.YtmceblkjbpbcoaaGreatDoorPRegJ
import Derived.BigRegion
namespace Go.Proofs.YtmceblkjbpbcoaaGreatDoor
set_option maxRecDepth 100000
set_option maxHeartbeats 8000000
open Go.ChangeShapes Go.WideShapes Go.ChangeAt Go.RowKit
namespace Ce
open Go.Shelf
open Ar
open Wh (Cr)
attribute [local go_sem] Oper.semAt_some
def chV (l : List Nod) (pre : List (Nat × Bool)) : List Cr := pre.flatMap fun s => if s.2 then ownC (l.getD s.1 .zero) s.1 else []
theorem qwe (l : List Nod) (pre : List (Nat × Bool)) (x : Nat × Bool) : chV l (pre ++ [x]) = chV l pre ++ if x.2 then ownC (l.getD x.1 .zero) x.1 else [] := by
 unfold chV
 rw [List.flatMap_append]
 simp
theorem qmg (x : Nod) (n : Nat) : (ownC x n).length <= x.t.size + 1 := by
 unfold ownC
 split
 ·rw [xao]; have := qp0 x.t; omega
 ·split
  ·simp
  ·split <;> simp
theorem qix (l : List Nod) (mt : Nat) (h : ∀ x ∈ l, x.t.size <= mt) : ∀ pre : List (Nat × Bool), (chV l pre).length <= pre.length * (mt + 1)
 | [] => Nat.zero_le _
 | x :: pre => by
   have ih := qix l mt h pre
   have e : chV l (x :: pre) = (if x.2 then ownC (l.getD x.1 .zero) x.1 else []) ++ chV l pre := rfl
   have h1 : (if x.2 then ownC (l.getD x.1 .zero) x.1 else []).length <= mt + 1 := by
    split
    ·have h2 := qmg (l.getD x.1 .zero) x.1
     have h3 : (l.getD x.1 .zero).t.size <= mt := by
      rw [xal]
      cases hx : l[x.1]? with
      | none => exact Nat.zero_le _
      | some y => exact h y (xav hx)
     omega
    ·exact Nat.zero_le _
   rw [e, List.length_append, List.length_cons, Nat.succ_mul]
   omega
def JC (n0 B : Nat) (l : List Nod) (pre : List (Nat × Bool)) (W : World) : Prop := ∃ v, Boxed W B 32 v /\ Wl.OwC n0 W v (chV l pre)
def SC_ (B : Nat) (W : World) (k : Nat) : Prop := k = B \/ ∃ v, W.cell? ⟨B, 0, none⟩ = some v /\ v.ownBlock = some k
theorem SC_.of {B : Nat} {W : World} {t : TypeId} {v : Value} (h : Boxed W B t v) {k : Nat} : SC_ B W k ↔ k = B \/ v.ownBlock = some k := by
 unfold SC_
 rw [h.cell]
 constructor
 ·rintro (h | ⟨v', h1, h2⟩)
  ·exact .inl h
  ·injection h1 with h1
   exact .inr (h1 ▸ h2)
 ·rintro (h | h)
  ·exact .inl h
  ·exact .inr ⟨v, rfl, h⟩
theorem qf6 {w : World} {base n s : Nat} {e : TypeId} {v : Value} {xs : List Value} (h : w.ownsRow base e s v n xs) {k : Nat} (hk : v.ownBlock = some k) : base <= k /\ ∃ cs fz, w.heap[k]? = some (.cells cs e fz) := by
 rcases h.2 with ⟨rfl, _⟩ | ⟨g, cap, cur, rfl, hb, hg, _⟩
 ·simp [Value.ownBlock] at hk
 ·obtain rfl : g = k := by simpa [Value.ownBlock] using hk
  exact ⟨hb, _, _, hg⟩
theorem JC.sta {n0 B : Nat} (hB : n0 <= B) (l : List Nod) : Sta (JC n0 B l) (SC_ B) n0 :=
 ⟨fun pre W W' T h m hT => by
  obtain ⟨v, hv, ho⟩ := h
  have hv' : Boxed W' B 32 v := (m.block B hv.lt (hT B ((SC_.of hv).2 (.inl rfl)))).trans hv
  refine ⟨⟨v, hv', qcd ho m fun k hk => hT k ((SC_.of hv).2 (.inr hk))⟩, fun k hk => ?_⟩
  rw [SC_.of hv'] at hk
  exact (SC_.of hv).2 hk,
  fun pre W k h hk => by
   obtain ⟨v, hv, ho⟩ := h
   rw [SC_.of hv] at hk
   rcases hk with rfl | hk
   ·exact ⟨hB, _, hv, rfl⟩
   ·obtain ⟨h1, cs, fz, h2⟩ := qf6 ho hk
    exact ⟨h1, _, h2, rfl⟩⟩
theorem qxx {w : World} {base n s B : Nat} {t e : TypeId} {u v : Value} {xs : List Value} (hb : Boxed w B t u) (h : w.ownsRow base e s v n xs) (ht : t ≠ e) : ¬ v.ownBlock = some B := fun hk => by
 obtain ⟨_, cs, fz, h2⟩ := qf6 h hk
 rw [show w.heap[B]? = _ from hb] at h2
 injection h2 with h2
 injection h2 with _ h2 _
 exact ht h2
theorem JC.grown {n0 B : Nat} {l : List Nod} {pre pre' : List (Nat × Bool)} {W W' : World} {v u : Value} (hv : Boxed W B 32 v) (hO : Wl.OwC n0 W v (chV l pre)) (hO' : Wl.OwC n0 W' u (chV l pre')) (hG : Grw v W u W') :
 Boxed W' B 32 v /\ JC n0 B l pre' (W'.setCell ⟨B, 0, none⟩ u) /\ Kps (SC_ B) W (W'.setCell ⟨B, 0, none⟩ u) := by
 have hne := qxx hv hO (by decide)
 have hv' : Boxed W' B 32 v := (hG.mod.block B hv.lt hne).trans hv
 have hv2 := hv'.set u
 have m : Mod (fun k => k = B) W' (W'.setCell ⟨B, 0, none⟩ u) := (Mod.refl (fun k => k = B) W').setCell (p := ⟨B, 0, none⟩) (.inl rfl) u
 refine ⟨hv', ⟨u, hv2, qcd hO' m fun k hk e => qxx hv' hO' (by decide) (by rw [<- e]; exact hk)⟩, ?_, fun k hk => ?_⟩
 ·exact (hG.mod.mono fun k hk => .inl ((SC_.of hv).2 (.inr hk))).trans (m.mono fun k hk => .inl ((SC_.of hv).2 (.inl hk)))
 ·rw [SC_.of hv2] at hk
  rcases hk with hk | hk
  ·exact .inl ((SC_.of hv).2 (.inl hk))
  ·exact (hG.own k hk).imp (fun h => (SC_.of hv).2 (.inr h)) id
theorem qkg (v : Value) (n : Nat) (k : Int) (w : World) (h : qi2 w v n) (hf : fndE n k ≠ 0) :
 Calls Tryz.prog 13 #[v, .int .i64 k] w fun e w' => e = .returned (.tuple #[.slice none 0 0, .int .i64 (fndE n k)]) /\ Below w.heap.size w w' := by
 have CN := xaa (qwn v n k w h hf)
 obtain ⟨f, hff⟩ : ∃ f, fndE n k = f := ⟨_, rfl⟩
 rw [hff] at CN hf |-
 have hf2 : (f == 0) = false := by simpa using hf
 have hf3 : (!(f == 0)) = true := by rw [hf2]; rfl
 clear h hff
 go_enter Tryz.func13, Tryz.ntmps13
 go_wp2_with fail
 refine CN.out.mono ?_
 rintro e w1 ⟨rfl, b1⟩
 go_wp2_with (refine nwN rfl rfl 6 rfl rfl (.tmp 15) rfl rfl .zero (fun _ => rfl) (fun _ => rfl) ?_; intro w2 b2 B2)
 go_ret2
 exact ⟨rfl, xaq b1 b2⟩
theorem qht (v : Value) (l : List Nod) (k : Nat) (x : Nod) (w : World) (h : Tr w v l) (hk : l[k]? = some x) (hi : inl x.k = false) :
 Calls Tryz.prog 13 #[v, .int .i64 (k : Int)] w fun e w' => e = .returned (.tuple #[.slice none 0 0, .int .i64 2]) /\ Below w.heap.size w w' := by
 have CN := xaa (qgt v l k x w h hk)
 have CI : Hid (∀ W, Calls Tryz.prog 28 #[.int .u8 x.k] W fun e w' => e = .returned (.bool false) /\ W = w') := xaa fun W => by have := qgl x.k W; rwa [hi] at this
 clear h hk hi
 go_enter Tryz.func13, Tryz.ntmps13
 go_wp2_with fail
 refine CN.out.mono ?_
 rintro e w1 ⟨rfl, b1⟩
 go_wp2_with (refine nwN rfl rfl 6 rfl rfl (.tmp 15) rfl rfl x (fun _ => rfl) (fun _ => rfl) ?_; intro w2 b2 B2; have c0 : w2.cell? ⟨w1.heap.size, 0, none⟩ = some (.int .u8 x.k) := B2.cell 0)
 refine (CI.out _).mono ?_
 rintro e w3 ⟨rfl, rfl⟩
 go_wp2_with fail
 go_ret2
 exact ⟨rfl, xaq b1 b2⟩
theorem qhu (v : Value) (l : List Nod) (k : Nat) (x : Nod) (mt : Nat) (w : World) (h : Tr w v l) (hT : Tre (psOf l)) (hlen : l.length <= 1000) (hmt : ∀ x ∈ l, x.t.size <= mt) (hmb : mt <= 100000) (hmm : 2 * l.length * (mt + 1) <= 1048576) (hk : l[k]? = some x) (hi : inl x.k = true) (hU : Ut.Tab w) :
 Calls Tryz.prog 13 #[v, .int .i64 (k : Int)] w fun e w' => ∃ u, e = .returned (.tuple #[u, .int .i64 0]) /\ Wl.OwC w.heap.size w' u (chV l (visL (psOf l) (bxL l) k)) /\ Below w.heap.size w w' := by
 have hkl : k < l.length := (xah hk).1
 have CN := xaa (qgt v l k x w h hk)
 have CI : Hid (∀ W, Calls Tryz.prog 28 #[.int .u8 x.k] W fun e w' => e = .returned (.bool true) /\ W = w') := xaa fun W => by have := qgl x.k W; rwa [hi] at this
 have HTR := xaa h
 obtain ⟨g, gn, ge, cn, ce, rfl, _⟩ := h
 have HVL : Hid ((visL (psOf l) (bxL l) k).length <= 2 * l.length) := xaa (by have := qlx hT (bxL l) (n := k) (by rw [qad]; exact hkl); rwa [qad] at this)
 have HCL : Hid (∀ pre : List (Nat × Bool), pre.length <= (visL (psOf l) (bxL l) k).length -> (chV l pre).length <= 1048576) := xaa fun pre hp => by
  have h1 := qix l mt hmt pre
  have h2 : pre.length * (mt + 1) <= 2 * l.length * (mt + 1) := Nat.mul_le_mul_right _ (by have := HVL.out; omega)
  omega
 have HTX : Hid (∀ i, (l.getD i .zero).t.size <= 100000) := xaa fun i => by
  rw [xal]
  cases hx : l[i]? with
  | none => exact Nat.zero_le _
  | some y => exact xau (hmt y (xav hx)) hmb
 have HU := xaa hU
 have HT := xaa hT
 have hkz : (0 : Int) <= k := by omega
 clear hT hk hi hU hmm hmt
 refine (callsIn_wide (n := 7)).1 ?_
 refine callsIn_of_wp_marks Tryz.func13 rfl trivial ?_ rfl
 simp only [Tryz.ntmps13, List.size_toArray, List.length_cons, List.length_nil, Nat.reduceAdd, Nat.reduceSub, Array.replicate_succ, Array.replicate_zero, List.push_toArray, List.append_toArray, List.nil_append, List.cons_append]
 gi_wp2_with fail
 refine ⟨trivial, (callsIn_wide.2 CN.out).mono ?_⟩
 rintro e w1 ⟨rfl, b1⟩
 gi_wp2_with (refine nwNIn (fun _ => trivial) rfl rfl 6 rfl rfl (.tmp 15) rfl rfl x (fun _ => rfl) (fun _ => rfl) ?_; intro w2 b2 k2 B2; refine Mk.out ?_)
 constructor
 have c0 : w2.cell? ⟨w1.heap.size, 0, none⟩ = some (.int .u8 x.k) := B2.cell 0
 have HB2 := xaa (xaq b1 b2)
 clear b1 b2 k2 B2
 gi_wp2_with fail
 refine ⟨trivial, (callsIn_wide.2 (CI.out _)).mono ?_⟩
 rintro e w3 ⟨rfl, rfl⟩
 clear c0
 gi_wp2_with fail
 refine ⟨trivial, (qkb _ _ _ _).mono ?_⟩
 rintro e w4 ⟨rfl, rfl⟩
 gi_wp2_with fail
 have hs2 : w.heap.size <= w2.heap.size := HB2.out.size
 have XB := Boxed.new w2 32 (.slice none 0 0)
 have XT := Boxed.new (w2.alloc (.cells #[.slice none 0 0] 32)) 28 (.pointer (some ⟨g, 0, none⟩))
 have XN := Boxed.new ((w2.alloc (.cells #[.slice none 0 0] 32)).alloc (.cells #[.pointer (some ⟨g, 0, none⟩)] 28)) 3 (.int .i64 (k : Int))
 simp only [World.size_alloc] at XT XN
 have XB4 := (XB.alloc (.cells #[.pointer (some ⟨g, 0, none⟩)] 28)).alloc (.cells #[.int .i64 (k : Int)] 3)
 have XT4 := XT.alloc (.cells #[.int .i64 (k : Int)] 3)
 have b4 : Below w.heap.size w (((w2.alloc (.cells #[.slice none 0 0] 32)).alloc (.cells #[.pointer (some ⟨g, 0, none⟩)] 28)).alloc (.cells #[.int .i64 (k : Int)] 3)) := ((HB2.out.alloc hs2 _).alloc (by simp; omega) _).alloc (by simp; omega) _
 have hsz : (((w2.alloc (.cells #[.slice none 0 0] 32)).alloc (.cells #[.pointer (some ⟨g, 0, none⟩)] 28)).alloc (.cells #[.int .i64 (k : Int)] 3)).heap.size = w2.heap.size + 3 := by simp
 obtain ⟨B, hB⟩ : ∃ B, w2.heap.size = B := ⟨_, rfl⟩
 rw [hB] at XB4 XT4 XN hsz hs2 |-
 obtain ⟨Wm, hWl⟩ : ∃ Wm, ((w2.alloc (.cells #[.slice none 0 0] 32)).alloc (.cells #[.pointer (some ⟨g, 0, none⟩)] 28)).alloc (.cells #[.int .i64 (k : Int)] 3) = Wm := ⟨_, rfl⟩
 rw [hWl] at XB4 XT4 XN b4 hsz |-
 have hsm : w.heap.size <= Wm.heap.size := b4.size
 clear hWl XB XT hB hsz
 have STA := xaa (JC.sta (n0 := w.heap.size) (B := B) hs2 l)
 refine qbk rfl (by omega) (gf := 49) (lb := #[.pointer (some ⟨B + 1, 0, none⟩), .pointer (some ⟨B + 1 + 1, 0, none⟩)]) rfl trivial (enters_of Tryz.func49 (by kernel_rfl) rfl)
  (encs := qs7 l) (fun _ => rfl) (fun rdy pre X => Ist (JC w.heap.size B l) w (Wm.heap.size + 1) (.deferred (some [])) rdy pre X) (Kps (SL (SC_ B) (Wm.heap.size + 1))) (fun xs => xs = visL (psOf l) (bxL l) k) (visL (psOf l) (bxL l) k).length
  (fun _ _ _ h => h.loop) ?round ?iter ?done
 case iter =>
  intro rdy hrd HY
  have bd : Below Wm.heap.size Wm ((Wm.alloc (.deferred (some []))).alloc rdy) := ((Below.refl _ Wm).alloc (xat) _).alloc (by simp) _
  have hL : ((Wm.alloc (.deferred (some []))).alloc rdy).heap[Wm.heap.size + 1]? = some rdy := by
   have := World.alloc_heap_new (Wm.alloc (.deferred (some []))) rdy
   rwa [World.size_alloc] at this
  have hD : ((Wm.alloc (.deferred (some []))).alloc rdy).heap[Wm.heap.size]? = some (.deferred (some [])) := (Below.heap_alloc _ _ _ (by simp)).trans (World.alloc_heap_new Wm _)
  have hI0 : Ist (JC w.heap.size B l) w (Wm.heap.size + 1) (.deferred (some [])) rdy [] ((Wm.alloc (.deferred (some []))).alloc rdy) :=
   ⟨⟨_, (bd.block _ XB4.lt).trans XB4, World.ownsRow_nil _ _ _ _⟩, hL, hD, b4.trans (bd.mono b4.size)⟩
  have hV := qho l (.pointer (some ⟨g, 0, none⟩)) (Ist.frm STA.out HTR.out) HT.out hlen HY l.length k [] ((Wm.alloc (.deferred (some []))).alloc rdy) (by omega) hkl hI0 (by simp)
  exact (qkc _ (B + 1) (B + 1 + 1) (Wm.heap.size + 1) g (k : Int) ((Wm.alloc (.deferred (some []))).alloc rdy) (fun X => Ist (JC w.heap.size B l) w (Wm.heap.size + 1) (.deferred (some [])) rdy (visL (psOf l) (bxL l) k) X)
   ((bd.cell (p := ⟨B + 1, 0, none⟩) XT4.lt).trans XT4.cell) ((bd.cell (p := ⟨B + 1 + 1, 0, none⟩) XN.lt).trans XN.cell) (hV.mono fun e X h => ⟨h.1, by simpa using h.2.1⟩)).mono fun e X h => ⟨h.1, _, rfl, h.2⟩
 case round =>
  rintro rdy bsy m pre ⟨xn, xb⟩ X hr hb hI hN
  have HCLP := xaa (HCL.out pre (by omega))
  obtain ⟨y, hy⟩ : ∃ y, l.getD xn .zero = y := ⟨_, rfl⟩
  have HTXY : Hid (y.t.size <= 100000) := xaa (by rw [<- hy]; exact HTX.out xn)
  have hen : qs7 l (xn, xb) = #[.agg #[.int .i64 (xn : Int), .bool xb], .agg y.cells] := by unfold qs7; rw [hy]
  have HSN := xaa (qwe l pre (xn, xb))
  dsimp only at HSN
  rw [hy] at HSN
  rw [hen]
  clear hen hy
  gi_wp2_with (refine nwNIn (fun _ => trivial) rfl rfl 10 rfl rfl (.tmp 28) rfl rfl y (fun _ => rfl) (fun _ => rfl) ?_; intro w5 b5 k5 B5; refine Mk.out ?_)
  constructor
  have bS := xar X (.cells #[.int .i64 (xn : Int), .bool xb] 88)
  have BS := (Blk.new X 88 #[.int .i64 (xn : Int), .bool xb]).kb b5
  have b05 := xaq bS b5
  rw [World.size_alloc] at B5
  have HLX := hI.lt
  gi_wp2_with fail
  refine ⟨(b05.block _ HLX).trans hI.loop, ?_⟩
  obtain ⟨j6, s6, z6, o6, m6⟩ := hI.ahead STA.out hr b05 bsy
  obtain ⟨v6, hv6, ho6⟩ := j6
  have S6 : Blk (w5.putObj (Wm.heap.size + 1) bsy) X.heap.size 88 #[.int .i64 (xn : Int), .bool xb] := (o6 _ (by omega)).trans BS
  have N6 : Blk (w5.putObj (Wm.heap.size + 1) bsy) (X.heap.size + 1) 50 y.cells := (o6 _ (by omega)).trans B5
  have U6 : Hid (Ut.Tab (w5.putObj (Wm.heap.size + 1) bsy)) := xaa (by
   refine HU.out.below (hI.below.trans ((b05.mono hI.below.size).trans (m6.below (xau hI.below.size b05.size) fun k hk => ?_)))
   rw [hk]
   have := hI.below.size
   omega)
  have hn6 : w.heap.size <= (w5.putObj (Wm.heap.size + 1) bsy).heap.size := by
   rw [z6]; exact xau hI.below.size b05.size
  have HBEH := xaa (fun (pre' : List (Nat × Bool)) (w8 : World) (h8 : JC w.heap.size B l pre' w8) (k8 : Kps (SC_ B) (w5.putObj (Wm.heap.size + 1) bsy) w8) => hI.behind STA.out (by omega) (by omega) hr rfl b05 hb h8 k8)
  obtain ⟨W6, hW6⟩ : ∃ W6, w5.putObj (Wm.heap.size + 1) bsy = W6 := ⟨_, rfl⟩
  rw [hW6] at hv6 ho6 S6 N6 U6 hn6 HBEH |-
  have c6 := hv6.cell
  have s0 : W6.cell? ⟨X.heap.size, 0, none⟩ = some (.int .i64 (xn : Int)) := S6.cell 0
  have s1 : W6.cell? ⟨X.heap.size, 1, none⟩ = some (.bool xb) := S6.cell 1
  have L6 := N6.lies
  have HV6 := xaa hv6
  have HO6 := xaa ho6
  clear bS BS b05 b5 k5 B5 hI s6 z6 o6 m6 hW6 hv6 ho6 S6 N6
  cases xb with
  | true =>
    have CA := xaa (qll w.heap.size (chV l pre) v6 xn y W6 HO6.out hn6 HCLP.out HTXY.out U6.out)
    gi_wp2_with (refine ldNIn (fun _ => trivial) rfl (.tmp 10) rfl _ rfl y L6 ?_)
    refine ⟨trivial, fun h => (by cases h), (CallsIn.inRound _ (callsIn_wide.2 CA.out)).mono ?_⟩
    rintro e w7 ⟨u, rfl, hO7, hG7⟩
    obtain ⟨Au, cu, hu⟩ := hO7.rw_.form
    obtain ⟨nu, hnu⟩ : ∃ nu, (chV l pre ++ ownC y xn).length = nu := ⟨_, rfl⟩
    rw [hnu] at hu
    subst hu
    have hO7' : Wl.OwC w.heap.size w7 (.slice Au nu cu) (chV l (pre ++ [(xn, true)])) := by rw [HSN.out]; exact hO7
    obtain ⟨q1, q2, q3⟩ := JC.grown HV6.out HO6.out hO7' hG7
    have HRE := xaa (HBEH.out _ _ q2 q3)
    have c7 := q1.cell
    have f7 := q1.frozen
    clear CA hO7 hO7' hG7 q1 q2 q3 c6 s0 s1 L6 HBEH hnu
    gi_wp2
    first | exact HRE.out | exact ⟨rfl, HRE.out⟩
  | false =>
    have HRE := xaa (HBEH.out (pre ++ [(xn, false)]) W6 ⟨v6, HV6.out, by rw [HSN.out]; simpa using HO6.out⟩ (Kps.refl _ _))
    clear HBEH c6 L6 s0
    gi_wp2
    first | exact HRE.out | exact ⟨rfl, HRE.out⟩
 case done =>
  intro rdy exh xs X hr he hxs hI
  subst hxs
  obtain ⟨u, hv, hown⟩ := hI.st
  have hLX := hI.lt
  have g9 := grownBy_putObj' X (Wm.heap.size + 1) exh
  have hv9 := hv.kept g9 (fun e => by
   injection e with e
   have h1 := hI.loop
   rw [<- e, show X.heap[B]? = _ from hv] at h1
   injection h1 with h1
   rw [<- h1] at hr
   cases hr)
  have nL : ¬ u.ownBlock = some (Wm.heap.size + 1) := fun e => by
   obtain ⟨_, cs, fz, h2⟩ := qf6 hown e
   rw [hI.loop] at h2
   injection h2 with h2
   rw [h2] at hr
   cases hr
  have own9 := hown.kept g9 (.inr fun e => nL e)
  have hD9 : (X.putObj (Wm.heap.size + 1) exh).heap[Wm.heap.size]? = some (.deferred (some [])) := (World.putObj_heap_other (by omega)).trans hI.defd
  have b9 : Below w.heap.size w (X.putObj (Wm.heap.size + 1) exh) := hI.below.grown g9 (by have := hI.below.size; omega) (fun k e => by injection e with e; omega)
  have c9 := hv9.cell
  obtain ⟨X9, hX9⟩ : ∃ X9, X.putObj (Wm.heap.size + 1) exh = X9 := ⟨_, rfl⟩
  rw [hX9] at hv9 own9 hD9 b9 c9 |-
  have HOWN9 := xaa own9
  clear hX9 g9 hv hown hv9 own9 hI
  gi_wp2
  refine ⟨by simp, .inl ⟨_, _, rfl, run_takeDeferred hD9, ?_⟩⟩
  have ga := grownBy_putObj' X9 Wm.heap.size (.deferred none)
  refine ⟨_, results_tmp2 rfl _ _ _, u, rfl, ?_, b9.grown ga (by have := b9.size; omega) (fun k e => by injection e with e; omega)⟩
  exact HOWN9.out.kept ga (.inr fun e => by
   obtain ⟨_, cs, fz, h2⟩ := qf6 HOWN9.out e
   rw [hD9] at h2
   cases h2)
end Ce
namespace Ce
open Ar
open Wh (Cr)
structure Rst where
 nx : Nat
 wt : Int
 out : List Cl
def putV (s : Rst) (c : Cl) : Rst := if c.k = 8 then ⟨s.nx, s.wt, s.out ++ [c]⟩ else ⟨s.nx, 0, s.out ++ [{ c with sf := decide (s.wt = 1), em := decide (s.wt = 2) }]⟩
theorem qkz (s : Rst) (c : Cl) : (putV s c).nx = s.nx := by unfold putV; split <;> rfl
structure Gv where
 bx : Nat -> Bool
 st : Nat -> Int
 en : Nat -> Int
 cs : List Cr
 hs : List Int
 adv : Cr -> Int
def qm3 (c : Cr) (n : Int) (i : Nat) (a : Int) : Cl := ⟨c.kind, n, (i : Int), a, false, false⟩
def edgV (g : Gv) (x : Nat × Bool) : Cl := ⟨if x.2 then 7 else 8, (x.1 : Int), -1, if x.2 then g.st x.1 else g.en x.1, false, false⟩
def oneV (g : Gv) (n : Nat) (s : Rst) (c : Cr) : Rst :=
 ⟨s.nx + 1, if s.nx + 1 < g.cs.length then g.hs.getD (s.nx + 1) 0 else (putV s (qm3 c n s.nx (g.adv c))).wt, (putV s (qm3 c n s.nx (g.adv c))).out⟩
def pcs (g : Gv) (n : Nat) : Nat -> Rst -> Rst
 | 0, s => s
 | f + 1, s => match g.cs[s.nx]? with
   | some c => if c.node = (n : Int) then pcs g n f (oneV g n s c) else s
   | none => s
def stV (g : Gv) (s : Rst) (x : Nat × Bool) : Rst := if g.bx x.1 then putV s (edgV g x) else if x.2 then pcs g x.1 (g.cs.length + 1) s else s
def s0V : Rst := ⟨0, 0, []⟩
def qfb (g : Gv) (l : List (Nat × Bool)) : Rst := l.foldl (stV g) s0V
theorem qgu (g : Gv) (l : List (Nat × Bool)) (x : Nat × Bool) : qfb g (l ++ [x]) = stV g (qfb g l) x := by
 unfold qfb
 rw [List.foldl_append]
 rfl
theorem qmc {g : Gv} {n f : Nat} {s : Rst} {c : Cr} (h : g.cs[s.nx]? = some c) (hn : c.node = (n : Int)) : pcs g n (f + 1) s = pcs g n f (oneV g n s c) := by
 show (match g.cs[s.nx]? with | some c => if c.node = (n : Int) then pcs g n f (oneV g n s c) else s | none => s) = _
 rw [h]
 exact if_pos hn
theorem qjn {g : Gv} {n f : Nat} {s : Rst} {c : Cr} (h : g.cs[s.nx]? = some c) (hn : ¬ c.node = (n : Int)) : pcs g n f s = s := by
 cases f with
 | zero => rfl
 | succ f =>
   show (match g.cs[s.nx]? with | some c => if c.node = (n : Int) then pcs g n f (oneV g n s c) else s | none => s) = _
   rw [h]
   exact if_neg hn
theorem qmd {g : Gv} {n f : Nat} {s : Rst} (h : g.cs[s.nx]? = none) : pcs g n f s = s := by
 cases f with
 | zero => rfl
 | succ f =>
   show (match g.cs[s.nx]? with | some c => if c.node = (n : Int) then pcs g n f (oneV g n s c) else s | none => s) = _
   rw [h]
theorem qq1 {g : Gv} {n : Nat} {P : Rst -> Prop} (hs : ∀ s c, P s -> g.cs[s.nx]? = some c -> c.node = (n : Int) -> P (oneV g n s c)) : ∀ f s, P s -> P (pcs g n f s) := by
 intro f
 induction f with
 | zero => intro s h; exact h
 | succ f ih =>
   intro s h
   cases hc : g.cs[s.nx]? with
   | none => rw [qmd hc]; exact h
   | some c =>
     by_cases hn : c.node = (n : Int)
     ·rw [qmc hc hn]; exact ih _ (hs s c h hc hn)
     ·rw [qjn hc hn]; exact h
theorem qsz {g : Gv} {P : Rst -> Prop} (h0 : P s0V) (he : ∀ s x, P s -> g.bx x.1 = true -> P (putV s (edgV g x))) (hc : ∀ s c (n : Nat), P s -> g.cs[s.nx]? = some c -> c.node = (n : Int) -> g.bx n = false -> P (oneV g n s c)) : ∀ l, P (qfb g l) := by
 intro l
 induction l using qd3 with
 | nil => exact h0
 | snoc l x ih =>
   rw [qgu]
   unfold stV
   split
   ·exact he _ x ih ‹_›
   ·split
    ·exact qq1 (fun s c h h1 h2 => hc s c x.1 h h1 h2 (by simpa using ‹¬ g.bx x.1 = true›)) _ _ ih
    ·exact ih
def Chr (g : Gv) (u : Cl) : Prop := (∃ (j : Nat) (c : Cr), g.cs[j]? = some c /\ u.ch = (j : Int) /\ u.node = c.node /\ u.k = c.kind /\ u.adv = g.adv c) \/ (u.ch = -1 /\ (u.k = 7 \/ u.k = 8))
theorem qqs (s : Rst) (c : Cl) (h : c.k ≠ 8) : putV s c = ⟨s.nx, 0, s.out ++ [{ c with sf := decide (s.wt = 1), em := decide (s.wt = 2) }]⟩ := if_neg h
theorem qfk (g : Gv) (n : Nat) (s : Rst) (c : Cr) (h8 : c.kind ≠ 8) : (oneV g n s c).out = s.out ++ [{ qm3 c n s.nx (g.adv c) with sf := decide (s.wt = 1), em := decide (s.wt = 2) }] := by
 unfold oneV
 rw [qqs s (qm3 c n s.nx (g.adv c)) h8]
theorem qiz {g : Gv} (hk : ∀ c ∈ g.cs, c.kind <= 6) (l : List (Nat × Bool)) : (∀ u ∈ (qfb g l).out, Chr g u) /\ (qfb g l).nx <= g.cs.length := by
 refine qsz (P := fun s => (∀ u ∈ s.out, Chr g u) /\ s.nx <= g.cs.length) ⟨fun u hu => (by cases hu), Nat.zero_le _⟩ ?_ ?_ l
 ·rintro s x ⟨h1, h2⟩ _
  refine ⟨fun u hu => ?_, by rw [qkz]; exact h2⟩
  unfold putV at hu
  have he : ∀ u : Cl, u.ch = -1 -> (u.k = if x.2 then 7 else 8) -> Chr g u := fun u e1 e2 => .inr ⟨e1, by rw [e2]; cases x.2 <;> simp⟩
  split at hu
  ·rcases List.mem_append.1 hu with hu | hu
   ·exact h1 u hu
   ·rw [List.mem_singleton.1 hu]; exact he _ rfl rfl
  ·rcases List.mem_append.1 hu with hu | hu
   ·exact h1 u hu
   ·rw [List.mem_singleton.1 hu]; exact he _ rfl rfl
 ·rintro s c n ⟨h1, h2⟩ hc hn _
  have hm := xav hc
  have h6 := hk c hm
  refine ⟨fun u hu => ?_, ?_⟩
  ·rw [qfk g n s c (by omega)] at hu
   rcases List.mem_append.1 hu with hu | hu
   ·exact h1 u hu
   ·rw [List.mem_singleton.1 hu]; exact .inl ⟨s.nx, c, hc, rfl, hn.symm, rfl, rfl⟩
  ·have := (xah hc).1
   show s.nx + 1 <= _
   omega
theorem qlp {g : Gv} (hk : ∀ c ∈ g.cs, c.kind <= 6) (l : List (Nat × Bool)) : (qfb g l).out.length <= l.length + (qfb g l).nx := by
 induction l using qd3 with
 | nil => exact Nat.zero_le _
 | snoc l x ih =>
   rw [qgu, List.length_append, List.length_singleton]
   unfold stV
   split
   ·rw [qkz]
    have : (putV (qfb g l) (edgV g x)).out.length = (qfb g l).out.length + 1 := by unfold putV; split <;> simp
    omega
   ·split
    ·refine qq1 (P := fun s => s.out.length <= l.length + 1 + s.nx) (fun s c h hc _ => ?_) _ _ (by omega)
     have h6 := hk c (xav hc)
     rw [qfk g _ s c (by omega), List.length_append, List.length_singleton]
     show _ <= l.length + 1 + (s.nx + 1)
     omega
    ·omega
end Ce
namespace Ce
open Ar
open Wh (Cr qb0)
open Fo (Fnt W64)
open Wl (whF)
def qo7 (l : List Nod) (k : Nat) : List Cr := chV l (visL (psOf l) (bxL l) k)
def csL (ss : List Sty) (l : List Nod) (k : Nat) : List Cr := qb0 (whF ss) wideB (qo7 l k)
def hsL (ss : List Sty) (l : List Nod) (k : Nat) : List Int := Ch.chn ss Ch.z0 (csL ss l k) (qnk (psOf l) (csL ss l k))
def givL (ss : List Sty) (fs : List Fnt) (at_ : List Int) (l : List Nod) (k : Nat) : Gv :=
 ⟨bxL l, fun n => (l.getD n .zero).st, fun n => (l.getD n .zero).en, csL ss l k, hsL ss l k, qpj ss fs at_⟩
def cellL (ss : List Sty) (fs : List Fnt) (at_ : List Int) (l : List Nod) (k : Nat) : List Cl := (qfb (givL ss fs at_ l k) (visL (psOf l) (bxL l) k)).out
theorem qm2 : ∀ (xs : List (Int × Nat)) (i : Nat), ∀ c ∈ Ut.chs i xs, c.kind = 0
 | [], _, c, h => by cases h
 | (r, n) :: t, i, c, h => by
   rcases List.mem_cons.1 (show c ∈ (⟨r, 0, i, n, 0⟩ : Ut.Ch) :: Ut.chs (i + n) t from h) with rfl | h
   ·rfl
   ·exact qm2 t _ c h
theorem qzi (x : Nod) (n : Nat) : ∀ c ∈ ownC x n, c.node = (n : Int) /\ (c.kind = 0 \/ c.kind = 5 \/ c.kind = 6) /\ (c.kind = 5 -> c.r ≠ 10) := by
 intro c hc
 unfold ownC at hc
 split at hc
 ·obtain ⟨d, hd, rfl⟩ := List.mem_map.1 hc
  obtain ⟨e, he, rfl⟩ := List.mem_map.1 hd
  have hk := qm2 _ _ e he
  exact ⟨rfl, .inl hk, fun h => by have : e.kind = 5 := h; omega⟩
 ·split at hc
  ·rw [List.mem_singleton.1 hc]
   exact ⟨rfl, .inr (.inl rfl), fun _ => by show (0 : Int) ≠ 10; decide⟩
  ·split at hc
   ·rw [List.mem_singleton.1 hc]
    exact ⟨rfl, .inr (.inr rfl), fun h => by have : (6 : Int) = 5 := h; omega⟩
   ·cases hc
section
variable {ss : List Sty} {fs : List Fnt} {at_ : List Int} {l : List Nod} {k : Nat}
theorem qi0 (hT : Tre (psOf l)) (hk : k < l.length) : ∀ c ∈ qo7 l k, (∃ n : Nat, c.node = n /\ n ∈ ins (visL (psOf l) (bxL l) k) /\ n < l.length /\ c ∈ ownC (l.getD n .zero) n) /\ (c.kind = 0 \/ c.kind = 5 \/ c.kind = 6) /\ (c.kind = 5 -> c.r ≠ 10) := by
 intro c hc
 obtain ⟨⟨n, b⟩, hn, hc⟩ := List.mem_flatMap.1 hc
 cases b with
 | false => cases hc
 | true =>
   obtain ⟨h1, h2, h3⟩ := qzi _ n c hc
   have hm : n ∈ ins (visL (psOf l) (bxL l) k) := List.mem_map.2 ⟨(n, true), List.mem_filter.2 ⟨hn, rfl⟩, rfl⟩
   have := (qk8 hT (bxL l) (by rw [qad]; exact hk)).2 n hm
   rw [qad] at this
   exact ⟨⟨n, h1, hm, this.2, hc⟩, h2, h3⟩
theorem qmx : Wh.Left (qo7 l k) (csL ss l k) := Wh.qin _
theorem qe4 (hT : Tre (psOf l)) (hk : k < l.length) : ∀ c ∈ csL ss l k, (∃ n : Nat, c.node = n /\ n ∈ ins (visL (psOf l) (bxL l) k) /\ n < l.length /\ ∃ d, d ∈ ownC (l.getD n .zero) n) /\ 0 <= c.kind /\ c.kind <= 6 := by
 intro c hc
 obtain ⟨d, hd, e1, _⟩ := (qmx (ss := ss)).mem c hc
 obtain ⟨⟨n, h1, h2, h3, h4⟩, _⟩ := qi0 hT hk d hd
 refine ⟨⟨n, by rw [e1]; exact h1, h2, h3, d, h4⟩, ?_⟩
 have h6 := Wh.six (W := whF ss) (D := wideB) (qo7 l k) (fun c h => (qi0 hT hk c h).2.1) fun c h => (qi0 hT hk c h).2.2
 obtain ⟨e, he, rfl⟩ := List.mem_map.1 (show c ∈ (Wh.s6 (whF ss) wideB (qo7 l k)).map (Wh.kindOf (whF ss)) from hc)
 have hk0 := h6.kind e he
 rcases Wh.qjx (W := whF ss) e with ⟨_, h⟩ | ⟨_, _, h⟩ | ⟨_, _, _, _, h⟩ | ⟨_, _, _, _, h⟩ | ⟨_, _, _, h⟩ <;> rw [h]
 ·exact ⟨by show (0 : Int) <= 1; omega, by show (1 : Int) <= 6; omega⟩
 ·exact ⟨by show (0 : Int) <= 4; omega, by show (4 : Int) <= 6; omega⟩
 ·exact ⟨by show (0 : Int) <= 2; omega, by show (2 : Int) <= 6; omega⟩
 ·exact ⟨by show (0 : Int) <= 3; omega, by show (3 : Int) <= 6; omega⟩
 ·omega
theorem qlg : (csL ss l k).length <= (qo7 l k).length := qmx.len
theorem qwq (hT : Tre (psOf l)) (hk : k < l.length) (hs : ss.length = l.length) (hw : ∀ s ∈ ss, s.a0 <= 5) : Wl.mayB ss (qo7 l k) = true := by
 refine List.all_eq_true.2 fun c hc => ?_
 obtain ⟨⟨n, h1, _, h3, _⟩, h4, _⟩ := qi0 hT hk c hc
 obtain ⟨s, hsn⟩ : ∃ s, ss[n]? = some s := ⟨_, xac (by omega)⟩
 refine Wl.qf8.2 ⟨by rcases h4 with h | h | h <;> rw [h] <;> rfl, n, s, h1, hsn, ?_, hw s (xav hsn)⟩
 rw [h1]
 exact Wl.qps hsn
theorem q0k {ps : List Int} (h : Tre ps) {a b : Nat} (ha : a < ps.length) (hb : b < ps.length) : comF ps (a + b) a b < ps.length := by
 have := (qsd h (a + b) a b ha hb (xat)).left.le h
 omega
theorem qeb (hT : Tre (psOf l)) (hk : k < l.length) : ∀ c ∈ csL ss l k, 0 <= c.node /\ c.node < (l.length : Int) := fun c hc => by
 obtain ⟨⟨n, h1, _, h3, _⟩, _⟩ := qe4 hT hk c hc
 omega
theorem qvz (hT : Tre (psOf l)) (hk : k < l.length) : Ch.mayC (csL ss l k) l.length (qnk (psOf l) (csL ss l k)) = true := by
 unfold Ch.mayC
 rw [qfj, decide_eq_true rfl, Bool.true_and, Bool.and_eq_true]
 constructor
 ·refine List.all_eq_true.2 fun c hc => ?_
  obtain ⟨h1, h2⟩ := qeb (ss := ss) hT hk c hc
  have h3 := (qe4 (ss := ss) hT hk c hc).2
  unfold Ch.okC
  rw [decide_eq_true h1, decide_eq_true h2, decide_eq_true h3.2]
  rfl
 ·refine List.all_eq_true.2 fun r hr => ?_
  have hm := List.mem_of_mem_drop hr
  unfold qnk at hm
  obtain ⟨i, hi, rfl⟩ := List.mem_map.1 hm
  have hil := List.mem_range.1 hi
  have hb : 0 <= qyz (psOf l) (csL ss l k) i /\ qyz (psOf l) (csL ss l k) i < (l.length : Int) := by
   unfold qyz
   split
   ·omega
   ·obtain ⟨c, hc⟩ : ∃ c, (csL ss l k)[i]? = some c := ⟨_, xac hil⟩
    obtain ⟨d, hd⟩ : ∃ d, (csL ss l k)[i - 1]? = some d := ⟨_, xac (by omega)⟩
    have e1 : (csL ss l k).getD i zCr = c := by rw [xal, hc]; rfl
    have e2 : (csL ss l k).getD (i - 1) zCr = d := by rw [xal, hd]; rfl
    rw [e1, e2]
    have h1 := qeb hT hk c (xav hc)
    have h2 := qeb hT hk d (xav hd)
    have := q0k hT (a := d.node.toNat) (b := c.node.toNat) (by rw [qad]; omega) (by rw [qad]; omega)
    rw [qad] at this
    omega
  unfold Ch.okR
  rw [decide_eq_true hb.1, decide_eq_true hb.2]
  rfl
theorem qk9 : (hsL ss l k).length = (csL ss l k).length := Ch.qli ss _ _ _ (qfj _ _).symm
theorem qja {nf na n : Nat} (h : validB ss nf na n = true) : ss.length = n /\ na = n /\ ∀ s ∈ ss, s.a0 <= 5 /\ 0 <= s.a5 /\ s.a5 < nf /\ 0 <= s.a4 /\ s.a4 <= 64 := by
 unfold validB at h
 simp only [Bool.and_eq_true, decide_eq_true_eq] at h
 exact ⟨h.1, h.2.1, fun s hs => okS_is (xam h.2.2 s hs)⟩
end
end Ce
namespace Ce
open Go.Shelf
open Wh (Cr)
def qde (c h : Value) (f : Nat -> Value) (nx : Nat) (wt : Int) (o : Value) : Array Value :=
 #[c, h, f 0, f 1, f 2, f 3, f 4, f 5, f 6, f 7, f 8, f 9, f 10, f 11, f 12, f 13, .int .i64 (nx : Int), .int .u8 wt, o]
theorem qy1 (c h : Value) (f : Nat -> Value) (nx : Nat) (wt : Int) (o : Value) (n : Nat) : (qde c h f nx wt o).setIfInBounds 16 (.int .i64 (n : Int)) = qde c h f n wt o := by simp [qde]
theorem qqj (c h : Value) (f : Nat -> Value) (nx : Nat) (wt : Int) (o : Value) (t : Int) : (qde c h f nx wt o).setIfInBounds 17 (.int .u8 t) = qde c h f nx t o := by simp [qde]
theorem ql4 (c h : Value) (f : Nat -> Value) (nx : Nat) (wt : Int) (o o' : Value) : (qde c h f nx wt o).setIfInBounds 18 o' = qde c h f nx wt o' := by simp [qde]
def RowSt (base R : Nat) (c h : Value) (f : Nat -> Value) (s : Rst) (w : World) : Prop :=
 ∃ o, Blk w R 83 (qde c h f s.nx s.wt o) /\ qpe base w o s.out
def SR (R : Nat) (w : World) (k : Nat) : Prop := k = R \/ ∃ o, w.cell? ⟨R, 18, none⟩ = some o /\ o.ownBlock = some k
theorem SR.of {R : Nat} {w : World} {c h o : Value} {f : Nat -> Value} {nx : Nat} {wt : Int} {t : TypeId} (hB : Blk w R t (qde c h f nx wt o)) {k : Nat} : SR R w k ↔ k = R \/ o.ownBlock = some k := by
 have hc : w.cell? ⟨R, 18, none⟩ = some o := hB.cell 18
 unfold SR
 rw [hc]
 constructor
 ·rintro (h | ⟨o', h1, h2⟩)
  ·exact .inl h
  ·injection h1 with h1
   exact .inr (h1 ▸ h2)
 ·rintro (h | h)
  ·exact .inl h
  ·exact .inr ⟨o, rfl, h⟩
theorem own_ne {w : World} {base R : Nat} {o : Value} {l : List Cl} {cs : Array Value} {t : TypeId} (hB : Blk w R t cs) (ht : t ≠ 39) (hO : qpe base w o l) : ¬ o.ownBlock = some R := fun e => by
 rcases hO.2 with ⟨rfl, _⟩ | ⟨g, cap, cur, rfl, _, hg, _⟩
 ·simp [Value.ownBlock] at e
 ·obtain rfl : g = R := by simpa [Value.ownBlock] using e
  rw [show w.heap[g]? = _ from hB] at hg
  injection hg with hg
  injection hg with _ hg _
  exact ht hg
theorem qpe.keep {base : Nat} {w w' : World} {o : Value} {l : List Cl} {S : Nat -> Prop} (h : qpe base w o l) (m : Mod S w w') (hS : ∀ k, o.ownBlock = some k -> ¬ S k) : qpe base w' o l := qcd h m hS
theorem RowSt.ext {base R : Nat} {c h : Value} {f : Nat -> Value} {s : Rst} {w w' : World} (hR : RowSt base R c h f s w) (b : Below w.heap.size w w') : RowSt base R c h f s w' /\ ∀ k, SR R w' k -> SR R w k := by
 obtain ⟨o, hB, hO⟩ := hR
 have hB' := hB.kb b
 refine ⟨⟨o, hB', hO.keep (S := fun _ => False) (xap b) fun _ _ => id⟩, fun k hk => ?_⟩
 rw [SR.of hB'] at hk
 rw [SR.of hB]
 exact hk
theorem RowSt.lt {base R : Nat} {c h : Value} {f : Nat -> Value} {s : Rst} {w : World} (hR : RowSt base R c h f s w) {k : Nat} (hk : SR R w k) : k < w.heap.size /\ (k = R \/ base <= k) := by
 obtain ⟨o, hB, hO⟩ := hR
 rw [SR.of hB] at hk
 rcases hk with rfl | hk
 ·exact ⟨hB.lt, .inl rfl⟩
 ·refine ⟨qme hO hk, .inr ?_⟩
  rcases hO.2 with ⟨rfl, _⟩ | ⟨g, cap, cur, rfl, hb, hg, _⟩
  ·simp [Value.ownBlock] at hk
  ·obtain rfl : g = k := by simpa [Value.ownBlock] using hk
   exact hb
theorem RowSt.kps {base R : Nat} {c h : Value} {f : Nat -> Value} {s : Rst} {w w' : World} (hR : RowSt base R c h f s w) (b : Below w.heap.size w w') : Kps (SR R) w w' := ⟨xap b, fun k hk => .inl ((hR.ext b).2 k hk)⟩
structure JP (w0 : World) (base R C : Nat) (c h : Value) (f : Nat -> Value) (nx : Nat) (wt : Int) (o : Value) (l : List Cl) (x : Cl) (listed : Nat -> Bool) (us : Nat -> Value) (W : World) : Prop where
 val : ∀ j u, j ≠ 6 -> j ≠ 7 -> j ≠ 10 -> [Value.pointer (some ⟨R, 0, none⟩), .pointer (some ⟨R, 0, none⟩), .pointer (some ⟨R, 0, none⟩), .pointer (some ⟨R, 18, none⟩), o, .agg (clA x), undef, undef, .pointer (some ⟨R, 0, none⟩), .pointer (some ⟨R, 18, none⟩)][j]? = some u -> listed j = true -> us j = u
 mod : Mod (fun k => k = R \/ o.ownBlock = some k) w0 W
 pre : listed 7 = false -> Below w0.heap.size w0 W
 lit : listed 6 = true -> listed 7 = false -> ∃ g, us 6 = .slice (some ⟨g, 0, none⟩) 1 1 /\ Blk W g 39 (clA x)
 app : listed 7 = true -> qpe base W (us 7) (l ++ [x]) /\ (∀ k, (us 7).ownBlock = some k -> o.ownBlock = some k \/ w0.heap.size <= k) /\ (listed 10 = false -> Blk W R 83 (qde c h f nx wt o)) /\ (listed 10 = true -> Blk W R 83 (qde c h f nx wt (us 7)))
section
variable {w0 W W' : World} {base R C nx : Nat} {c h o : Value} {f : Nat -> Value} {wt : Int} {l : List Cl} {x : Cl} {listed : Nat -> Bool} {us : Nat -> Value}
theorem JP.rd (J : JP w0 base R C c h f nx wt o l x listed us W) (i : Nat) (u : Value) (h6 : i ≠ 6) (h7 : i ≠ 7) (h10 : i ≠ 10)
 (hu : [Value.pointer (some ⟨R, 0, none⟩), .pointer (some ⟨R, 0, none⟩), .pointer (some ⟨R, 0, none⟩), .pointer (some ⟨R, 18, none⟩), o, .agg (clA x), undef, undef, .pointer (some ⟨R, 0, none⟩), .pointer (some ⟨R, 18, none⟩)][i]? = some u) : JP w0 base R C c h f nx wt o l x (qf0 listed i) (qkn us i u) W := by
 refine ⟨fun j v q6 q7 q10 hv e => ?_, J.mod, fun e => ?_, fun e e2 => ?_, fun e => ?_⟩
 ·by_cases ej : j = i
  ·subst ej
   rw [qb9]
   rw [hu] at hv
   injection hv
  ·rw [qaj _ ej] at e
   rw [qa3 _ _ ej]
   exact J.val j v q6 q7 q10 hv e
 ·rw [qaj _ (Ne.symm h7)] at e; exact J.pre e
 ·rw [qaj _ (Ne.symm h6)] at e; rw [qaj _ (Ne.symm h7)] at e2; rw [qa3 _ _ (Ne.symm h6)]; exact J.lit e e2
 ·rw [qaj _ (Ne.symm h7)] at e; rw [qa3 _ _ (Ne.symm h7), qaj _ (Ne.symm h10)]; exact J.app e
theorem JP.mk6 (J : JP w0 base R C c h f nx wt o l x listed us W) (h7 : listed 7 = false) (b : Below W.heap.size W W') {g : Nat} (hB : Blk W' g 39 (clA x)) : JP w0 base R C c h f nx wt o l x (qf0 listed 6) (qkn us 6 (.slice (some ⟨g, 0, none⟩) 1 1)) W' := by
 refine ⟨fun j v q6 q7 q10 hv e => ?_, J.mod.trans ((xap b).mono fun _ h => (show (False : Prop) from h).elim), fun _ => (J.pre h7).trans (b.mono (J.pre h7).size), fun _ _ => ⟨g, qb9 .., hB⟩, fun e => ?_⟩
 ·rw [qaj _ q6] at e; rw [qa3 _ _ q6]; exact J.val j v q6 q7 q10 hv e
 ·rw [qaj _ (by decide), h7] at e; cases e
theorem JP.mk7 (J : JP w0 base R C c h f nx wt o l x listed us W) (h10 : listed 10 = false) (m : Mod (fun k => o.ownBlock = some k) W W') (h7 : listed 7 = false) (hB0 : Blk w0 R 83 (qde c h f nx wt o)) (hne : ¬ o.ownBlock = some R) {u : Value} (hO : qpe base W' u (l ++ [x])) (hev : ∀ k, u.ownBlock = some k -> o.ownBlock = some k \/ W.heap.size <= k) : JP w0 base R C c h f nx wt o l x (qf0 listed 7) (qkn us 7 u) W' := by
 have hp := J.pre h7
 have hBW := hB0.kb hp
 refine ⟨fun j v q6 q7 q10 hv e => ?_, J.mod.trans (m.mono fun _ h => .inl (.inr h)), fun e => ?_, fun _ e => ?_, fun _ => ⟨?_, ?_, fun _ => hBW.keep m hne, fun e => ?_⟩⟩
 ·rw [qaj _ q7] at e; rw [qa3 _ _ q7]; exact J.val j v q6 q7 q10 hv e
 ·rw [qbe] at e; cases e
 ·rw [qbe] at e; cases e
 ·rw [qb9]; exact hO
 ·rw [qb9]; exact fun k hk => (hev k hk).imp id fun h => xau hp.size h
 ·rw [qaj _ (by decide), h10] at e; cases e
theorem JP.mk10 (J : JP w0 base R C c h f nx wt o l x listed us W) (h7 : listed 7 = true) (m : Mod (fun k => k = R) W W') (hB : Blk W' R 83 (qde c h f nx wt (us 7))) (hne : ¬ (us 7).ownBlock = some R) : JP w0 base R C c h f nx wt o l x (qf0 listed 10) (qkn us 10 undef) W' := by
 obtain ⟨a1, a2, _, _⟩ := J.app h7
 refine ⟨fun j v q6 q7 q10 hv e => ?_, J.mod.trans (m.mono fun _ h => .inl (.inl h)), fun e => ?_, fun _ e => ?_, fun _ => ⟨?_, ?_, fun e => ?_, fun _ => ?_⟩⟩
 ·rw [qaj _ q10] at e; rw [qa3 _ _ q10]; exact J.val j v q6 q7 q10 hv e
 ·rw [qaj _ (by decide), h7] at e; cases e
 ·rw [qaj _ (by decide), h7] at e; cases e
 ·rw [qa3 _ _ (by decide)]; exact a1.keep m fun k hk hR => by rw [hR] at hk; exact hne hk
 ·rw [qa3 _ _ (by decide)]; exact a2
 ·rw [qbe] at e; cases e
 ·rw [qa3 _ _ (by decide)]; exact hB
end
end Ce
end Go.Proofs.YtmceblkjbpbcoaaGreatDoor
