/- Contract of the closure that white's nearest hands back: the neighbour by its place. Conditions: the row of places points into the characters, which lie where the slice says. -/
import Derived.Test.YtejcfhfmdijimaaDoorWhI
import Derived.Test.YtejcfhfmdijimaaDoorWhMath6
import Derived.Test.YtejcfhfmdijimaaDoorYTail
namespace Go.Proofs.YtejcfhfmdijimaaDoor
open Go.ChangeShapes Go.WideShapes Go.ChangeAt Go.RowKit Go.Shelf
open Wh

/-- what the closure reads: the row of places, and the characters -/
structure NearAt (w : World) (gf gl : Nat) (l : List Cw) (f : Nat → Cw) : Prop where
  lt1 : gf < w.heap.size
  lt2 : gl < w.heap.size
  ex : ∃ (v : Value) (gF cap : Nat) (F : Nat → Int), w.cell? ⟨gf, 0, none⟩ = some (.slice (some ⟨gF, 0, none⟩) l.length cap) ∧ gF < w.heap.size ∧ w.cell? ⟨gl, 0, none⟩ = some v ∧ RwW w v l ∧ ∀ i, i < l.length → w.cell? ⟨gF, i, none⟩ = some (.int .i64 (F i)) ∧ Pts l (F i) (f i)
theorem NearAt.below {w w' : World} {gf gl : Nat} {l : List Cw} {f : Nat → Cw} (h : NearAt w gf gl l f) (b : Below w.heap.size w w') : NearAt w' gf gl l f := by
  obtain ⟨h1, h2, v, gF, cap, F, h3, h4, h5, h6, h7⟩ := h
  refine ⟨Nat.lt_of_lt_of_le h1 b.size, Nat.lt_of_lt_of_le h2 b.size, v, gF, cap, F, (b.cell (p := ⟨gf, 0, none⟩) h1).trans h3, Nat.lt_of_lt_of_le h4 b.size, (b.cell (p := ⟨gl, 0, none⟩) h2).trans h5, h6.below b, fun i hi => ?_⟩
  exact ⟨(b.cell (p := ⟨gF, i, none⟩) h4).trans (h7 i hi).1, (h7 i hi).2⟩

set_option maxRecDepth 100000 in
set_option maxHeartbeats 4000000 in
theorem wnear1_any (l : List Cw) (f : Nat → Cw) (gf gl i : Nat) (w : World) (h : NearAt w gf gl l f) (hi : i < l.length) :
    Calls Tryd.prog 70 #[.int .i64 (i : Int), .pointer (some ⟨gf, 0, none⟩), .pointer (some ⟨gl, 0, none⟩)] w fun e w' => e = .returned (.agg (cwA (f i))) ∧ Below w.heap.size w w' := by
  obtain ⟨lt1, lt2, v, gF, cap, F, c1, lt3, c2, hR, hF⟩ := h
  obtain ⟨hc, hP⟩ := hF i hi
  obtain ⟨z, hz⟩ : ∃ z, F i = z := ⟨_, rfl⟩
  rw [hz] at hc hP
  have HR := Lib.hid hR
  obtain ⟨n, hn⟩ : ∃ n, l.length = n := ⟨_, rfl⟩
  have HN := Lib.hid hn
  rw [hn] at hi c1
  clear hF hR hn hz
  have hiz : (i : Int) < n := by omega
  rcases hP with ⟨rfl, hs⟩ | ⟨j, rfl, hj⟩
  · rw [hs]
    clear hs
    go_enter Tryd.func70, Tryd.ntmps70
    go_wp2_with (first
      | (refine alWV rfl rfl ?_; intro w1 b1 B1; have q1 : w1.cell? ⟨gf, 0, none⟩ = some (.slice (some ⟨gF, 0, none⟩) n cap) := (b1.cell (p := ⟨gf, 0, none⟩) lt1).trans c1; have q2 : w1.cell? ⟨gF, i, none⟩ = some (.int .i64 (-1)) := (b1.cell (p := ⟨gF, i, none⟩) lt3).trans hc)
      | (refine wpList_valIf (o := ⟨some 11, _, _, _, _, _⟩) (wanted_none rfl _) _ rfl (.agg (cwA nb)) _ (by kernel_rfl) ?_)
      | (refine stW rfl (.tmp 4) (.tmp 11) rfl rfl _ rfl nb rfl zCw B1 ?_; intro w2 m2 B2; refine Mk.out ?_))
    constructor
    go_wp2_with fail
    refine ⟨rfl, _, res_row rfl _ _ w.heap.size 57 _ _ rfl B2 uW rfl (iW _), rfl, b1.trans (m2.below b1.size fun k hk => by omega)⟩
  · obtain ⟨s, hs⟩ : ∃ s, f i = s := ⟨_, rfl⟩
    rw [hs] at hj ⊢
    obtain ⟨ad, cap2, o, hv, hab, ha, hLi⟩ := HR.out.get (Below.refl _ _) hj
    rw [HN.out] at hv
    subst hv
    have hjl : j < n := by have := (List.getElem?_eq_some_iff.1 hj).1; rw [HN.out] at this; exact this
    have hjz : (j : Int) < n := by omega
    have hm1 : ((j : Int) == -1) = false := by simp
    clear hj hs
    go_enter Tryd.func70, Tryd.ntmps70
    go_wp2_with (refine alWV rfl rfl ?_; intro w1 b1 B1; have q1 : w1.cell? ⟨gf, 0, none⟩ = some (.slice (some ⟨gF, 0, none⟩) n cap) := (b1.cell (p := ⟨gf, 0, none⟩) lt1).trans c1; have q2 : w1.cell? ⟨gF, i, none⟩ = some (.int .i64 (j : Int)) := (b1.cell (p := ⟨gF, i, none⟩) lt3).trans hc)
    have CC : Hid (∀ W, Below w1.heap.size w1 W → W.cell? ⟨gf, 0, none⟩ = some (.slice (some ⟨gF, 0, none⟩) n cap) ∧ W.cell? ⟨gF, i, none⟩ = some (.int .i64 (j : Int)) ∧ W.cell? ⟨gl, 0, none⟩ = some (.slice (some ad) n cap2) ∧ Lies W (ad.add (j * 6)) (cwA s)) := Lib.hid fun W h => by
      have hh := below_seq b1 h
      exact ⟨(hh.cell (p := ⟨gf, 0, none⟩) lt1).trans c1, (hh.cell (p := ⟨gF, i, none⟩) lt3).trans hc, (hh.cell (p := ⟨gl, 0, none⟩) lt2).trans c2, (ha ▸ hLi).below hh⟩
    clear q1 q2 c1 c2 hc hLi ha

    refine region_tail (by kernel_rfl) (fun W => Below w1.heap.size w1 W) (below_drewN (Below.refl _ _) 1) 7 (by rfl) (by kernel_rfl) (by kernel_rfl) (fun R hR => ?_)
    refine AllS.take (i := 0) (v := ?_) (by rw [List.getElem?_toArray]; rfl) (by kernel_rfl) (by kernel_rfl) (by kernel_rfl) (KeepsIf.read (by rfl) ?_) ?_
    rotate_left
    · intro W hSw
      (try dsimp only at hSw)
      obtain ⟨q1, q2, q3, q4⟩ := CC.out W hSw
      go_simp
      (try with_reducible rfl)
    rotate_left
    (try simp only [Act.put, List.setIfInBounds_toArray, List.set_cons_zero, List.set_cons_succ])
    refine AllS.take (i := 1) (v := ?_) (by rw [List.getElem?_toArray]; rfl) (by kernel_rfl) (by kernel_rfl) (by kernel_rfl) (KeepsIf.read (by rfl) ?_) ?_
    rotate_left
    · intro W hSw
      (try dsimp only at hSw)
      obtain ⟨q1, q2, q3, q4⟩ := CC.out W hSw
      go_simp
      (try with_reducible rfl)
    rotate_left
    (try simp only [Act.put, List.setIfInBounds_toArray, List.set_cons_zero, List.set_cons_succ])
    refine AllS.take (i := 2) (v := ?_) (by rw [List.getElem?_toArray]; rfl) (by kernel_rfl) (by kernel_rfl) (by kernel_rfl) (KeepsIf.read (by rfl) ?_) ?_
    rotate_left
    · intro W hSw
      (try dsimp only at hSw)
      obtain ⟨q1, q2, q3, q4⟩ := CC.out W hSw
      go_simp
      (try with_reducible rfl)
    rotate_left
    (try simp only [Act.put, List.setIfInBounds_toArray, List.set_cons_zero, List.set_cons_succ])
    refine AllS.take (i := 3) (v := ?_) (by rw [List.getElem?_toArray]; rfl) (by kernel_rfl) (by kernel_rfl) (by kernel_rfl) (KeepsIf.read (by rfl) ?_) ?_
    rotate_left
    · intro W hSw
      (try dsimp only at hSw)
      obtain ⟨q1, q2, q3, q4⟩ := CC.out W hSw
      go_simp
      (try with_reducible rfl)
    rotate_left
    (try simp only [Act.put, List.setIfInBounds_toArray, List.set_cons_zero, List.set_cons_succ])
    refine AllS.take (i := 4) (v := ?_) (by rw [List.getElem?_toArray]; rfl) (by kernel_rfl) (by kernel_rfl) (by kernel_rfl) (KeepsIf.read (by rfl) ?_) ?_
    rotate_left
    · intro W hSw
      (try dsimp only at hSw)
      obtain ⟨q1, q2, q3, q4⟩ := CC.out W hSw
      go_simp
      (try with_reducible rfl)
    rotate_left
    (try simp only [Act.put, List.setIfInBounds_toArray, List.set_cons_zero, List.set_cons_succ])
    refine AllS.take (i := 5) (v := ?_) (by rw [List.getElem?_toArray]; rfl) (by kernel_rfl) (by kernel_rfl) (by kernel_rfl) (KeepsIf.read (by rfl) ?_) ?_
    rotate_left
    · intro W hSw
      (try dsimp only at hSw)
      obtain ⟨q1, q2, q3, q4⟩ := CC.out W hSw
      go_simp
      (try with_reducible rfl)
    rotate_left
    (try simp only [Act.put, List.setIfInBounds_toArray, List.set_cons_zero, List.set_cons_succ])
    refine AllS.take (i := 6) (v := .agg (cwA s)) (by rw [List.getElem?_toArray]; rfl) (by kernel_rfl) (by kernel_rfl) (by kernel_rfl) (KeepsIf.read (by rfl) (fun W hSw => ?_)) ?_
    · (try dsimp only at hSw)
      obtain ⟨q1, q2, q3, q4⟩ := CC.out W hSw
      exact rdW (.tmp 17) rfl _ rfl s q4
    (try simp only [Act.put, List.setIfInBounds_toArray, List.set_cons_zero, List.set_cons_succ])
    refine AllS.done (by kernel_rfl) (hR.out _ ?_) _
    clear hR R

    intro w2 b2
    have B2 := B1.keep (S := fun _ => False) (Mod.of_below b2) id
    refine wpOp_of_wp (by rw [List.getElem?_toArray]; rfl) rfl ?_
    refine wp_storeL 57 (.tmp 4) (.tmp 18) rfl rfl _ rfl (cwA s) rfl _ _ B2 (iW _) rfl (oneW _) ?_
    intro w3 m3 B3
    go_wp2_with fail
    have b12 := below_seq b1 b2
    refine ⟨rfl, _, res_row rfl _ _ w.heap.size 57 _ _ rfl B3 uW rfl (iW _), rfl, b12.trans (m3.below b12.size fun k hk => by omega)⟩
end Go.Proofs.YtejcfhfmdijimaaDoor
