/- Ends, reckoned backward; contract of slices.Backward at nodes (a function that is ranged over). Conditions: the nodes lie where the slice says. -/
import Derived.Test.YtgpobhnonjdamaaDoorAr8
import Derived.Test.YtgpobhnonjdamaaDoorArOpIn
namespace Go.Proofs.YtgpobhnonjdamaaDoor
open Go.ChangeShapes Go.WideShapes Go.ChangeAt Go.RowKit Go.Shelf

attribute [local go_sem] Oper.semAt_some

/-! ### ends -/
open Classical in
noncomputable def endC (ps : List Int) (i : Nat) : Nat := if h : ∃ e, EndOf ps i e then h.choose else 0
theorem endC_of {ps : List Int} {i e : Nat} (h : EndOf ps i e) : endC ps i = e := by
  unfold endC
  have hx : ∃ e, EndOf ps i e := ⟨e, h⟩
  rw [dif_pos hx]
  exact hx.choose_spec.uniq h
theorem endC_is {ps : List Int} {i : Nat} (hi : i < ps.length) : EndOf ps i (endC ps i) := by
  obtain ⟨e, he⟩ := EndOf.exists_ (ps := ps) i hi
  rw [endC_of he]
  exact he
/-- the greatest end among the kids of i from m on -/
noncomputable def pend (ps : List Int) (m i : Nat) : Nat := ((List.range' m (ps.length - m)).filter fun j => decide (pr ps j = (i : Int))).foldr (fun j a => max (endC ps j) a) 0
theorem pend_step {ps : List Int} {m : Nat} (hm : m < ps.length) (i : Nat) : pend ps m i = if pr ps m = (i : Int) then max (endC ps m) (pend ps (m + 1) i) else pend ps (m + 1) i := by
  unfold pend
  rw [show ps.length - m = (ps.length - (m + 1)) + 1 by omega, List.range'_succ, List.filter_cons]
  by_cases h : pr ps m = (i : Int)
  · simp [h]
  · simp [h]
theorem foldr_le (g : Nat → Nat) (b : Nat) : ∀ l : List Nat, (∀ j ∈ l, g j ≤ b) → l.foldr (fun j a => max (g j) a) 0 ≤ b
  | [], _ => Nat.zero_le _
  | x :: l, h => by
    rw [List.foldr_cons]
    have := h x (List.mem_cons_self ..)
    have := foldr_le g b l fun j hj => h j (List.mem_cons_of_mem _ hj)
    omega
theorem le_foldr (g : Nat → Nat) : ∀ (l : List Nat) (j : Nat), j ∈ l → g j ≤ l.foldr (fun j a => max (g j) a) 0
  | x :: l, j, h => by
    rw [List.foldr_cons]
    rcases List.mem_cons.1 h with rfl | h
    · omega
    · have := le_foldr g l j h
      omega
/-- below a node, but not it: below one of its kids -/
theorem abv_kid {ps : List Int} {a b : Nat} (h : Abv ps a b) (hne : a ≠ b) : ∃ c, pr ps c = (a : Int) ∧ Abv ps c b := by
  induction h with
  | refl => exact absurd rfl hne
  | up h0 hp ih =>
    rename_i b
    by_cases e : a = (pr ps b).toNat
    · exact ⟨b, by omega, .refl⟩
    · obtain ⟨c, h1, h2⟩ := ih e
      exact ⟨c, h1, .up h0 h2⟩
theorem end_of_pend {ps : List Int} (h : Tre ps) {n : Nat} (hn : n < ps.length) : max (pend ps (n + 1) n) (n + 1) = endC ps n := by
  have hE := endC_is hn
  have h1 := hE.lt
  have h2 := hE.le
  have up : pend ps (n + 1) n ≤ endC ps n := by
    unfold pend
    refine foldr_le _ _ _ fun j hj => ?_
    obtain ⟨hj1, hj2⟩ := List.mem_filter.1 hj
    have hjp : pr ps j = (n : Int) := of_decide_eq_true hj2
    have hjl : j < ps.length := (h.lt j (by omega)).2.1
    exact EndOf.mono h (.up (by omega) (by rw [hjp, Int.toNat_natCast]; exact .refl)) hE (endC_is hjl)
  have dn : endC ps n ≤ max (pend ps (n + 1) n) (n + 1) := by
    by_cases e : endC ps n = n + 1
    · omega
    · have ha := hE.all (endC ps n - 1) (by omega) (by omega)
      obtain ⟨c, hc1, hc2⟩ := abv_kid ha (by omega)
      obtain ⟨hc3, hc4, _⟩ := h.lt c (by omega)
      rw [hc1, Int.toNat_natCast] at hc3
      have hcE := endC_is hc4
      have h5 := ((hcE.out h (by omega)).1 hc2).2
      have h6 : endC ps c ≤ pend ps (n + 1) n := by
        unfold pend
        exact le_foldr _ _ c (List.mem_filter.2 ⟨by rw [List.mem_range'_1]; omega, decide_eq_true hc1⟩)
      omega
  omega
/-- what the row of ends holds when the nodes from m on have been looked at -/
noncomputable def esF (ps : List Int) (m i : Nat) : Nat := if i < m then pend ps m i else endC ps i
theorem esF_start (ps : List Int) (i : Nat) (hi : i < ps.length) : esF ps ps.length i = 0 := by
  unfold esF pend
  rw [if_pos hi, Nat.sub_self]
  rfl
theorem esF_end (ps : List Int) (i : Nat) : esF ps 0 i = endC ps i := by
  unfold esF
  rw [if_neg (by omega)]
/-- f with v at i -/
def updF (f : Nat → Nat) (i v : Nat) (j : Nat) : Nat := if j = i then v else f j
/-- what a round does to the row -/
def stepF (f : Nat → Nat) (n : Nat) (p : Int) : Nat → Nat :=
  if 0 < n then updF (updF f n (max (f n) (n + 1))) p.toNat (max (updF f n (max (f n) (n + 1)) p.toNat) (updF f n (max (f n) (n + 1)) n)) else updF f n (max (f n) (n + 1))
theorem stepF_es {ps : List Int} (h : Tre ps) {n : Nat} (hn : n < ps.length) {f : Nat → Nat} (hf : ∀ i, i < ps.length → f i = esF ps (n + 1) i) : ∀ i, i < ps.length → stepF f n (pr ps n) i = esF ps n i := by
  intro i hi
  have hfn : max (f n) (n + 1) = endC ps n := by
    rw [hf n hn, show esF ps (n + 1) n = pend ps (n + 1) n by unfold esF; rw [if_pos (by omega)]]
    exact end_of_pend h hn
  unfold stepF
  rw [hfn]
  by_cases h0 : 0 < n
  · rw [if_pos h0]
    obtain ⟨p0, p1, _⟩ := h.par n h0 hn
    obtain ⟨p, hp⟩ : ∃ p : Nat, pr ps n = p := ⟨(pr ps n).toNat, by omega⟩
    rw [hp, Int.toNat_natCast]
    have hpn : p < n := by omega
    by_cases e1 : i = p
    · subst e1
      unfold updF
      rw [if_pos rfl, if_neg (by omega), if_pos rfl, hf i hi]
      unfold esF
      rw [if_pos (by omega), if_pos (by omega), pend_step hn, if_pos hp]
      omega
    · unfold updF
      rw [if_neg e1]
      by_cases e2 : i = n
      · subst e2
        rw [if_pos rfl]
        unfold esF
        rw [if_neg (by omega)]
      · rw [if_neg e2, hf i hi]
        unfold esF
        by_cases e3 : i < n
        · rw [if_pos (by omega), if_pos e3, pend_step hn, if_neg (by rw [hp]; omega)]
        · rw [if_neg (by omega), if_neg e3]
  · obtain rfl : n = 0 := by omega
    rw [if_neg h0]
    unfold updF
    by_cases e2 : i = 0
    · subst e2
      rw [if_pos rfl]
      unfold esF
      rw [if_neg (by omega)]
    · rw [if_neg e2, hf i hi]
      unfold esF
      rw [if_neg (by omega), if_neg (by omega)]

/-! ### slices.Backward -/
/-- a node with its number -/
abbrev NI (l : List Nod) := { p : Nat × Nod // l[p.1]? = some p.2 }
def encI {l : List Nod} (x : NI l) : Array Value := #[.int .i64 (x.1.1 : Int), .agg x.1.2.cells]
def KBel (n0 Bs : Nat) (W W' : World) : Prop := Below n0 W W' ∧ W'.heap[Bs]? = W.heap[Bs]?
theorem KBel.trans {n0 Bs : Nat} {X Y Z : World} (h : KBel n0 Bs X Y) (k : KBel n0 Bs Y Z) : KBel n0 Bs X Z := ⟨h.1.trans k.1, k.2.trans h.2⟩
theorem KBel.obj {n0 Bs : Nat} {w : World} (hn : n0 ≤ w.heap.size) (hB : Bs < w.heap.size) (W : World) (l : Nat) (o o' : Obj) (hl : w.heap.size ≤ l) (h : W.heap[l]? = some o) (h1 : o.isCells = false) (h2 : o.isWalk = false) : KBel n0 Bs W (W.putObj l o') :=
  ⟨belowK_b hn W l o o' hl h h1 h2, World.putObj_heap_other (by omega)⟩
def rng (n : Nat) : List Nat := (List.range n).reverse
theorem rng_succ (n : Nat) : rng (n + 1) = n :: rng n := by
  unfold rng
  rw [List.range_succ, List.reverse_append]
  rfl

set_option maxHeartbeats 1000000 in
theorem back_mk (n : Nat) (A : Option Addr) (k c : Nat) (w : World) :
    CallsIn Fence.wide n Tryd.prog 45 #[.slice A k c] w fun e w' => e = .returned (.func (.func 62) #[] #[.pointer (some ⟨w.heap.size, 0, none⟩)]) ∧ w' = w.alloc (.cells #[.slice A k c] 22) := by
  refine callsIn_of_wp Tryd.func45 rfl trivial ?_ rfl
  simp only [Tryd.ntmps45, List.size_toArray, List.length_cons, List.length_nil, Nat.reduceAdd, Nat.reduceSub, Array.replicate_succ, Array.replicate_zero, List.push_toArray, List.append_toArray, List.nil_append, List.cons_append]
  gi_wp2
  go_ret
  exact ⟨rfl, rfl⟩

set_option maxRecDepth 100000 in
set_option maxHeartbeats 4000000 in
theorem back_stops (n Bs : Nat) (l : List Nod) (v : Value) (w0 w : World) (hR : Ns w0 v l) (hlen : l.length ≤ 1048576) (hw : Below w0.heap.size w0 w) (hB : Bs < w.heap.size) (hBs : w.cell? ⟨Bs, 0, none⟩ = some v) :
    SeqStopsK Fence.wide n Tryd.prog 62 #[.pointer (some ⟨Bs, 0, none⟩)] (encI (l := l)) (KBel w0.heap.size Bs) (fun xs => xs.map (fun x => x.1.1) = rng l.length) (fun pre => pre.map (fun x => x.1.1) <+: rng l.length) l.length w := by
  intro L J Jx W hW hJ _ hY h0
  have hb0 : Below w0.heap.size w0 W := hw.trans (hW.mono hw.size)
  have hBW : W.cell? ⟨Bs, 0, none⟩ = some v := (hW.cell (p := ⟨Bs, 0, none⟩) hB).trans hBs
  have HY := Lib.hid hY
  have HR := Lib.hid hR
  obtain ⟨A, cap, rfl⟩ := hR.form
  obtain ⟨m, hm⟩ : ∃ m, l.length = m := ⟨_, rfl⟩
  have HM := Lib.hid hm
  rw [hm] at hlen hBW HR ⊢
  clear hY hR hm hW hB hBs hw
  refine callsIn_of_wp Tryd.func62 rfl trivial ?_ rfl
  simp only [Tryd.ntmps62, List.size_toArray, List.length_cons, List.length_nil, Nat.reduceAdd, Nat.reduceSub, Array.replicate_succ, Array.replicate_zero, List.push_toArray, List.append_toArray, List.nil_append, List.cons_append]
  gi_wp2
  gi_loopw [3] (fun s3 wr => ∃ (k : Nat) (pre : List (NI l)), s3 = .int .i64 ((k : Int) - 1) ∧ k ≤ m ∧ Hid (rng m = pre.map (fun x => x.1.1) ++ rng k) ∧ J pre wr ∧ Below w0.heap.size w0 wr ∧ wr.cell? ⟨Bs, 0, none⟩ = some (.slice A m cap))
    (fun s3 _ => (intOf s3 + 1).toNat)
  case atStart => exact ⟨m, [], by go_num, Nat.le_refl _, Lib.hid rfl, h0, hb0, hBW⟩
  case round =>
    obtain ⟨k, pre, rfl, hk, HI, hJs, hbr, hBr⟩ := hrel
    clear h0 hb0 hBW
    by_cases h1 : 0 < k
    · obtain ⟨j, rfl⟩ : ∃ j, k = j + 1 := ⟨k - 1, by omega⟩
      have hjm : j < m := by omega
      have hjl : j < l.length := by rw [HM.out]; exact hjm
      obtain ⟨x, hx⟩ := at_of hjl
      have hi := HI.out
      rw [rng_succ] at hi
      have hpl : pre.length < l.length := by
        have := congrArg List.length hi
        simp [rng] at this
        rw [HM.out]
        omega
      obtain ⟨fn, tmps, assign, body, hy, hRd⟩ := HY.out pre ⟨(j, x), hx⟩ wr hJs hpl
      have HI' : Hid (rng m = (pre ++ [(⟨(j, x), hx⟩ : NI l)]).map (fun (x : NI l) => x.1.1) ++ rng j) := Lib.hid (by rw [hi]; simp)
      dsimp only [encI] at hy
      obtain ⟨ad, cap2, o, hv, _, ha, hLi⟩ := HR.out.get hbr hx
      rw [HM.out] at hv
      injection hv with hv1 hv2 hv3
      subst hv1 hv3
      have hz : ((j + 1 : Nat) : Int) - 1 = (j : Int) := by omega
      have hjz : (j : Int) < m := by omega
      rw [hz]
      have HBR := Lib.hid hbr
      clear HI hi HY hv2 hz hbr
      gi_wp2_with (refine ldNIn (fun _ => trivial) rfl (.tmp 15) rfl _ rfl x (ha ▸ hLi) ?_)
      refine ⟨fun h => (by cases h), hRd.mono ?_⟩
      rintro e w4 (⟨rfl, hJ4, hk4⟩ | ⟨rfl, hx4⟩)
      · have hb4 := HBR.out.trans hk4.1
        have hB4 : w4.cell? ⟨Bs, 0, none⟩ = some (.slice (some ad) m cap) := (World.cell?_of_block (a := ⟨Bs, 0, none⟩) hk4.2).trans hBr
        gi_wp2
        go_roundw
        case rel => exact ⟨j, _, by go_num, by omega, HI', hJ4, hb4, hB4⟩
        case measure => simp [intOf]
      · gi_wp2
        refine bodyPost_ret (results_none rfl _ _ _) rfl ?_
        exact ⟨⟨_, rfl⟩, .inr ⟨_, ⟨_, HI'.out.symm⟩, hx4⟩⟩
    · obtain rfl : k = 0 := by omega
      have FIN : Hid (rng m = pre.map (fun x => x.1.1)) := Lib.hid (by rw [HI.out]; simp [rng])
      clear HY HI
      gi_wp2
      go_end0
      exact ⟨⟨_, rfl⟩, .inl ⟨_, FIN.out.symm, hJs⟩⟩
end Go.Proofs.YtgpobhnonjdamaaDoor
