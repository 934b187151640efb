/- The tables in memory; contracts of arena's above and kids (functions that are ranged over). Conditions: the tree lies in memory as New lays it. -/
import Derived.Test.YtgpobhnonjdamaaDoorAr3
import Derived.Test.YtgpobhnonjdamaaDoorArRegIn
namespace Go.Proofs.YtgpobhnonjdamaaDoor
open Go.ChangeShapes Go.WideShapes Go.ChangeAt Go.RowKit Go.Shelf

attribute [local go_sem] Oper.semAt_some

/-! ### tables -/
def TabAt (w : World) (g : Nat) (t : List Bool) : Prop := ∃ ty fz, w.heap[g]? = some (.cells (t.map Value.bool).toArray ty fz)
theorem TabAt.keep {w w' : World} {g : Nat} {t : List Bool} (h : TabAt w g t) (hk : w'.heap[g]? = w.heap[g]?) : TabAt w' g t := by
  obtain ⟨ty, fz, h⟩ := h
  exact ⟨ty, fz, hk.trans h⟩
theorem TabAt.lt {w : World} {g : Nat} {t : List Bool} (h : TabAt w g t) : g < w.heap.size := by
  obtain ⟨ty, fz, h⟩ := h
  exact (Array.getElem?_eq_some_iff.1 h).1
theorem TabAt.cell {w : World} {g : Nat} {t : List Bool} (h : TabAt w g t) (hl : t.length = 9) {k : Nat} (hk : k ≤ 8) : w.cell? ⟨g, k, none⟩ = some (.bool (tb t (k : Int))) := by
  obtain ⟨ty, fz, h⟩ := h
  rw [cell_of_row w g k _ _ _ h, List.getElem?_toArray, List.getElem?_map, tb_at hl hk]
  rfl
structure Tab (w : World) : Prop where
  lines : TabAt w 0 tLines
  ruby : TabAt w 1 tRuby
  kids : TabAt w 2 tKids
  text : TabAt w 3 tText
  edges : TabAt w 4 tEdges
  size : TabAt w 5 tSize
  valign : TabAt w 6 tValign
theorem Tab.keep {w w' : World} (h : Tab w) (hk : ∀ k, k < 7 → w'.heap[k]? = w.heap[k]?) : Tab w' :=
  ⟨h.lines.keep (hk 0 (by omega)), h.ruby.keep (hk 1 (by omega)), h.kids.keep (hk 2 (by omega)), h.text.keep (hk 3 (by omega)), h.edges.keep (hk 4 (by omega)), h.size.keep (hk 5 (by omega)), h.valign.keep (hk 6 (by omega))⟩
theorem Tab.pos {w : World} (h : Tab w) : 7 ≤ w.heap.size := h.valign.lt
theorem Tab.below {B : Nat} {w w' : World} (h : Tab w) (hB : 7 ≤ B) (b : Below B w w') : Tab w' := h.keep fun k hk => b.block k (by omega)

/-! ### iterators -/
def encN (x : Nat) : Array Value := #[.int .i64 (x : Int)]
/-- the blocks that an iterator over a tree reads -/
def TK (Bt Bn g gn ge : Nat) (b : Nat) : Prop := b = Bt ∨ b = Bn ∨ b = g ∨ b = gn ∨ b = ge
theorem TreeAt.keepB {K : Nat → Prop} {w w' : World} {g gn ge cn ce : Nat} {l : List Nod} (h : TreeAt w g gn ge cn ce l) (hk : KeepB K w w') (h1 : K g) (h2 : K gn) (h3 : K ge) (hs : w.heap.size ≤ w'.heap.size) : TreeAt w' g gn ge cn ce l :=
  h.keep hs fun k hkk => by rcases hkk with rfl | rfl | rfl <;> (apply hk; assumption)
/-- the nodes that are left, from c up -/
def leftU (ps : List Int) (c : Int) : List Nat := if c < 0 then [] else c.toNat :: ups ps c.toNat
theorem leftU_of {ps : List Int} (h : Tre ps) (k : Nat) : leftU ps (pr ps k) = ups ps k := by
  unfold leftU
  split
  · rw [ups_root (by assumption)]
  · rw [← ups_step h (by omega)]
theorem size_keep {K : Nat → Prop} {w w' : World} {b : Nat} (h : KeepB K w w') (hb : K b) (hlt : b < w.heap.size) : b < w'.heap.size := by
  have := h b hb
  rw [Array.getElem?_eq_getElem hlt] at this
  exact (Array.getElem?_eq_some_iff.1 this).1
/-- a tree, whatever the size of the heap -/
theorem TreeAt.keepK {K : Nat → Prop} {w w' : World} {g gn ge cn ce : Nat} {l : List Nod} (h : TreeAt w g gn ge cn ce l) (hk : KeepB K w w') (h1 : K g) (h2 : K gn) (h3 : K ge) : TreeAt w' g gn ge cn ce l := by
  obtain ⟨q1, q2, q3, q4, q5⟩ := h
  refine ⟨(hk g h1).trans q1, size_keep hk h2 q2, fun i x hi => lies_keep (q3 i x hi) (hk gn h2), size_keep hk h3 q4, fun i hi => ?_⟩
  obtain ⟨e, he, hc⟩ := q5 i hi
  exact ⟨e, he, (World.cell?_of_block (a := ⟨ge, i, none⟩) (hk ge h3)).trans hc⟩

set_option maxRecDepth 100000 in
set_option maxHeartbeats 4000000 in
theorem above_in (n : Nat) (L Bt Bn g gn ge cn ce : Nat) (l : List Nod) (k : Nat) (hT : Tre (psOf l)) (hk : k < l.length) (J Jx : List Nat → World → Prop)
    (hY : ∀ pre x W, J pre W → pre ++ [x] <+: ups (psOf l) k → YieldAt Fence.wide (n - 1) Tryd.prog L (encN x) W fun e W' =>
      (e = .returned (.bool true) ∧ J (pre ++ [x]) W' ∧ KeepB (TK Bt Bn g gn ge) W W') ∨ (e = .returned (.bool false) ∧ Jx (pre ++ [x]) W'))
    (W : World) (hJ : AbidesFrom W.heap.size J) (hBt : W.cell? ⟨Bt, 0, none⟩ = some (.pointer (some ⟨g, 0, none⟩))) (hBn : W.cell? ⟨Bn, 0, none⟩ = some (.int .i64 (k : Int))) (hTA : TreeAt W g gn ge cn ce l) (h0 : J [] W) :
    CallsIn Fence.wide n Tryd.prog 47 #[.func (.yield L) #[] #[], .pointer (some ⟨Bt, 0, none⟩), .pointer (some ⟨Bn, 0, none⟩)] W fun e W' => (∃ v, e = .returned v) ∧
      ((∃ xs, xs = ups (psOf l) k ∧ J xs W') ∨ (∃ pre, pre <+: ups (psOf l) k ∧ Jx pre W')) := by
  have HY := Lib.hid hY
  have HJ := Lib.hid hJ
  have HT := Lib.hid hT
  have HTA := Lib.hid hTA
  have c0 := hTA.c0
  obtain ⟨x, hx⟩ := at_of hk
  have hc := (hTA.hn k x hx).p
  have HP := Lib.hid (pr_of hx)
  have hbd := par_bd hT hx
  obtain ⟨m, hm⟩ : ∃ m, l.length = m := ⟨_, rfl⟩
  have HM := Lib.hid hm
  obtain ⟨p, hp⟩ : ∃ p, x.p = p := ⟨_, rfl⟩
  rw [hm] at c0 hk
  rw [hp] at hc HP hbd
  obtain ⟨p1, p2⟩ := hbd
  have hkz : (k : Int) < m := by omega
  clear hY hJ hT hTA hm hp hx
  refine callsIn_of_wp Tryd.func47 rfl trivial ?_ rfl
  simp only [Tryd.ntmps47, List.size_toArray, List.length_cons, List.length_nil, Nat.reduceAdd, Nat.reduceSub, Array.replicate_succ, Array.replicate_zero, List.push_toArray, List.append_toArray, List.nil_append, List.cons_append]
  gi_wp2
  gi_quiet (fail)
  have bq : Below W.heap.size W (W.drewN nq) := below_drewN (Below.refl _ _) nq
  have hJ1 : J [] (W.drewN nq) := HJ.out [] W _ none h0 (grown_of_below bq) (fun r e => by cases e)
  have hBt1 : (W.drewN nq).cell? ⟨Bt, 0, none⟩ = some (.pointer (some ⟨g, 0, none⟩)) := hBt
  have T1 := HTA.out.below bq
  obtain ⟨W1, hW1⟩ : ∃ W1, W.drewN nq = W1 := ⟨_, rfl⟩
  rw [hW1] at hJ1 hBt1 T1 ⊢
  clear hBt hBn HTA hc c0 h0 bq hW1
  gi_wp2
  gi_loopw [4] (fun s4 wr => ∃ (c : Int) (pre : List Nat), s4 = .int .i64 c ∧ -1 ≤ c ∧ c < m ∧ Hid (ups (psOf l) k = pre ++ leftU (psOf l) c) ∧ J pre wr ∧ wr.cell? ⟨Bt, 0, none⟩ = some (.pointer (some ⟨g, 0, none⟩)) ∧ TreeAt wr g gn ge cn ce l)
    (fun s4 _ => (intOf s4 + 1).toNat)
  case atStart => exact ⟨p, [], rfl, p1, by omega, Lib.hid (by rw [← HP.out, leftU_of HT.out]; rfl), hJ1, hBt1, T1⟩
  case round =>
    obtain ⟨c, pre, rfl, hc1, hc2, HI, hJs, hBr, hTr⟩ := hrel
    clear hJ1 hBt1 T1
    by_cases h0 : 0 ≤ c
    · obtain ⟨j, rfl⟩ : ∃ j : Nat, c = j := ⟨c.toNat, by omega⟩
      have hj : j < l.length := by rw [HM.out]; omega
      have hi := HI.out
      rw [show leftU (psOf l) (j : Int) = j :: ups (psOf l) j by unfold leftU; rw [if_neg (by omega), Int.toNat_natCast]] at hi
      obtain ⟨fn, tmps, assign, body, hy, hR⟩ := HY.out pre j wr hJs ⟨ups (psOf l) j, by rw [hi]; simp⟩
      have HI' : Hid (ups (psOf l) k = (pre ++ [j]) ++ ups (psOf l) j) := Lib.hid (by rw [hi]; simp)
      dsimp only [encN] at hy
      have HTr := Lib.hid hTr
      have HBr := Lib.hid hBr
      clear HI hi HY HJ hTr hBr
      gi_wp2
      refine ⟨fun h => (by cases h), hR.mono ?_⟩
      rintro e w4 (⟨rfl, hJ4, hk4⟩ | ⟨rfl, hx4⟩)
      · have hT4 := HTr.out.keepK hk4 (.inr (.inr (.inl rfl))) (.inr (.inr (.inr (.inl rfl)))) (.inr (.inr (.inr (.inr rfl))))
        have hB4 : w4.cell? ⟨Bt, 0, none⟩ = some (.pointer (some ⟨g, 0, none⟩)) := (World.cell?_of_block (a := ⟨Bt, 0, none⟩) (hk4 Bt (.inl rfl))).trans HBr.out
        obtain ⟨y, hy4⟩ := at_of hj
        have c0 := hT4.c0
        rw [HM.out] at c0
        have hcy := (hT4.hn j y hy4).p
        have HPy := Lib.hid (pr_of hy4)
        obtain ⟨b1, b2⟩ := par_bd HT.out hy4
        obtain ⟨p', hp'⟩ : ∃ p', y.p = p' := ⟨_, rfl⟩
        rw [hp'] at hcy HPy b1 b2
        have HI2 : Hid (ups (psOf l) k = (pre ++ [j]) ++ leftU (psOf l) p') := Lib.hid (by rw [HI'.out, ← HPy.out, leftU_of HT.out])
        have HT4 := Lib.hid hT4
        clear hy4 hp' HI' HPy hT4 hk4
        gi_wp2
        go_roundw
        case rel => exact ⟨p', pre ++ [j], rfl, b1, by omega, HI2, hJ4, hB4, HT4.out⟩
        case measure => simp [intOf]; omega
      · gi_wp2
        go_end0
        exact ⟨⟨_, rfl⟩, .inr ⟨pre ++ [j], ⟨_, HI'.out.symm⟩, hx4⟩⟩
    · have hcm : c = -1 := by omega
      subst hcm
      have FIN : Hid (ups (psOf l) k = pre) := Lib.hid (by rw [HI.out]; simp [leftU])
      clear HY HJ HI
      gi_wp2
      refine ⟨fun _ h => (by cases h), ?_⟩
      gi_wp2
      go_end0
      exact ⟨⟨_, rfl⟩, .inl ⟨_, FIN.out.symm, hJs⟩⟩

set_option maxRecDepth 100000 in
set_option maxHeartbeats 4000000 in
theorem kids_in (n : Nat) (L Bt Bn g gn ge cn ce : Nat) (l : List Nod) (k : Nat) (hT : Tre (psOf l)) (hk : k < l.length) (hlen : l.length ≤ 1048576) (J Jx : List Nat → World → Prop)
    (hY : ∀ pre x W, J pre W → pre ++ [x] <+: kidsL (psOf l) k → YieldAt Fence.wide (n - 1) Tryd.prog L (encN x) W fun e W' =>
      (e = .returned (.bool true) ∧ J (pre ++ [x]) W' ∧ KeepB (TK Bt Bn g gn ge) W W') ∨ (e = .returned (.bool false) ∧ Jx (pre ++ [x]) W'))
    (W : World) (hJ : AbidesFrom W.heap.size J) (hBt : W.cell? ⟨Bt, 0, none⟩ = some (.pointer (some ⟨g, 0, none⟩))) (hBn : W.cell? ⟨Bn, 0, none⟩ = some (.int .i64 (k : Int))) (hTA : TreeAt W g gn ge cn ce l) (h0 : J [] W) :
    CallsIn Fence.wide n Tryd.prog 48 #[.func (.yield L) #[] #[], .pointer (some ⟨Bn, 0, none⟩), .pointer (some ⟨Bt, 0, none⟩)] W fun e W' => (∃ v, e = .returned v) ∧
      ((∃ xs, xs = kidsL (psOf l) k ∧ J xs W') ∨ (∃ pre, pre <+: kidsL (psOf l) k ∧ Jx pre W')) := by
  have HY := Lib.hid hY
  have HJ := Lib.hid hJ
  have HT := Lib.hid hT
  obtain ⟨m, hm⟩ : ∃ m, l.length = m := ⟨_, rfl⟩
  have HM := Lib.hid hm
  obtain ⟨en, hE, _⟩ := hTA.he k hk
  have HC := Lib.hid (kids_chain hT hE)
  have hen := hE.le
  have hlt := hE.lt
  rw [psOf_len, hm] at hen
  rw [hm] at hlen
  have HE := Lib.hid hE
  rw [hm] at hk
  have hkz : (k : Int) < m := by omega
  clear hY hJ hT hm hE
  refine callsIn_of_wp Tryd.func48 rfl trivial ?_ rfl
  simp only [Tryd.ntmps48, List.size_toArray, List.length_cons, List.length_nil, Nat.reduceAdd, Nat.reduceSub, Array.replicate_succ, Array.replicate_zero, List.push_toArray, List.append_toArray, List.nil_append, List.cons_append]
  gi_wp2
  gi_loopw [4] (fun s4 wr => ∃ (c : Nat) (pre rest : List Nat), s4 = .int .i64 c ∧ k < c ∧ c ≤ en ∧ Hid (kidsL (psOf l) k = pre ++ rest) ∧ Hid (Chn (psOf l) en c rest) ∧ J pre wr ∧ wr.cell? ⟨Bt, 0, none⟩ = some (.pointer (some ⟨g, 0, none⟩)) ∧ wr.cell? ⟨Bn, 0, none⟩ = some (.int .i64 (k : Int)) ∧ TreeAt wr g gn ge cn ce l)
    (fun s4 _ => en - (intOf s4).toNat)
  case atStart => exact ⟨k + 1, [], _, by go_num, by omega, by omega, Lib.hid rfl, HC, h0, hBt, hBn, hTA⟩
  case round =>
    obtain ⟨c, pre, rest, rfl, hc1, hc2, HI, HCh, hJs, hBr, hBnr, hTr⟩ := hrel
    clear h0 hTA hBt hBn HC
    have c1 := hTr.c1
    rw [HM.out] at c1
    obtain ⟨e2, hE2, hce⟩ := hTr.he k (by rw [HM.out]; exact hk)
    obtain rfl := HE.out.uniq hE2
    clear hE2
    have HTr := Lib.hid hTr
    have HBr := Lib.hid hBr
    have HBnr := Lib.hid hBnr
    clear hTr
    by_cases hlt2 : c < en
    · have hz : (c : Int) < en := by omega
      have hr : ∃ f rest', rest = c :: rest' ∧ EndOf (psOf l) c f ∧ Chn (psOf l) en f rest' := by
        have h := HCh.out
        cases h with
        | nil => omega
        | cons hf h => exact ⟨_, _, rfl, hf, h⟩
      obtain ⟨f, rest', rfl, hf, hch⟩ := hr
      have hi := HI.out
      have HI' : Hid (kidsL (psOf l) k = (pre ++ [c]) ++ rest') := Lib.hid (by rw [hi]; simp)
      have HF := Lib.hid hf
      have HCh' := Lib.hid hch
      have hfl := hf.lt
      have hcm : c < m := by omega
      have hJ4 : J pre wr.drew := HJ.out pre wr _ none hJs (grown_of_below (below_drewN (Below.refl _ _) 1)) (fun r e => by cases e)
      obtain ⟨fn, tmps, assign, body, hy, hR⟩ := HY.out pre c _ hJ4 ⟨rest', by rw [hi]; simp⟩
      dsimp only [encN] at hy
      clear HI hi HY HJ hf hch HCh hJ4 hJs
      have hfcf : f ≤ en := by
        have hcc := HCh'.out
        clear HTr
        have key : ∀ {n : Nat} {l' : List Nat}, Chn (psOf l) en n l' → n ≤ en := by
          intro n l' h
          induction h with
          | nil => exact Nat.le_refl _
          | cons hf _ ih => have := hf.lt; omega
        exact key hcc
      have hR2 := hR.mono (R' := fun e W' => ∃ b, e = .returned (.bool b) ∧ ((b = true ∧ J (pre ++ [c]) W' ∧ KeepB (TK Bt Bn g gn ge) wr.drew W') ∨ (b = false ∧ Jx (pre ++ [c]) W'))) (fun e W' h => h.elim (fun ⟨h1, h2⟩ => ⟨true, h1, .inl ⟨rfl, h2⟩⟩) (fun ⟨h1, h2⟩ => ⟨false, h1, .inr ⟨rfl, h2⟩⟩))
      clear hR
      gi_wp2
      gi_region_with (refine ⟨fun h => (by cases h), hR2.mono ?_⟩; rintro e w4 ⟨b, rfl, hb4⟩)
      all_goals rcases hb4 with ⟨rfl, hJ4, hk4⟩ | ⟨rfl, hx4⟩
      all_goals first
        | (have kt : KeepB (TK Bt Bn g gn ge) wr w4 := hk4
           have hT4 := HTr.out.keepK kt (.inr (.inr (.inl rfl))) (.inr (.inr (.inr (.inl rfl)))) (.inr (.inr (.inr (.inr rfl))))
           have hB4 : w4.cell? ⟨Bt, 0, none⟩ = some (.pointer (some ⟨g, 0, none⟩)) := (World.cell?_of_block (a := ⟨Bt, 0, none⟩) (kt Bt (.inl rfl))).trans HBr.out
           have hBn4 : w4.cell? ⟨Bn, 0, none⟩ = some (.int .i64 (k : Int)) := (World.cell?_of_block (a := ⟨Bn, 0, none⟩) (kt Bn (.inr (.inl rfl)))).trans HBnr.out
           have c1 := hT4.c1
           obtain ⟨e3, hE3, hce3⟩ := hT4.he c (by rw [HM.out]; exact hcm)
           obtain rfl := HF.out.uniq hE3
           rw [HM.out] at c1
           have HT4 := Lib.hid hT4
           clear hT4 hk4 kt hE3
           gi_wp2
           go_roundw
           case rel => exact ⟨f, pre ++ [c], rest', rfl, by omega, hfcf, HI', HCh', hJ4, hB4, hBn4, HT4.out⟩
           case measure => simp [intOf]; omega)
        | (gi_wp2
           go_end0
           exact ⟨⟨_, rfl⟩, .inr ⟨pre ++ [c], ⟨_, HI'.out.symm⟩, hx4⟩⟩)
    · obtain rfl : c = en := by omega
      have hr : rest = [] := by
        have h := HCh.out
        cases h with
        | nil => rfl
        | cons hf h =>
          have key : ∀ {n : Nat} {l' : List Nat}, Chn (psOf l) c n l' → n ≤ c := by
            intro n l' h
            induction h with
            | nil => exact Nat.le_refl _
            | cons hf _ ih => have := hf.lt; omega
          have := key h
          have := hf.lt
          omega
      have FIN : Hid (kidsL (psOf l) k = pre) := Lib.hid (by rw [HI.out, hr, List.append_nil])
      have HJ2 : Hid (∀ q, Hid (J pre (wr.drewN q))) := Lib.hid fun q => Lib.hid (HJ.out pre wr _ none hJs (grown_of_below (below_drewN (Below.refl _ _) q)) (fun r e => by cases e))
      clear HI HCh hr HY HJ hJs
      gi_wp2
      refine wpIn_region_quiet_lit rfl (by kernel_rfl) (by kernel_rfl) ?_
      repeat (gi_big_quiet_step (fail))
      refine BigFrame.wpQuietIn_skip (fun _ _ _ _ => trivial) rfl ?_
      (try simp only [Act.put, List.setIfInBounds_toArray, List.set_cons_zero, List.set_cons_succ])
      repeat (gi_big_quiet_step (fail))
      refine wpQuietIn_nil ?_
      rintro wq ⟨nq, rfl⟩
      have hJ4 := (HJ2.out nq).out
      gi_wp2
      go_end0
      exact ⟨⟨_, rfl⟩, .inl ⟨_, FIN.out.symm, hJ4⟩⟩

/-! ### as contracts of a loop -/
theorem abides_ex {us : List Nat} {B : Nat} {J : List {x // x ∈ us} → World → Prop} (h : AbidesFrom B J) : AbidesFrom B (fun (p : List Nat) W => ∃ p', p'.map Subtype.val = p ∧ J p' W) :=
  fun _ A C row ⟨p', hp, hj⟩ hg hr => ⟨p', hp, h p' A C row hj hg hr⟩
theorem mem_of_prefix {us pre : List Nat} {x : Nat} (h : pre ++ [x] <+: us) : x ∈ us := h.subset (by simp)
theorem len_of_prefix {us pre : List Nat} {x : Nat} (h : pre ++ [x] <+: us) : pre.length < us.length := by
  have := h.length_le
  rw [List.length_append, List.length_singleton] at this
  omega
/-- a node of the list, as what a loop is handed -/
def encM {us : List Nat} (x : {x // x ∈ us}) : Array Value := encN x.1
theorem above_stops (n : Nat) (Bt Bn g gn ge cn ce : Nat) (l : List Nod) (k : Nat) (w : World) (hT : Tre (psOf l)) (hk : k < l.length) (h1 : Bt < w.heap.size) (h2 : Bn < w.heap.size)
    (hBt : w.cell? ⟨Bt, 0, none⟩ = some (.pointer (some ⟨g, 0, none⟩))) (hBn : w.cell? ⟨Bn, 0, none⟩ = some (.int .i64 (k : Int))) (hTA : TreeAt w g gn ge cn ce l) :
    SeqStopsK Fence.wide n Tryd.prog 47 #[.pointer (some ⟨Bt, 0, none⟩), .pointer (some ⟨Bn, 0, none⟩)] (encM (us := ups (psOf l) k)) (KeepB (TK Bt Bn g gn ge)) (fun xs => xs.map Subtype.val = ups (psOf l) k) (fun pre => pre.map Subtype.val <+: ups (psOf l) k) (ups (psOf l) k).length w := by
  intro L J Jx W hW hJ hJx hY h0
  refine (above_in n L Bt Bn g gn ge cn ce l k hT hk (fun p W => ∃ p', p'.map Subtype.val = p ∧ J p' W) (fun p W => ∃ p', p'.map Subtype.val = p ∧ Jx p' W) ?_ W (abides_ex hJ) ((hW.cell (p := ⟨Bt, 0, none⟩) h1).trans hBt) ((hW.cell (p := ⟨Bn, 0, none⟩) h2).trans hBn) (hTA.below hW) ⟨[], rfl, h0⟩).mono ?_
  · rintro pre x W1 ⟨p', rfl, hj⟩ hp
    have hl := len_of_prefix hp
    rw [List.length_map] at hl
    exact YieldAt.mono (hY p' ⟨x, mem_of_prefix hp⟩ W1 hj hl) fun e W' h => h.elim (fun ⟨he, hj', hk'⟩ => .inl ⟨he, ⟨p' ++ [⟨x, mem_of_prefix hp⟩], by simp, hj'⟩, hk'⟩) (fun ⟨he, hj'⟩ => .inr ⟨he, ⟨p' ++ [⟨x, mem_of_prefix hp⟩], by simp, hj'⟩⟩)
  · rintro e W' ⟨hv, ⟨xs, hxs, p', hp', hj⟩ | ⟨pre, hpre, p', hp', hj⟩⟩
    · exact ⟨hv, .inl ⟨p', hp'.trans hxs, hj⟩⟩
    · exact ⟨hv, .inr ⟨p', (by show _ <+: _; rw [hp']; exact hpre), hj⟩⟩
theorem kids_stops (n : Nat) (Bt Bn g gn ge cn ce : Nat) (l : List Nod) (k : Nat) (w : World) (hT : Tre (psOf l)) (hk : k < l.length) (hlen : l.length ≤ 1048576) (h1 : Bt < w.heap.size) (h2 : Bn < w.heap.size)
    (hBt : w.cell? ⟨Bt, 0, none⟩ = some (.pointer (some ⟨g, 0, none⟩))) (hBn : w.cell? ⟨Bn, 0, none⟩ = some (.int .i64 (k : Int))) (hTA : TreeAt w g gn ge cn ce l) :
    SeqStopsK Fence.wide n Tryd.prog 48 #[.pointer (some ⟨Bn, 0, none⟩), .pointer (some ⟨Bt, 0, none⟩)] (encM (us := kidsL (psOf l) k)) (KeepB (TK Bt Bn g gn ge)) (fun xs => xs.map Subtype.val = kidsL (psOf l) k) (fun pre => pre.map Subtype.val <+: kidsL (psOf l) k) (kidsL (psOf l) k).length w := by
  intro L J Jx W hW hJ hJx hY h0
  refine (kids_in n L Bt Bn g gn ge cn ce l k hT hk hlen (fun p W => ∃ p', p'.map Subtype.val = p ∧ J p' W) (fun p W => ∃ p', p'.map Subtype.val = p ∧ Jx p' W) ?_ W (abides_ex hJ) ((hW.cell (p := ⟨Bt, 0, none⟩) h1).trans hBt) ((hW.cell (p := ⟨Bn, 0, none⟩) h2).trans hBn) (hTA.below hW) ⟨[], rfl, h0⟩).mono ?_
  · rintro pre x W1 ⟨p', rfl, hj⟩ hp
    have hl := len_of_prefix hp
    rw [List.length_map] at hl
    exact YieldAt.mono (hY p' ⟨x, mem_of_prefix hp⟩ W1 hj hl) fun e W' h => h.elim (fun ⟨he, hj', hk'⟩ => .inl ⟨he, ⟨p' ++ [⟨x, mem_of_prefix hp⟩], by simp, hj'⟩, hk'⟩) (fun ⟨he, hj'⟩ => .inr ⟨he, ⟨p' ++ [⟨x, mem_of_prefix hp⟩], by simp, hj'⟩⟩)
  · rintro e W' ⟨hv, ⟨xs, hxs, p', hp', hj⟩ | ⟨pre, hpre, p', hp', hj⟩⟩
    · exact ⟨hv, .inl ⟨p', hp'.trans hxs, hj⟩⟩
    · exact ⟨hv, .inr ⟨p', (by show _ <+: _; rw [hp']; exact hpre), hj⟩⟩

set_option maxHeartbeats 1000000 in
theorem above_mk (n : Nat) (v : Option Addr) (k : Int) (w : World) :
    CallsIn Fence.wide n Tryd.prog 37 #[.pointer v, .int .i64 k] w fun e w' => e = .returned (.func (.func 47) #[] #[.pointer (some ⟨w.heap.size, 0, none⟩), .pointer (some ⟨w.heap.size + 1, 0, none⟩)]) ∧ w' = (w.alloc (.cells #[.pointer v] 25)).alloc (.cells #[.int .i64 k] 3) := by
  refine callsIn_of_wp Tryd.func37 rfl trivial ?_ rfl
  simp only [Tryd.ntmps37, List.size_toArray, List.length_cons, List.length_nil, Nat.reduceAdd, Nat.reduceSub, Array.replicate_succ, Array.replicate_zero, List.push_toArray, List.append_toArray, List.nil_append, List.cons_append]
  gi_wp2
  go_ret
  exact ⟨by simp, rfl⟩
set_option maxHeartbeats 1000000 in
theorem kids_mk (n : Nat) (v : Option Addr) (k : Int) (w : World) :
    CallsIn Fence.wide n Tryd.prog 38 #[.pointer v, .int .i64 k] w fun e w' => e = .returned (.func (.func 48) #[] #[.pointer (some ⟨w.heap.size + 1, 0, none⟩), .pointer (some ⟨w.heap.size, 0, none⟩)]) ∧ w' = (w.alloc (.cells #[.pointer v] 25)).alloc (.cells #[.int .i64 k] 3) := by
  refine callsIn_of_wp Tryd.func38 rfl trivial ?_ rfl
  simp only [Tryd.ntmps38, List.size_toArray, List.length_cons, List.length_nil, Nat.reduceAdd, Nat.reduceSub, Array.replicate_succ, Array.replicate_zero, List.push_toArray, List.append_toArray, List.nil_append, List.cons_append]
  gi_wp2
  go_ret
  exact ⟨by simp, rfl⟩

/-- 'out = append(out, ..)', where the row lies behind the boxes -/
theorem appended2 {W w1 : World} {b0 B : Nat} {t e : TypeId} {size : Nat} {v v' : Value} {k m : Nat} {xs ys : List Value} {tmp : Obj}
    (hv : Boxed W B t v) (hB : B < b0) (hrow : W.ownsRow b0 e size v k xs) (hown' : w1.ownsRow b0 e size v' m ys) (hgrow : (W.alloc tmp).grownBy w1 v.ownBlock) :
    Boxed w1 B t v ∧ Boxed (w1.setCell ⟨B, 0, none⟩ v') B t v' ∧ (w1.setCell ⟨B, 0, none⟩ v').ownsRow b0 e size v' m ys ∧ KeepsOthers W (w1.setCell ⟨B, 0, none⟩ v') ∧ Mod (fun k => k = B ∨ v.ownBlock = some k) W (w1.setCell ⟨B, 0, none⟩ v') := by
  have hne : ∀ {x : World} {u : Value} {j : Nat} {zs : List Value}, x.ownsRow b0 e size u j zs → some B ≠ u.ownBlock := by
    intro x u j zs h e'
    rcases h.2 with ⟨rfl, _⟩ | ⟨g, cap, cur, rfl, hb, _⟩
    · simp [Value.ownBlock] at e'
    · obtain rfl : B = g := by simpa [Value.ownBlock] using e'
      omega
  have hv1 : Boxed w1 B t v := (hv.alloc tmp).kept hgrow (hne hrow)
  refine ⟨hv1, hv1.set v', hown'.kept (grownBy_setCell' w1 B v') (.inr (hne hown').symm), ?_, ?_⟩
  · refine ((KeepsOthers.alloc W tmp).trans (KeepsOthers.of_grownBy hgrow fun j o ej hj => ?_)).trans (KeepsOthers.setCell _ _ _)
    rcases (hrow.alloc tmp).2 with ⟨rfl, _⟩ | ⟨g, cap, cur, rfl, _, hgb, _⟩
    · simp [Value.ownBlock] at ej
    · obtain rfl : g = j := by simpa [Value.ownBlock] using ej
      rw [hgb] at hj; cases hj; rfl
  · refine ((((Mod.refl _ W).alloc tmp).grown hgrow fun j ej => .inl (.inr ej)).setCell (p := ⟨B, 0, none⟩) (.inl (.inl rfl)) v')
end Go.Proofs.YtgpobhnonjdamaaDoor
