/- Contract of arena's visit. Conditions: the tree lies in memory as New lays it, at most 60 nodes; what the stops are handed to keeps what is not its own. -/
import Derived.Test.YtgpobhnonjdamaaDoorWkC
import Derived.Test.YtgpobhnonjdamaaDoorArRegIn
import Derived.Test.YtgpobhnonjdamaaDoorArOpIn
import Derived.Maps.OwnIn
namespace Go.Proofs.YtgpobhnonjdamaaDoor
open Go.ChangeShapes Go.WideShapes Go.ChangeAt Go.RowKit Go.Shelf

attribute [local go_sem] Oper.semAt_some

section
variable {w0 : World} {n0 B L : Nat} {rec dfr : Obj}

theorem Pst.rowOf_ {pre : List (Nat × Bool)} {W : World} (h : Pst w0 n0 B L rec dfr pre W) {k : Nat} (hk : rowOf W B = some k) : n0 ≤ k ∧ ∃ cs fz, W.heap[k]? = some (.cells cs 62 fz) := by
  obtain ⟨v, hb, hown⟩ := h.box
  unfold rowOf at hk
  rw [hb.cell] at hk
  rcases hown.2 with ⟨rfl, _⟩ | ⟨g, cap, cur, rfl, hg0, hg, _⟩
  · simp [Value.ownBlock] at hk
  · obtain rfl : g = k := by simpa [Value.ownBlock] using hk
    exact ⟨hg0, _, _, hg⟩
theorem Pst.rowOf_lt {pre : List (Nat × Bool)} {W : World} (h : Pst w0 n0 B L rec dfr pre W) {k : Nat} (hk : rowOf W B = some k) : k < W.heap.size := by
  obtain ⟨_, cs, fz, h1⟩ := h.rowOf_ hk
  exact (Array.getElem?_eq_some_iff.1 h1).1
theorem Pst.B_lt {pre : List (Nat × Bool)} {W : World} (h : Pst w0 n0 B L rec dfr pre W) : B < W.heap.size := by
  obtain ⟨v, hb, _⟩ := h.box
  exact hb.lt
/-- behind what changes nothing that lay -/
theorem Pst.ext {pre : List (Nat × Bool)} {W W' : World} (h : Pst w0 n0 B L rec dfr pre W) (hn : n0 ≤ W.heap.size) (b : Below W.heap.size W W') : Pst w0 n0 B L rec dfr pre W' := by
  obtain ⟨v, hb, hown⟩ := h.box
  exact ⟨⟨v, (b.block B hb.lt).trans hb, own_kept hown b⟩, (b.block L h.size).trans h.loop, (b.block (L - 1) (by have := h.size; omega)).trans h.defd, h.below.trans (b.mono hn), Nat.lt_of_lt_of_le h.size b.size⟩
/-- behind the turn of a block that is no cells and lies behind -/
theorem Pst.turn {pre : List (Nat × Bool)} {W W' : World} {row : Option Nat} {c : Nat} (h : Pst w0 n0 B L rec dfr pre W) (hn0 : n0 ≤ w0.heap.size) (hL : L < c) (hn : n0 ≤ c) (hg : W.grownBy W' row) (hr : ∀ r, row = some r → c ≤ r ∧ ∃ o : Obj, W.heap[r]? = some o ∧ o.isCells = false) : Pst w0 n0 B L rec dfr pre W' := by
  obtain ⟨v, hb, hown⟩ := h.box
  have hne : ∀ k o, W.heap[k]? = some o → o.isCells = true → some k ≠ row := fun k o hk ho e => by
    obtain ⟨_, o', ho', hc'⟩ := hr k e.symm
    rw [hk] at ho'
    cases ho'
    rw [ho] at hc'
    cases hc'
  have hlt : ∀ k, k < c → some k ≠ row := fun k hk e => by have := (hr k e.symm).1; omega
  refine ⟨⟨v, hb.kept hg (hne B _ hb rfl), ?_⟩, (hg.block L h.size (hlt L hL)).trans h.loop, (hg.block (L - 1) (by have := h.size; omega) (hlt _ (by omega))).trans h.defd, h.below.grown hg (Nat.le_trans hn0 h.below.size) (fun k e => Nat.le_trans hn (hr k e).1), Nat.lt_of_lt_of_le h.size hg.size⟩
  refine hown.kept hg ?_
  rcases hown.2 with ⟨rfl, _⟩ | ⟨g, cap, cur, rfl, _, hgg, _⟩
  · exact .inl rfl
  · exact .inr (hne g _ hgg rfl)
theorem Pst.keep_box {pre : List (Nat × Bool)} {W W' : World} (h : Pst w0 n0 B L rec dfr pre W) (hrec : rec.isCells = false) (hk : Kpo B L W W') {b : Nat} {t : TypeId} {v : Value} (hb : Boxed W b t v) (h1 : t ≠ 62) (h2 : t ≠ 57) : Boxed W' b t v := by
  refine (hk.same b hb.lt ?_ ?_ ?_).trans hb
  · intro e
    subst e
    obtain ⟨v', hb', _⟩ := h.box
    have h3 : W.heap[b]? = some (.cells #[v'] 57 (0, 0)) := hb'
    rw [show W.heap[b]? = _ from hb] at h3
    injection h3 with h3
    injection h3 with _ h3 _
    exact h2 h3
  · intro e
    subst e
    have := h.loop
    rw [show W.heap[b]? = _ from hb] at this
    injection this with this
    rw [← this] at hrec
    cases hrec
  · intro e
    obtain ⟨_, cs, fz, h3⟩ := h.rowOf_ e
    rw [show W.heap[b]? = _ from hb] at h3
    injection h3 with h3
    injection h3 with _ h3 _
    exact h1 h3
theorem Pst.others {pre pre' : List (Nat × Bool)} {W W' : World} (h : Pst w0 n0 B L rec dfr pre W) (h' : Pst w0 n0 B L rec dfr pre' W') (hk : Kpo B L W W') : KeepsOthers W W' := ⟨hk.size, fun k o hko ho => by
  by_cases eL : k = L
  · subst eL
    rw [h.loop] at hko
    rw [h'.loop]
    exact hko
  · refine (hk.same k (Array.getElem?_eq_some_iff.1 hko).1 ?_ eL ?_).trans hko
    · intro e
      subst e
      obtain ⟨v', hb', _⟩ := h.box
      have h3 : W.heap[k]? = some (.cells #[v'] 57 (0, 0)) := hb'
      rw [hko] at h3
      injection h3 with h3
      subst h3
      cases ho
    · intro e
      obtain ⟨_, cs, fz, h3⟩ := h.rowOf_ e
      rw [hko] at h3
      injection h3 with h3
      subst h3
      cases ho⟩
theorem Pst.set_box {pre : List (Nat × Bool)} {W : World} (h : Pst w0 n0 B L rec dfr pre W) (hn0 : n0 ≤ w0.heap.size) (hrec : rec.isCells = false) (hdfr : dfr.isCells = false) {b : Nat} {t : TypeId} {v : Value} (hb : Boxed W b t v) (hbn : n0 ≤ b) (h1 : t ≠ 62) (h2 : t ≠ 57) (u : Value) : Pst w0 n0 B L rec dfr pre (W.setCell ⟨b, 0, none⟩ u) := by
  obtain ⟨v', hb', hown⟩ := h.box
  have hg := grownBy_setCell' W b u
  have key : ∀ k o, W.heap[k]? = some o → o.isCells = false → some k ≠ some b := fun k o hk ho e => by
    injection e with e
    subst e
    rw [show W.heap[k]? = _ from hb] at hk
    cases hk
    cases ho
  have hB : some B ≠ some b := fun e => by
    injection e with e
    subst e
    have h3 : W.heap[B]? = some (.cells #[v'] 57 (0, 0)) := hb'
    rw [show W.heap[B]? = _ from hb] at h3
    injection h3 with h3
    injection h3 with _ h3 _
    exact h2 h3
  refine ⟨⟨v', hb'.kept hg hB, hown.kept hg ?_⟩, (hg.block L h.size (key L _ h.loop hrec)).trans h.loop, (hg.block (L - 1) (by have := h.size; omega) (key _ _ h.defd hdfr)).trans h.defd, h.below.grown hg (Nat.le_trans hn0 h.below.size) (fun k e => by injection e with e; omega), Nat.lt_of_lt_of_le h.size hg.size⟩
  rcases hown.2 with ⟨rfl, _⟩ | ⟨g, cap, cur, rfl, _, hgg, _⟩
  · exact .inl rfl
  · refine .inr fun e => ?_
    have e2 : g = b := by simpa [Value.ownBlock] using e
    subst e2
    rw [show W.heap[g]? = _ from hb] at hgg
    injection hgg with hgg
    injection hgg with _ hgg _
    exact h1 hgg
theorem Kpo.turn {Ws W W' : World} {row : Option Nat} {c : Nat} (hk : Kpo B L Ws W) (hB : B < W.heap.size) (hBc : B < c) (hc : Ws.heap.size ≤ c) (hg : W.grownBy W' row) (hr : ∀ r, row = some r → c ≤ r) : Kpo B L Ws W' :=
  ⟨Nat.le_trans hk.size hg.size, hg.os.trans hk.os, hg.tape.trans hk.tape, hg.output.trans hk.output, fun k h1 h2 h3 h4 => (hg.block k (Nat.lt_of_lt_of_le h1 hk.size) (fun e => by have := hr k e.symm; omega)).trans (hk.same k h1 h2 h3 h4), fun k h1 => hk.row k (by rw [← rowOf_same (hg.block B hB (fun e => by have := hr B e.symm; omega))]; exact h1)⟩
end
end Go.Proofs.YtgpobhnonjdamaaDoor

/- Contract of arena's visit. Conditions: the tree lies in memory as New lays it, at most 60 nodes; what the stops are handed to keeps what is not its own. -/
namespace Go.Proofs.YtgpobhnonjdamaaDoor
open Go.ChangeShapes Go.WideShapes Go.ChangeAt Go.RowKit Go.Shelf

attribute [local go_sem] Oper.semAt_some

set_option maxRecDepth 100000 in
set_option maxHeartbeats 8000000 in
theorem visit_any {w0 : World} {n0 B L N : Nat} {rec dfr : Obj} (l : List Nod) (g gn ge cn ce : Nat) (hn0 : n0 = w0.heap.size) (hTA : TreeAt w0 g gn ge cn ce l) (hT : Tre (psOf l)) (hlen : l.length ≤ 60) (hrec : rec.isCells = false) (hdfr : dfr.isCells = false) (hB0 : n0 ≤ B) (hBL : B < L)
    (HY : ∀ (m : Nat) (pre : List (Nat × Bool)) (x : Nat × Bool) (W : World), Pst w0 n0 B L rec dfr pre W → pre.length < N → YieldAt Fence.wide m Tryd.prog L (encS x) W fun e W' => e = .returned (.bool true) ∧ Pst w0 n0 B L rec dfr (pre ++ [x]) W' ∧ Kpo B L W W') :
    ∀ (d k : Nat) (pre : List (Nat × Bool)) (W : World), l.length ≤ k + d → k < l.length → Pst w0 n0 B L rec dfr pre W → pre.length + d * 7300 ≤ N →
      Calls Tryd.prog 57 #[.pointer (some ⟨g, 0, none⟩), .int .i64 (k : Int), .func (.yield L) #[] #[]] W fun e W' => e = .returned (.bool true) ∧ Pst w0 n0 B L rec dfr (pre ++ walkL (psOf l) k) W' ∧ Kpo B L W W' := by
  intro d
  induction d with
  | zero => intro k pre W h1 h2; omega
  | succ d ih =>
    intro k pre W hkd hk hP hN
    have hnW : n0 ≤ W.heap.size := by rw [hn0]; exact hP.below.size
    have b3 : Below W.heap.size W (((W.alloc (.cells #[.pointer (some ⟨g, 0, none⟩)] 25)).alloc (.cells #[.func (.yield L) #[] #[]] 100)).alloc (.cells #[.bool false] 4)) := (((Below.refl _ W).alloc (Nat.le_refl _) _).alloc (by simp) _).alloc (by simp; omega) _
    have hP3 := hP.ext hnW b3
    obtain ⟨fn, tmps, assign, body, hy, hRd⟩ := HY 4 pre (k, true) _ hP3 (by omega)
    dsimp only [encS] at hy
    refine (callsIn_wide (n := 5)).1 ?_
    refine callsIn_of_wp_marks Tryd.func57 rfl trivial ?_ rfl
    simp only [Tryd.ntmps57, List.size_toArray, List.length_cons, List.length_nil, Nat.reduceAdd, Nat.reduceSub, Array.replicate_succ, Array.replicate_zero, List.push_toArray, List.append_toArray, List.nil_append, List.cons_append]
    gi_wp2_with fail
    refine hRd.mono ?_
    rintro e W2 ⟨rfl, hP2, hk2⟩
    have hnle : n0 ≤ w0.heap.size := by omega
    have x0 := (((Boxed.new W 25 (.pointer (some ⟨g, 0, none⟩))).alloc (.cells #[.func (.yield L) #[] #[]] 100)).alloc (.cells #[.bool false] 4))
    have x1 := ((Boxed.new (W.alloc (.cells #[.pointer (some ⟨g, 0, none⟩)] 25)) 100 (.func (.yield L) #[] #[])).alloc (.cells #[.bool false] 4))
    have x2 := Boxed.new ((W.alloc (.cells #[.pointer (some ⟨g, 0, none⟩)] 25)).alloc (.cells #[.func (.yield L) #[] #[]] 100)) 4 (.bool false)
    simp only [World.size_alloc] at x1 x2
    have y0 := hP3.keep_box hrec hk2 x0 (by decide) (by decide)
    have y1 := hP3.keep_box hrec hk2 x1 (by decide) (by decide)
    have y2 := hP3.keep_box hrec hk2 x2 (by decide) (by decide)
    have hBW := hP.B_lt
    have K2 : Kpo B L W W2 := (Kpo.below b3 hBW).trans hk2
    have hLW := hP.size
    have s2 := K2.size
    have s3 : W.heap.size + 3 ≤ W2.heap.size := by have := hk2.size; simp at this; omega
    have c0 := y0.cell
    have c1 := y1.cell
    clear x0 x1 x2 hP3 hk2 hy hRd b3
    gi_wp2_with fail
    refine ⟨trivial, (kids_mk _ _ _ _).mono ?_⟩
    rintro e w1 ⟨rfl, rfl⟩
    gi_wp2_with fail
    have bl : Below W2.heap.size W2 ((W2.alloc (.cells #[.pointer (some ⟨g, 0, none⟩)] 25)).alloc (.cells #[.int .i64 (k : Int)] 3)) := ((Below.refl _ W2).alloc (Nat.le_refl _) _).alloc (by simp) _
    have xt := (Boxed.new W2 25 (.pointer (some ⟨g, 0, none⟩))).alloc (.cells #[.int .i64 (k : Int)] 3)
    have xn := Boxed.new (W2.alloc (.cells #[.pointer (some ⟨g, 0, none⟩)] 25)) 3 (.int .i64 (k : Int))
    simp only [World.size_alloc] at xn
    have y0 := y0.alloc (.cells #[.pointer (some ⟨g, 0, none⟩)] 25) |>.alloc (.cells #[.int .i64 (k : Int)] 3)
    have y1 := y1.alloc (.cells #[.pointer (some ⟨g, 0, none⟩)] 25) |>.alloc (.cells #[.int .i64 (k : Int)] 3)
    have y2 := y2.alloc (.cells #[.pointer (some ⟨g, 0, none⟩)] 25) |>.alloc (.cells #[.int .i64 (k : Int)] 3)
    have hnW2 : n0 ≤ W2.heap.size := by omega
    have hPl := hP2.ext hnW2 bl
    have KL : Kpo B L W ((W2.alloc (.cells #[.pointer (some ⟨g, 0, none⟩)] 25)).alloc (.cells #[.int .i64 (k : Int)] 3)) := K2.trans (Kpo.below bl (by omega))
    have hszl : ((W2.alloc (.cells #[.pointer (some ⟨g, 0, none⟩)] 25)).alloc (.cells #[.int .i64 (k : Int)] 3)).heap.size = W2.heap.size + 2 := by simp
    obtain ⟨Wl, hWl⟩ : ∃ Wl, (W2.alloc (.cells #[.pointer (some ⟨g, 0, none⟩)] 25)).alloc (.cells #[.int .i64 (k : Int)] 3) = Wl := ⟨_, rfl⟩
    rw [hWl] at xt xn y0 y1 y2 hPl KL hszl ⊢
    have tg := hTA.ht.lt
    have tgn := hTA.hgn
    have tge := hTA.hge
    have hTl : TreeAt Wl g gn ge cn ce l := hTA.below (hn0 ▸ hPl.below)
    have IH := Lib.hid ih
    have HY' := Lib.hid HY
    clear hWl bl c0 c1 hP2 K2 ih
    refine wpIn_rangeFunc_ownF rfl (by omega) (gf := 48) (lb := #[.pointer (some ⟨W2.heap.size + 1, 0, none⟩), .pointer (some ⟨W2.heap.size, 0, none⟩)]) rfl trivial (enters_of Tryd.func48 (by kernel_rfl) rfl)
      (kids_stops _ W2.heap.size (W2.heap.size + 1) g gn ge cn ce l k _ hT hk (by omega) (by omega) (by omega) xt.cell xn.cell hTl) KeepB.trans (KeepB.obj (fun b hb => by rcases hb with rfl | rfl | rfl | rfl | rfl <;> omega)) (Below.refl _ _) (fun _ => rfl)
      (fun p X => Pst w0 n0 B L rec dfr (pre ++ (k, true) :: p.flatMap fun x => walkL (psOf l) x.1) X ∧ Boxed X W.heap.size 25 (.pointer (some ⟨g, 0, none⟩)) ∧ Boxed X (W.heap.size + 1) 100 (.func (.yield L) #[] #[]) ∧ Boxed X (W.heap.size + 1 + 1) 4 (.bool false) ∧ Boxed X W2.heap.size 25 (.pointer (some ⟨g, 0, none⟩)) ∧ Boxed X (W2.heap.size + 1) 3 (.int .i64 (k : Int)) ∧ Kpo B L W X)
      (fun _ _ _ => False)
      (fun s X Y row hs hg hr => ⟨hs.1.turn hnle (by omega) (by omega) hg hr, boxed_own _ _ (fun _ => _) s X Y row hs.2.1 hg (fun r e => (hr r e).2), boxed_own _ _ (fun _ => _) s X Y row hs.2.2.1 hg (fun r e => (hr r e).2), boxed_own _ _ (fun _ => _) s X Y row hs.2.2.2.1 hg (fun r e => (hr r e).2), boxed_own _ _ (fun _ => _) s X Y row hs.2.2.2.2.1 hg (fun r e => (hr r e).2), boxed_own _ _ (fun _ => _) s X Y row hs.2.2.2.2.2.1 hg (fun r e => (hr r e).2), hs.2.2.2.2.2.2.turn hs.1.B_lt (c := Wl.heap.size) (by omega) (by omega) hg (fun r e => (hr r e).1)⟩)
      (fun _ _ _ _ _ hs _ _ => hs)
      ⟨hPl, y0, y1, y2, xt, xn, KL⟩
      ?a1 ?assign ?body ?done ?stop
    case assign =>
      intro L' x X K hK
      simp only [encM, encN]
      gi_wp2
      exact hK
    case body =>
      rintro L' p ⟨x, hx⟩ X ⟨iP, i0, i1, i2, it, in_, iK⟩ hl
      obtain ⟨m1, m2⟩ := mem_kids hx
      have m3 := (hT.lt x (by omega)).1
      rw [m2, Int.toNat_natCast] at m3
      rw [psOf_len] at m1
      have hlk : (kidsL (psOf l) k).length ≤ 60 := Nat.le_trans (kidsL_len _ _) (by rw [psOf_len]; exact hlen)
      have hwl : (p.flatMap fun x => walkL (psOf l) x.1).length ≤ p.length * 120 := by
        clear hl iP iK
        induction p with
        | nil => simp
        | cons y p ihp =>
          rw [List.flatMap_cons, List.length_append, List.length_cons]
          have h1 := (walkL_le hT (mem_kids y.2).1).1
          rw [psOf_len] at h1
          have := Nat.succ_mul p.length 120
          omega
      have hN2 : (pre ++ (k, true) :: p.flatMap fun x => walkL (psOf l) x.1).length + d * 7300 ≤ N := by
        rw [List.length_append, List.length_cons]
        have : p.length * 120 ≤ 60 * 120 := Nat.mul_le_mul_right _ (by omega)
        omega
      have C := Lib.hid (IH.out x _ X (by omega) m1 iP hN2)
      have e0 := i0.cell
      have e1 := i1.cell
      have HX : Hid (∀ Y, Pst w0 n0 B L rec dfr ((pre ++ (k, true) :: p.flatMap fun x => walkL (psOf l) x.1) ++ walkL (psOf l) x) Y → Pst w0 n0 B L rec dfr (pre ++ (k, true) :: (p ++ [(⟨x, hx⟩ : {x // x ∈ kidsL (psOf l) k})]).flatMap fun (x : {x // x ∈ kidsL (psOf l) k}) => walkL (psOf l) x.1) Y) := Lib.hid fun Y h => by
        rw [List.flatMap_append]
        simpa using h
      have HIP := Lib.hid iP
      clear m1 m2 m3 hlk hwl hN2 hl iP
      gi_wp2_with fail
      refine ⟨trivial, (CallsIn.inRound _ (callsIn_wide.2 C.out)).mono ?_⟩
      rintro e Y ⟨rfl, hPY, hkY⟩
      have iP := HIP.out
      have j0 := iP.keep_box hrec hkY i0 (by decide) (by decide)
      have j1 := iP.keep_box hrec hkY i1 (by decide) (by decide)
      have j2 := iP.keep_box hrec hkY i2 (by decide) (by decide)
      have jt := iP.keep_box hrec hkY it (by decide) (by decide)
      have jn := iP.keep_box hrec hkY in_ (by decide) (by decide)
      clear e0 e1
      gi_wp2
      refine ⟨iP.others hPY hkY, fun b hb => ?_, HX.out _ hPY, j0, j1, j2, jt, jn, iK.trans hkY⟩
      rcases hb with rfl | rfl | rfl | rfl | rfl
      · exact (show Y.heap[W2.heap.size]? = _ from jt).trans (show X.heap[W2.heap.size]? = _ from it).symm
      · exact (show Y.heap[W2.heap.size + 1]? = _ from jn).trans (show X.heap[W2.heap.size + 1]? = _ from in_).symm
      · exact (hPY.below.block _ (by omega)).trans (iP.below.block _ (by omega)).symm
      · exact (hPY.below.block _ (by omega)).trans (iP.below.block _ (by omega)).symm
      · exact (hPY.below.block _ (by omega)).trans (iP.below.block _ (by omega)).symm
    case done =>
      rintro D xs X hD hxs ⟨iP, i0, i1, i2, it, in_, iK⟩ hK
      have hfm : (xs.flatMap fun x => walkL (psOf l) x.1) = (kidsL (psOf l) k).flatMap (walkL (psOf l)) := by
        have h1 : (xs.map Subtype.val).flatMap (walkL (psOf l)) = xs.flatMap fun x => walkL (psOf l) x.1 := by rw [List.flatMap_map]
        rw [show xs.map Subtype.val = kidsL (psOf l) k from hxs] at h1
        exact h1.symm
      rw [hfm] at iP
      have hWL := walkL_step hT (n := k) (by rw [psOf_len]; exact hk)
      have hle := (walkL_le hT (n := k) (by rw [psOf_len]; exact hk)).1
      rw [hWL, psOf_len] at hle
      simp only [List.length_cons, List.length_append, List.length_nil] at hle
      obtain ⟨fn2, tmps2, assign2, body2, hy2, hRd2⟩ := HY'.out 4 _ (k, false) X iP (by rw [List.length_append, List.length_cons]; omega)
      dsimp only [encS] at hy2
      have e1 := i1.cell
      have HWL := Lib.hid hWL
      clear hfm hle hWL hxs
      gi_wp2_with fail
      refine hRd2.mono ?_
      rintro e Y ⟨rfl, hPY, hkY⟩
      have j2 := iP.keep_box hrec hkY i2 (by decide) (by decide)
      have hKY := (iP.others hPY hkY).same D _ hK rfl
      have f2 := j2.frozen
      have g2 := j2.cell
      have KY := iK.trans hkY
      clear e1 hy2 hRd2
      gi_wp2
      have hKZ := (KeepsOthers.setCell Y ⟨W.heap.size + 1 + 1, 0, none⟩ (.bool true)).same D _ hKY rfl
      have jz := j2.set (.bool true)
      refine ⟨by simp, .inl ⟨_, _, rfl, run_takeDeferred hKZ, ?_⟩⟩
      have hg := grownBy_putObj' (Y.setCell ⟨W.heap.size + 1 + 1, 0, none⟩ (.bool true)) D (.deferred none)
      have ez := cell_kept jz.cell hg (fun r e => by cases e; exact ⟨_, hKZ, rfl⟩)
      have hPS := hPY.set_box hnle hrec hdfr j2 (by omega) (by decide) (by decide) (.bool true)
      have hP' := hPS.turn hnle (c := Wl.heap.size) (by omega) (by omega) hg (fun r e => by cases e; exact ⟨hD, _, hKZ, rfl⟩)
      have KS := (KY.turn hPY.B_lt (c := W.heap.size) hBW (Nat.le_refl _) (grownBy_setCell' Y (W.heap.size + 1 + 1) (.bool true)) (fun r e => by cases e; omega)).turn hPS.B_lt (c := W.heap.size) hBW (Nat.le_refl _) hg (fun r e => by cases e; omega)
      refine ⟨.bool true, by simp [results, Tryd.f57, go_sem, ez], rfl, ?_, KS⟩
      rw [HWL.out]
      simpa using hP'
    case stop =>
      rintro D c pre X _ _ h _
      exact h.elim
end Go.Proofs.YtgpobhnonjdamaaDoor

/- A range over a function whose iterator is known by a contract at THIS loop (its record, its rounds): for iterators that hold loops over functions themselves, or call themselves. The rounds only go on. For any layer. No walk. -/
namespace Go.Proofs.YtgpobhnonjdamaaDoor
open Go.ChangeShapes Go.WideShapes Go.ChangeAt Go.RowKit Go.Shelf

theorem rangeFunc_here {F : Fence} {n : Nat} {P : Program} {α : Type} {g : Operand} {ps : Array Tmp} {assign body : Code} {Q : Exit → Act → World → Prop} {a : Act} {w : World}
    (hro : F.round = none) (h1 : 1 ≤ n) {gf : Nat} {lb : Array Value} (hg : a.eval g = .func (.func gf) #[] lb) (hFg : F.fn gf) (eg : ∀ args w, (callFunc gf args).run P w = .ok (.enter gf args) w)
    {encs : α → Array Value} (hps : ∀ x, (encs x).size = ps.size) (I : Obj → List α → World → Prop) (Kp : World → World → Prop) (S : List α → Prop) (N : Nat)
    (hloop : ∀ rdy pre W, I rdy pre W → W.heap[w.heap.size + 1]? = some rdy)
    (hround : ∀ (rdy bsy : Obj) (m : Nat) (pre : List α) (x : α) (W : World), rdy.isCells = false → bsy.isCells = false → I rdy pre W → pre.length < N →
      assign.wpIn (F.inRound (w.heap.size + 1)) m P (Exit.then (fun a1 W1 => W1.heap[w.heap.size + 1]? = some rdy ∧ body.wpIn (F.inRound (w.heap.size + 1)) m P (fun e _ W3 => e = .normal ∧ W3.heap[w.heap.size + 1]? = some bsy ∧ I rdy (pre ++ [x]) (W3.putObj (w.heap.size + 1) rdy) ∧ Kp W (W3.putObj (w.heap.size + 1) rdy)) a1 (W1.putObj (w.heap.size + 1) bsy)) (fun _ _ _ => False))
        { tmps := (ps.zip (encs x)).foldl (fun t (p, v) => t.setIfInBounds p v) a.tmps, defers := [] } W)
    (hiter : ∀ rdy : Obj, rdy.isCells = false → (∀ (m : Nat) (pre : List α) (x : α) (W : World), I rdy pre W → pre.length < N → YieldAt F m P (w.heap.size + 1) (encs x) W fun e W' => e = .returned (.bool true) ∧ I rdy (pre ++ [x]) W' ∧ Kp W W') →
      CallsIn F (n - 1) P gf (#[.func (.yield (w.heap.size + 1)) #[] #[]] ++ lb) ((w.alloc (.deferred (some []))).alloc rdy) fun e W' => (∃ v, e = .returned v) ∧ ∃ xs, S xs ∧ I rdy xs W')
    (hdone : ∀ (rdy exh : Obj) (xs : List α) (W : World), rdy.isCells = false → exh.isCells = false → S xs → I rdy xs W → Q .normal { a with defers := { target := .collected w.heap.size, args := #[] } :: a.defers } (W.putObj (w.heap.size + 1) exh)) :
    (Code.rangeFunc g ps assign body).wpIn F n P Q a w := by
  refine wpIn_rangeFunc ?_
  intro fn hfn
  rw [hro]
  obtain ⟨rec, hrec⟩ : ∃ rec : LoopState → Loop, rec = fun st => { state := st, pending := none, fn, tmps := a.tmps, params := ps, assign, body, defers := w.heap.size } := ⟨_, rfl⟩
  refine ⟨w.heap.size + 1, [{ target := .collected w.heap.size, args := #[] }], (w.alloc (.deferred (some []))).alloc (.loop (rec .ready)), { target := .fn (.func gf) lb, args := #[.func (.yield (w.heap.size + 1)) #[] #[]] }, (w.alloc (.deferred (some []))).alloc (.loop (rec .ready)), gf,
    #[.func (.yield (w.heap.size + 1)) #[] #[]] ++ lb, (w.alloc (.deferred (some []))).alloc (.loop (rec .ready)), ?_, ?_, ?_, ?_, fun _ => h1, ?_⟩
  · rw [hrec]; exact run_enterLoop_outer _ _ _ _ _
  · simp only [resolve, hg]
    simp [go_sem]
  · intro f' hf'; simp [Target.leads] at hf'; subst hf'; exact hFg
  · simp [invoke, go_sem, eg]
  · refine (hiter (.loop (rec .ready)) rfl ?_).mono ?_
    · intro m pre x W hI hN
      have hl := hloop _ _ _ hI
      have hy := run_yield (P := P) (args := encs x) hl (by rw [hrec]; exact hps x)
      rw [hrec] at hy
      refine ⟨fn, _, assign, body, hy, roundIn_of_wpIn hfn (wpIn_mono (hround (.loop (rec .ready)) (.loop (rec .busy)) m pre x W rfl rfl hI hN) ?_)⟩
      rintro e a1 W1 hp
      cases e with
      | normal =>
        obtain ⟨hl1, hb⟩ := hp
        refine ⟨_, run_beginRound hl1 (by rw [hrec]), ?_⟩
        have e1 : ({ rec .ready with state := .busy } : Loop) = rec .busy := by rw [hrec]
        rw [e1]
        refine wpIn_mono hb ?_
        rintro e a3 W3 ⟨rfl, hl3, hI3, hK3⟩
        have hr := run_endRound (P := P) none hl3
        have e2 : ({ rec .busy with state := if (none : Option Code).isNone then .ready else .done, pending := none } : Loop) = rec .ready := by rw [hrec]; rfl
        rw [e2] at hr
        exact ⟨_, _, hr, rfl, hI3, hK3⟩
      | ret => exact hp.elim
      | exit id => exact hp.elim
      | goto t => exact hp.elim
      | panic ch => exact hp.elim
      | outgrown => exact hp.elim
    · rintro e W2 ⟨⟨v, rfl⟩, xs, hS, hI⟩
      have hl := hloop _ _ _ hI
      exact ⟨none, _, by have := run_endLoop (P := P) hl (by rw [hrec]; simp); rw [hrec] at this; exact this, hdone _ _ xs _ rfl rfl hS hI⟩
end Go.Proofs.YtgpobhnonjdamaaDoor

/- Contract of arena's Walk. Conditions: the pointer leads to a tree of at most 60 nodes. -/
namespace Go.Proofs.YtgpobhnonjdamaaDoor
open Go.ChangeShapes Go.WideShapes Go.ChangeAt Go.RowKit Go.Shelf

attribute [local go_sem] Oper.semAt_some

set_option maxHeartbeats 1000000 in
theorem stops_mk (n : Nat) (v : Option Addr) (k : Int) (w : World) :
    CallsIn Fence.wide n Tryd.prog 42 #[.pointer v, .int .i64 k] w fun e w' => e = .returned (.func (.func 56) #[] #[.pointer (some ⟨w.heap.size, 0, none⟩), .pointer (some ⟨w.heap.size + 1, 0, none⟩)]) ∧ w' = (w.alloc (.cells #[.pointer v] 25)).alloc (.cells #[.int .i64 k] 3) := by
  refine callsIn_of_wp Tryd.func42 rfl trivial ?_ rfl
  simp only [Tryd.ntmps42, List.size_toArray, List.length_cons, List.length_nil, Nat.reduceAdd, Nat.reduceSub, Array.replicate_succ, Array.replicate_zero, List.push_toArray, List.append_toArray, List.nil_append, List.cons_append]
  gi_wp2
  go_ret
  exact ⟨by simp, rfl⟩

set_option maxRecDepth 100000 in
set_option maxHeartbeats 4000000 in
theorem stops_in (n Bt Bn L : Nat) (g : Nat) (k : Int) (W : World) (R : World → Prop) (hBt : W.cell? ⟨Bt, 0, none⟩ = some (.pointer (some ⟨g, 0, none⟩))) (hBn : W.cell? ⟨Bn, 0, none⟩ = some (.int .i64 k))
    (C : Calls Tryd.prog 57 #[.pointer (some ⟨g, 0, none⟩), .int .i64 k, .func (.yield L) #[] #[]] W fun e W' => e = .returned (.bool true) ∧ R W') :
    CallsIn Fence.wide n Tryd.prog 56 #[.func (.yield L) #[] #[], .pointer (some ⟨Bt, 0, none⟩), .pointer (some ⟨Bn, 0, none⟩)] W fun e W' => (∃ v, e = .returned v) ∧ R W' := by
  have HC := Lib.hid C
  clear C
  refine callsIn_wide.2 ?_
  go_enter Tryd.func56, Tryd.ntmps56
  go_wp2_with fail
  refine HC.out.mono ?_
  rintro e w2 ⟨rfl, hR⟩
  go_wp2_with fail
  refine ⟨rfl, _, results_none rfl _ _ _, ⟨_, rfl⟩, hR⟩

structure Mk (P : Prop) : Prop where
  out : P
/-! ### one round of the loop -/
theorem alT (w : World) : (Instr.alloc 62 true (.tuple #[])).run Tryd.prog w = .ok (.pointer (some ⟨w.heap.size, 0, none⟩)) (w.alloc (.cells (stA (0, false)) 62)) := by kernel_rfl
section
variable {F : Fence} {n : Nat} {ops : Array Oper} {Q : Exit → Act → World → Prop} {a : Act} {w : World} {rest : List Oper} {o o1 o2 : Oper}
theorem ldTIn (hF : ∀ f, F.fn f) (hg : o.guard = none) (x : Operand) (ho : o.op = .load 62 x) (p : Addr) (hx : a.eval x = .pointer (some p)) (s : Nat × Bool) (hL : Lies w p (stA s))
    (h : wpListIn F n Tryd.prog ops Q rest (a.put o.dst (.agg (stA s))) w) : wpListIn F n Tryd.prog ops Q (o :: rest) a w :=
  wpListIn_val hF (by rw [ho]; intro c hc; cases hc) hg _ rfl _ _ (rdT x ho p hx s hL) h
theorem bsTIn (hF : ∀ f, F.fn f) (hg : o.guard = none) (x : Operand) (ho : o.op = .buildSlice 57 1 #[(0, x)]) (s : Nat × Bool) (hx : a.eval x = .agg (stA s))
    (h : wpListIn F n Tryd.prog ops Q rest (a.put o.dst (.slice (some ⟨w.heap.size, 0, none⟩) 1 1)) (w.alloc (.cells (stA s) 62))) : wpListIn F n Tryd.prog ops Q (o :: rest) a w :=
  wpListIn_val hF (by rw [ho]; intro c hc; cases hc) hg _ rfl _ _ (by
    unfold execOp
    simp only [ho, List.map_toArray, List.map_cons, List.map_nil, hx, Sem.run_bind, bsT, Sem.run_pure, Result.andThen_ok]) h
theorem nwTIn (hF : ∀ f, F.fn f) (hg1 : o1.guard = none) (hg2 : o2.guard = none) (D : Tmp) (hd1 : o1.dst = some D) (ho1 : o1.op = .alloc 62) (y : Operand) (ho2 : o2.op = .store 62 (.tmp D) y) (hd2 : o2.dst = none)
    (s : Nat × Bool) (hx : ∀ v, (a.put (some D) v).eval (.tmp D) = v) (hy : ∀ v, (a.put (some D) v).eval y = .agg (stA s))
    (h : ∀ w', Below w.heap.size w w' → KeepsOthers w w' → Blk w' w.heap.size 62 (stA s) → wpListIn F n Tryd.prog ops Q rest (a.put (some D) (.pointer (some ⟨w.heap.size, 0, none⟩))) w') : wpListIn F n Tryd.prog ops Q (o1 :: o2 :: rest) a w :=
  wpListIn_newS hF hg1 hg2 62 D hd1 ho1 y ho2 hd2 _ alT (stA s) hx hy (iT s) rfl (oneT s) h
end
theorem rowOf_box {W : World} {B : Nat} {t : TypeId} {v : Value} (h : Boxed W B t v) : rowOf W B = v.ownBlock := by
  unfold rowOf
  rw [h.cell]
theorem own_not_box {W : World} {b B n : Nat} {t : TypeId} {u v : Value} {xs : List Value} (hb : Boxed W B t u) (h : W.ownsRow b 62 2 v n xs) (ht : t ≠ 62) : some B ≠ v.ownBlock := by
  intro e
  rcases h.2 with ⟨rfl, _⟩ | ⟨g, cap, cur, rfl, _, hg, _⟩
  · simp [Value.ownBlock] at e
  · obtain rfl : B = g := by simpa [Value.ownBlock] using e
    rw [show W.heap[B]? = _ from hb] at hg
    injection hg with hg
    injection hg with _ hg _
    exact ht hg
theorem own_not_obj {W : World} {b L n : Nat} {o : Obj} {v : Value} {xs : List Value} (hL : W.heap[L]? = some o) (ho : o.isCells = false) (h : W.ownsRow b 62 2 v n xs) : some L ≠ v.ownBlock := by
  intro e
  rcases h.2 with ⟨rfl, _⟩ | ⟨g, cap, cur, rfl, _, hg, _⟩
  · simp [Value.ownBlock] at e
  · obtain rfl : L = g := by simpa [Value.ownBlock] using e
    rw [hL] at hg
    cases hg
    cases ho
theorem own_from {W : World} {b n : Nat} {v : Value} {xs : List Value} {k : Nat} (h : W.ownsRow b 62 2 v n xs) (hk : v.ownBlock = some k) : b ≤ k ∧ k < W.heap.size := by
  rcases h.2 with ⟨rfl, _⟩ | ⟨g, cap, cur, rfl, hb, hg, _⟩
  · simp [Value.ownBlock] at hk
  · obtain rfl : g = k := by simpa [Value.ownBlock] using hk
    exact ⟨hb, (Array.getElem?_eq_some_iff.1 hg).1⟩
theorem round_ok {w0 W w5 w7 : World} {n0 B L : Nat} {rdy bsy dfr tmp : Obj} {pre : List (Nat × Bool)} {x : Nat × Bool} {v v' : Value} (hn0 : n0 ≤ w0.heap.size) (hB0 : n0 ≤ B) (hBL : B < L - 1) (hr : rdy.isCells = false) (hbs : bsy.isCells = false) (hd : dfr.isCells = false)
    (hP : Pst w0 n0 B L rdy dfr pre W) (hv : Boxed W B 57 v) (hown : W.ownsRow n0 62 2 v pre.length (pre.flatMap stp)) (b5 : Below W.heap.size W w5)
    (own7 : w7.ownsRow n0 62 2 v' (pre.length + 1) (pre.flatMap stp ++ stp x)) (grow : ((w5.putObj L bsy).alloc tmp).grownBy w7 v.ownBlock) (ob : v'.ownBlock = v.ownBlock ∨ v'.ownBlock = some ((w5.putObj L bsy).alloc tmp).heap.size) :
    Boxed w7 B 57 v ∧ ((w7.setCell ⟨B, 0, none⟩ v').heap[L]? = some bsy ∧ Pst w0 n0 B L rdy dfr (pre ++ [x]) ((w7.setCell ⟨B, 0, none⟩ v').putObj L rdy) ∧ Kpo B L W ((w7.setCell ⟨B, 0, none⟩ v').putObj L rdy)) := by
  have hLs := hP.size
  have s5 := b5.size
  have g6 := grownBy_putObj' w5 L bsy
  have hL5 : w5.heap[L]? = some rdy := (b5.block L hLs).trans hP.loop
  have hL6 : (w5.putObj L bsy).heap[L]? = some bsy := World.putObj_heap_same (by omega)
  have hs6 : (w5.putObj L bsy).heap.size = w5.heap.size := by simp [World.putObj]
  have o6 : ∀ k, k < w5.heap.size → k ≠ L → (w5.putObj L bsy).heap[k]? = w5.heap[k]? := fun k hk hne => World.putObj_heap_other hne
  have hv6 : Boxed (w5.putObj L bsy) B 57 v := (o6 B (by omega) (by omega)).trans ((b5.block B hv.lt).trans hv)
  have ownW := hown
  have nB : some B ≠ v.ownBlock := own_not_box hv hown (by decide)
  have nL : some L ≠ v.ownBlock := own_not_obj hP.loop hr hown
  have nD : some (L - 1) ≠ v.ownBlock := own_not_obj hP.defd hd hown
  have hv7 : Boxed w7 B 57 v := (hv6.alloc tmp).kept grow nB
  have hs7 : w5.heap.size + 1 ≤ w7.heap.size := by have := grow.size; simp [hs6] at this; omega
  have o7 : ∀ k, k < w5.heap.size → k ≠ L → some k ≠ v.ownBlock → w7.heap[k]? = w5.heap[k]? := fun k hk h1 h2 => by
    refine (grow.block k (by simp [hs6]; omega) h2).trans ?_
    exact ((below_alloc (w5.putObj L bsy) tmp).block k (by omega)).trans (o6 k hk h1)
  have hL7 : w7.heap[L]? = some bsy := by
    refine (grow.block L (by simp [hs6]; omega) nL).trans ?_
    exact ((below_alloc (w5.putObj L bsy) tmp).block L (by omega)).trans hL6
  have g8 := grownBy_setCell' w7 B v'
  have n7 : some B ≠ v'.ownBlock := own_not_box hv7 own7 (by decide)
  have nL7 : some L ≠ v'.ownBlock := own_not_obj hL7 hbs own7
  have hv8 := hv7.set v'
  have hs8 : (w7.setCell ⟨B, 0, none⟩ v').heap.size = w7.heap.size := by simp [World.setCell]
  have o8 : ∀ k, k < w7.heap.size → k ≠ B → (w7.setCell ⟨B, 0, none⟩ v').heap[k]? = w7.heap[k]? := fun k hk h => g8.block k hk (fun e => h (by injection e))
  have own8 := own7.kept g8 (.inr (Ne.symm n7))
  have hL8 : (w7.setCell ⟨B, 0, none⟩ v').heap[L]? = some bsy := (o8 L (by omega) (by omega)).trans hL7
  have g9 := grownBy_putObj' (w7.setCell ⟨B, 0, none⟩ v') L rdy
  have hs9 : ((w7.setCell ⟨B, 0, none⟩ v').putObj L rdy).heap.size = w7.heap.size := by simp [World.putObj, World.setCell]
  have o9 : ∀ k, k < w7.heap.size → k ≠ L → ((w7.setCell ⟨B, 0, none⟩ v').putObj L rdy).heap[k]? = (w7.setCell ⟨B, 0, none⟩ v').heap[k]? := fun k hk h => World.putObj_heap_other h
  have hv9 : Boxed ((w7.setCell ⟨B, 0, none⟩ v').putObj L rdy) B 57 v' := hv8.kept g9 (fun e => by injection e with e; omega)
  have own9 := own8.kept g9 (.inr (Ne.symm nL7))
  have all : ∀ k, k < W.heap.size → k ≠ B → k ≠ L → some k ≠ v.ownBlock → ((w7.setCell ⟨B, 0, none⟩ v').putObj L rdy).heap[k]? = W.heap[k]? := fun k hk h1 h2 h3 =>
    (o9 k (by omega) h2).trans ((o8 k (by omega) h1).trans ((o7 k (by omega) h2 h3).trans (b5.block k hk)))
  have eos : ((w7.setCell ⟨B, 0, none⟩ v').putObj L rdy).os = W.os := g9.os.trans (g8.os.trans (grow.os.trans (g6.os.trans b5.os)))
  have etp : ((w7.setCell ⟨B, 0, none⟩ v').putObj L rdy).tape = W.tape := g9.tape.trans (g8.tape.trans (grow.tape.trans (g6.tape.trans b5.tape)))
  have eou : ((w7.setCell ⟨B, 0, none⟩ v').putObj L rdy).output = W.output := g9.output.trans (g8.output.trans (grow.output.trans (g6.output.trans b5.output)))
  refine ⟨hv7, hL8, ⟨⟨v', hv9, by rw [List.length_append, List.flatMap_append]; simpa using own9⟩, World.putObj_heap_same (by omega), (all (L - 1) (by omega) (by omega) (by omega) nD).trans hP.defd, hP.below.trans ⟨eos, etp, eou, by omega, fun k hk => all k (by have := hP.below.size; omega) (by omega) (by omega) (fun e => by have := (own_from ownW e.symm).1; omega)⟩, by omega⟩,
    by omega, eos, etp, eou, fun k h1 h2 h3 h4 => all k h1 h2 h3 (fun e => h4 (by rw [rowOf_box hv]; exact e.symm)), fun k hk => ?_⟩
  rw [rowOf_box hv9] at hk
  rcases ob with e | e
  · exact .inl (by rw [rowOf_box hv, ← e]; exact hk)
  · right
    rw [e] at hk
    injection hk with hk
    have : ((w5.putObj L bsy).alloc tmp).heap.size = w5.heap.size + 1 := by simp [hs6]
    omega

theorem mkT (c : Nat) (hc : c ≤ 1000000) (w : World) :
    (Instr.makeSlice 57 (.int .i64 0) (.int .i64 (c : Int))).run Tryd.prog w = .ok (.slice (some ⟨w.heap.size, 0, none⟩) 0 c) (w.alloc (.cells (madeCells (stA (0, false)) (c * 2)) 62)) := by
  obtain ⟨i0, hi, hz0, hz1, hz2⟩ := info_agg (P := Tryd.prog) (t := 62) (z := .agg (stA (0, false))) (s := 2) (b := 16) (by kernel_rfl)
  have := run_make_aggs (P := Tryd.prog) 57 62 i0 (.agg (stA (0, false))) Tryd.underlying57 hi hz0 .i64 .i64 0 c (by omega) (by rw [hz2]; omega) (by omega) w
  rw [hz1] at this
  exact this

set_option maxRecDepth 100000 in
set_option maxHeartbeats 8000000 in
theorem awalk_any (v : Value) (l : List Nod) (k : Nat) (w : World) (h : Tr w v l) (hT : Tre (psOf l)) (hk : k < l.length) (hlen : l.length ≤ 60) :
    Calls Tryd.prog 26 #[v, .int .i64 (k : Int)] w fun e w' => ∃ u, e = .returned u ∧ Sts w' u (walkL (psOf l) k) ∧ Below w.heap.size w w' := by
  have C := Lib.hid (afind_any v l.length k w h.len)
  rw [fndE_in hk] at C
  obtain ⟨g, gn, ge, cn, ce, rfl, hTA⟩ := h
  obtain ⟨en, hE, hce⟩ := hTA.he k hk
  have c1 := hTA.c1
  have hel := hE.lt
  have hee := hE.le
  rw [psOf_len] at hee
  obtain ⟨c, hc⟩ : ∃ c, 2 * (en - k) = c := ⟨_, rfl⟩
  have hmk : ∀ w : World, (Instr.makeSlice 57 (.int .i64 0) (.int .i64 (2 * ((en : Int) - (k : Int))))).run Tryd.prog w = .ok (.slice (some ⟨w.heap.size, 0, none⟩) 0 c) (w.alloc (.cells (madeCells (stA (0, false)) (c * 2)) 62)) := fun w => by
    rw [show 2 * ((en : Int) - (k : Int)) = (c : Int) by omega]
    exact mkT c (by omega) w
  obtain ⟨N, hl⟩ : ∃ N, l.length = N := ⟨_, rfl⟩
  have HL := Lib.hid hl
  have hkz : (k : Int) < N := by omega
  rw [hl] at c1
  have HTA := Lib.hid hTA
  clear hTA
  refine (callsIn_wide (n := 7)).1 ?_
  refine callsIn_of_wp_marks Tryd.func26 rfl trivial ?_ rfl
  simp only [Tryd.ntmps26, List.size_toArray, List.length_cons, List.length_nil, Nat.reduceAdd, Nat.reduceSub, Array.replicate_succ, Array.replicate_zero, List.push_toArray, List.append_toArray, List.nil_append, List.cons_append]
  gi_wp2_with fail
  refine ⟨trivial, (callsIn_wide.2 C.out).mono ?_⟩
  rintro e w1 ⟨rfl, rfl⟩
  gi_wp2_with fail
  refine ⟨trivial, (stops_mk _ _ _ _).mono ?_⟩
  rintro e w1 ⟨rfl, rfl⟩
  gi_wp2_with fail
  obtain ⟨z0, hzi, hzc⟩ := elmT.info
  obtain ⟨i0, hi, hz0, hz1, hz2⟩ := info_agg hzi
  have R0 := Blk.new w 62 (madeCells (stA (0, false)) (c * 2))
  have XB := Boxed.new (w.alloc (.cells (madeCells (stA (0, false)) (c * 2)) 62)) 57 (.slice (some ⟨w.heap.size, 0, none⟩) 0 c)
  have XT := Boxed.new ((w.alloc (.cells (madeCells (stA (0, false)) (c * 2)) 62)).alloc (.cells #[.slice (some ⟨w.heap.size, 0, none⟩) 0 c] 57)) 25 (.pointer (some ⟨g, 0, none⟩))
  have XN := Boxed.new (((w.alloc (.cells (madeCells (stA (0, false)) (c * 2)) 62)).alloc (.cells #[.slice (some ⟨w.heap.size, 0, none⟩) 0 c] 57)).alloc (.cells #[.pointer (some ⟨g, 0, none⟩)] 25)) 3 (.int .i64 (k : Int))
  simp only [World.size_alloc] at XB XT XN
  have R4 := ((R0.alloc (.cells #[.slice (some ⟨w.heap.size, 0, none⟩) 0 c] 57)).alloc (.cells #[.pointer (some ⟨g, 0, none⟩)] 25)).alloc (.cells #[.int .i64 (k : Int)] 3)
  have XB4 := (XB.alloc (.cells #[.pointer (some ⟨g, 0, none⟩)] 25)).alloc (.cells #[.int .i64 (k : Int)] 3)
  have XT4 := XT.alloc (.cells #[.int .i64 (k : Int)] 3)
  have b4 : Below w.heap.size w ((((w.alloc (.cells (madeCells (stA (0, false)) (c * 2)) 62)).alloc (.cells #[.slice (some ⟨w.heap.size, 0, none⟩) 0 c] 57)).alloc (.cells #[.pointer (some ⟨g, 0, none⟩)] 25)).alloc (.cells #[.int .i64 (k : Int)] 3)) := ((((Below.refl _ w).alloc (Nat.le_refl _) _).alloc (by simp) _).alloc (by simp; omega) _).alloc (by simp; omega) _
  have hsz : ((((w.alloc (.cells (madeCells (stA (0, false)) (c * 2)) 62)).alloc (.cells #[.slice (some ⟨w.heap.size, 0, none⟩) 0 c] 57)).alloc (.cells #[.pointer (some ⟨g, 0, none⟩)] 25)).alloc (.cells #[.int .i64 (k : Int)] 3)).heap.size = w.heap.size + 4 := by simp
  obtain ⟨Wl, hWl⟩ : ∃ Wl, (((w.alloc (.cells (madeCells (stA (0, false)) (c * 2)) 62)).alloc (.cells #[.slice (some ⟨w.heap.size, 0, none⟩) 0 c] 57)).alloc (.cells #[.pointer (some ⟨g, 0, none⟩)] 25)).alloc (.cells #[.int .i64 (k : Int)] 3) = Wl := ⟨_, rfl⟩
  rw [hWl] at R4 XB4 XT4 XN b4 hsz ⊢
  have own4 : Wl.ownsRow w.heap.size 62 2 (.slice (some ⟨w.heap.size, 0, none⟩) 0 c) 0 [] := ⟨rfl, .inr ⟨w.heap.size, c, _, rfl, Nat.le_refl _, R4, Nat.zero_le _, by unfold maxLen; omega, by simp [size_madeCells], by simp⟩⟩
  clear hWl R0 XB XT R4 c1 hce hE hmk C hc
  refine rangeFunc_here rfl (by omega) (gf := 56) (lb := #[.pointer (some ⟨w.heap.size + 1 + 1, 0, none⟩), .pointer (some ⟨w.heap.size + 1 + 1 + 1, 0, none⟩)]) rfl trivial (enters_of Tryd.func56 (by kernel_rfl) rfl)
    (encs := encS) (fun _ => rfl) (fun rdy pre X => Pst w w.heap.size (w.heap.size + 1) (Wl.heap.size + 1) rdy (.deferred (some [])) pre X) (Kpo (w.heap.size + 1) (Wl.heap.size + 1)) (fun xs => xs = walkL (psOf l) k) 438000
    (fun _ _ _ h => h.loop) ?round ?iter ?done
  case iter =>
    intro rdy hrd HY
    have bd : Below Wl.heap.size Wl ((Wl.alloc (.deferred (some []))).alloc rdy) := ((Below.refl _ Wl).alloc (Nat.le_refl _) _).alloc (by simp) _
    have hL : ((Wl.alloc (.deferred (some []))).alloc rdy).heap[Wl.heap.size + 1]? = some rdy := by
      have := World.alloc_heap_new (Wl.alloc (.deferred (some []))) rdy
      rwa [World.size_alloc] at this
    have hD : ((Wl.alloc (.deferred (some []))).alloc rdy).heap[Wl.heap.size]? = some (.deferred (some [])) := (Below.heap_alloc _ _ _ (by simp)).trans (World.alloc_heap_new Wl _)
    have hP0 : Pst w w.heap.size (w.heap.size + 1) (Wl.heap.size + 1) rdy (.deferred (some [])) [] ((Wl.alloc (.deferred (some []))).alloc rdy) :=
      ⟨⟨_, (bd.block _ XB4.lt).trans XB4, own_kept own4 bd⟩, hL, hD, b4.trans (bd.mono b4.size), by simp⟩
    have hV := visit_any (w0 := w) (n0 := w.heap.size) l g gn ge cn ce rfl HTA.out hT hlen hrd rfl (by omega) (by omega) HY 60 k [] ((Wl.alloc (.deferred (some []))).alloc rdy) (by omega) hk hP0 (by simp)
    exact (stops_in _ (w.heap.size + 1 + 1) (w.heap.size + 1 + 1 + 1) (Wl.heap.size + 1) g (k : Int) ((Wl.alloc (.deferred (some []))).alloc rdy) (fun X => Pst w w.heap.size (w.heap.size + 1) (Wl.heap.size + 1) rdy (.deferred (some [])) (walkL (psOf l) k) X)
      ((bd.cell (p := ⟨w.heap.size + 1 + 1, 0, none⟩) XT4.lt).trans XT4.cell) ((bd.cell (p := ⟨w.heap.size + 1 + 1 + 1, 0, none⟩) XN.lt).trans XN.cell) (hV.mono fun e X h => ⟨h.1, by simpa using h.2.1⟩)).mono fun e X h => ⟨h.1, _, rfl, h.2⟩
  case round =>
    intro rdy bsy m pre x X hr hb hP hN
    obtain ⟨v, hv, hown⟩ := hP.box
    have hLX := hP.size
    simp only [encS]
    gi_wp2_with fail
    have b5 := below_alloc X (.cells (stA x) 62)
    have B5 := Blk.new X 62 (stA x)
    have hw5 : X.alloc (.cells #[.int .i64 (x.1 : Int), .bool x.2] 62) = X.alloc (.cells (stA x) 62) := rfl
    rw [hw5]
    obtain ⟨w5, hw⟩ : ∃ w5, X.alloc (.cells (stA x) 62) = w5 := ⟨_, rfl⟩
    rw [hw] at b5 B5 ⊢
    clear hw hw5
    refine ⟨(b5.block _ hLX).trans hP.loop, ?_⟩
    have hX5 := b5.size
    have hB6 : Boxed (w5.putObj (Wl.heap.size + 1) bsy) (w.heap.size + 1) 57 v := (World.putObj_heap_other (by omega)).trans ((b5.block _ hv.lt).trans hv)
    have B6 : Blk (w5.putObj (Wl.heap.size + 1) bsy) X.heap.size 62 (stA x) := (World.putObj_heap_other (by omega)).trans B5
    have own6 : (w5.putObj (Wl.heap.size + 1) bsy).ownsRow w.heap.size 62 2 v pre.length (pre.flatMap stp) := (own_kept hown b5).kept (grownBy_putObj' w5 (Wl.heap.size + 1) bsy) (.inr (Ne.symm (own_not_obj ((b5.block _ hLX).trans hP.loop) hr (own_kept hown b5))))
    have c6 := hB6.cell
    have hs6 : Hid ((w5.putObj (Wl.heap.size + 1) bsy).heap.size = w5.heap.size) := Lib.hid (by simp [World.putObj])
    have hnW : Hid (w.heap.size ≤ (w5.putObj (Wl.heap.size + 1) bsy).heap.size) := Lib.hid (by rw [hs6.out]; omega)
    have hRO := fun (w7 : World) (v' : Value) => round_ok (w0 := w) (w7 := w7) (v' := v') (n0 := w.heap.size) (B := w.heap.size + 1) (L := Wl.heap.size + 1) (bsy := bsy) (tmp := .cells (stA x) 62) (x := x) (Nat.le_refl _) (by omega) (by omega) hr hb rfl hP hv hown b5
    have HRO := Lib.hid hRO
    have HOWN6 := Lib.hid own6
    obtain ⟨W6, hW6⟩ : ∃ W6, w5.putObj (Wl.heap.size + 1) bsy = W6 := ⟨_, rfl⟩
    rw [hW6] at B6 c6 HOWN6 hs6 hnW HRO ⊢
    clear hRO own6 hB6 B5 hv hown hW6 hP
    have HSZ := Lib.hid hsz
    clear hsz
    gi_wp2_with (first
      | (refine bsTIn (fun _ => trivial) rfl (.tmp 27) rfl x rfl ?_)
      | (refine ldTIn (fun _ => trivial) rfl (.tmp 6) rfl ⟨X.heap.size, 0, none⟩ rfl x B6.lies ?_)
      | (gi_at_builtin; refine Mk.out ?_))
    refine ⟨?_⟩
    refine wpListIn_append_own_at _ rfl _ _ 57 rfl w.heap.size 62 i0 z0 2 16 elmT.und hi hz0 hz1 hz2 hzc (by decide) _ _ _ rfl (HOWN6.out.alloc (.cells (stA x) 62)) ⟨W6.heap.size, 0, none⟩ 1 1 (stp x) rfl rfl (fun j u hu => (Blk.new W6 62 (stA x)).lies j u (by rw [← hu]; simp [stA, stp])) (fun u hu => flatT_one [x] u (by simpa using hu)) (by unfold maxLen; omega) (by omega) (by have := hnW.out; simp; omega) ?_
    intro v' w7 own7 grow7 _ ob7
    obtain ⟨g', cap', rfl⟩ := ownsRow_succ own7
    have hro := HRO.out w7 _ own7 grow7 ob7
    have c7 := hro.1.cell
    have f7 := hro.1.frozen
    have HRE := Lib.hid hro.2
    clear hro HRO grow7 own7 HOWN6
    gi_wp2
    exact HRE.out
  case done =>
    intro rdy exh xs X hr he hxs hP
    subst hxs
    obtain ⟨v, hv, hown⟩ := hP.box
    have hLX := hP.size
    have g9 := grownBy_putObj' X (Wl.heap.size + 1) exh
    have hv9 := hv.kept g9 (fun e => by injection e with e; omega)
    have own9 := hown.kept g9 (.inr (Ne.symm (own_not_obj hP.loop hr hown)))
    have hD9 : (X.putObj (Wl.heap.size + 1) exh).heap[Wl.heap.size]? = some (.deferred (some [])) := (World.putObj_heap_other (by omega)).trans hP.defd
    have b9 : Below w.heap.size w (X.putObj (Wl.heap.size + 1) exh) := hP.below.grown g9 (by have := hP.below.size; omega) (fun k e => by injection e with e; omega)
    have c9 := hv9.cell
    obtain ⟨X9, hX9⟩ : ∃ X9, X.putObj (Wl.heap.size + 1) exh = X9 := ⟨_, rfl⟩
    rw [hX9] at hv9 own9 hD9 b9 c9 ⊢
    have HOWN9 := Lib.hid own9
    clear hX9 g9 hv hown hv9 own9 hP
    gi_wp2
    refine ⟨by simp, .inl ⟨_, _, rfl, run_takeDeferred hD9, ?_⟩⟩
    have ga := grownBy_putObj' X9 Wl.heap.size (.deferred none)
    refine ⟨_, results_tmp rfl _ _ _, v, rfl, ?_, b9.grown ga (by have := b9.size; omega) (fun k e => by injection e with e; omega)⟩
    exact own_sts (HOWN9.out.kept ga (.inr (Ne.symm (own_not_obj hD9 rfl HOWN9.out)))) rfl
end Go.Proofs.YtgpobhnonjdamaaDoor
