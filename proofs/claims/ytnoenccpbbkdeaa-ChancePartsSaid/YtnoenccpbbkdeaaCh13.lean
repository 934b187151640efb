/- Appends of any rows onto rows of the call's own; a region that appends one literal; the laws' tells and great. Conditions: the slices read as the lists. -/
import Derived.Test.YtnoenccpbbkdeaaCh12
import Derived.Test.YtnoenccpbbkdeaaCh8
import Derived.Test.YtnoenccpbbkdeaaGF
namespace Go.Proofs.Ytnoenccpbbkdeaa
open Go.ChangeShapes Go.WideShapes Go.ChangeAt Go.RowKit Go.Shelf
open Wh (Cr)
open Ch

/-! ### appends -/
/-- v reads as the cells ys -/
def Flat (W : World) (v : Value) (m : Nat) (ys : List Value) : Prop := (v = .slice none 0 0 ∧ ys = [] ∧ m = 0) ∨ ∃ ad cap, v = .slice (some ad) m cap ∧ ∀ j u, ys[j]? = some u → W.cell? (ad.add j) = some u
theorem RowN.flat {k : Nat} {S : Nat → Prop} {W : World} {v : Value} {rows : List (List Value)} (h : RowN k S W v rows) (hk : ∀ x ∈ rows, x.length = k) : Flat W v rows.length rows.flatten := by
  rcases h with ⟨rfl, rfl⟩ | ⟨a, cap, rfl, _, hc⟩
  · exact .inl ⟨rfl, rfl, rfl⟩
  · refine .inr ⟨a, cap, rfl, fun j u hj => ?_⟩
    obtain ⟨i, x, j', h1, h2, rfl⟩ := flat_invW k rows hk j u hj
    exact hc i x h1 j' u h2
theorem Row.flat {S : Nat → Prop} {W : World} {v : Value} {xs : List Value} (h : Row S W v xs) : Flat W v xs.length xs := by
  rcases h with ⟨rfl, rfl⟩ | ⟨a, cap, rfl, _, hc⟩
  · exact .inl ⟨rfl, rfl, rfl⟩
  · exact .inr ⟨a, cap, rfl, hc⟩
theorem Blk.flat1 {W : World} {g : Nat} {t : TypeId} {cs : Array Value} (h : Blk W g t cs) : Flat W (.slice (some ⟨g, 0, none⟩) 1 1) 1 cs.toList :=
  .inr ⟨_, _, rfl, fun j u hj => h.lies j u (by simpa using hj)⟩
theorem app_gen {P : Program} {T E : TypeId} {size bytes : Nat} (hE : Elm P T E size bytes) {w : World} {base n m : Nat} {v v2 : Value} {xs ys : List Value} (hO : w.ownsRow base E size v n xs) (hR : Flat w v2 m ys) (hys : ys.length = m * size) (h1 : ∀ u ∈ ys, u.oneCell' = true) (hb : base ≤ w.heap.size) (hlen : n + m ≤ 4194304) (ty : TypeId) :
    ∃ v' w', (Builtin.append_ #[T, T] ty #[v, v2]).run P w = .ok v' w' ∧ w'.ownsRow base E size v' (n + m) (xs ++ ys) ∧ Below base w w' := by
  obtain ⟨z, hi0, hzc⟩ := hE.info
  obtain ⟨i0, hi, hz0, hz1, hz2⟩ := info_agg hi0
  rcases hR with ⟨rfl, rfl, rfl⟩ | ⟨ad, cap, rfl, hc⟩
  · rw [List.append_nil]
    exact ⟨_, w, run_append_owned_none w base T ty E i0 size hE.und hi _ _ _ hO, hO, Below.refl _ _⟩
  · have hsm := hE.small
    obtain ⟨v', w', hr, h2, h3, _, _⟩ := run_append_own_at (P := P) w base T ty E i0 z size bytes hE.und hi hz0 hz1 hz2 hzc hE.pos v n xs hO ad m cap ys hys hc h1 (by unfold maxLen; omega) (Nat.le_trans (Nat.mul_le_mul hlen hsm) (by omega)) hb
    refine ⟨v', w', hr, h2, below_grew h3 hb fun g hg => ?_⟩
    rcases hO.2 with ⟨rfl, _⟩ | ⟨g', cap', cur, rfl, hb', _⟩
    · simp [Value.ownBlock] at hg
    · have e : g' = g := by simpa [Value.ownBlock] using hg
      omega
section
variable {P : Program} {ops : Array Oper} {Q : Exit → Act → World → Prop} {a : Act} {w : World} {rest : List Oper} {o : Oper}
theorem run_op_app {T : TypeId} {v v2 v' : Value} {w' : World} (s x : Operand) (ho : o.op = .call { callee := .builtin .append, args := #[s, x], argTypes := #[T, T] }) (hs : a.eval s = v) (hx : a.eval x = v2) (h1 : (Builtin.append_ #[T, T] o.type #[v, v2]).run P w = .ok v' w') :
    (execOp a.eval o).run P w = .ok (.value v') w' := by
  unfold execOp
  simp only [ho, resolve, invoke, builtin, Sem.run_bind, Sem.run_pure, Result.andThen_ok, List.map_toArray, List.map_cons, List.map_nil, hs, hx, h1]
/-- out = append(v, v2...) -/
theorem wpList_app {T E : TypeId} {size bytes : Nat} (hE : Elm P T E size bytes) (hg : o.guard = none) (s x : Operand) (ho : o.op = .call { callee := .builtin .append, args := #[s, x], argTypes := #[T, T] }) (v v2 : Value) (hs : a.eval s = v) (hx : a.eval x = v2)
    (base n m : Nat) (xs ys : List Value) (hO : w.ownsRow base E size v n xs) (hR : Flat w v2 m ys) (hys : ys.length = m * size) (h1 : ∀ u ∈ ys, u.oneCell' = true) (hb : base ≤ w.heap.size) (hlen : n + m ≤ 4194304)
    (h : ∀ v' w', w'.ownsRow base E size v' (n + m) (xs ++ ys) → Below base w w' → wpList P ops Q rest (a.put o.dst v') w') : wpList P ops Q (o :: rest) a w := by
  obtain ⟨v', w', hr, h2, h3⟩ := app_gen hE hO hR hys h1 hb hlen o.type
  exact wpList_valIf (wanted_none hg _) _ rfl v' w' (run_op_app s x ho hs hx hr) (h v' w' h2 h3)
end

/-! ### a region of values, one literal, one append of it, one assignment -/
structure JG (w wr : World) (vals : Nat → Value) (q : Nat) (Lp Op : Value → World → Prop) (listed : Nat → Bool) (us : Nat → Value) (W : World) : Prop where
  bel : Below w.heap.size w W
  pre : listed (q + 1) = false → Below wr.heap.size wr W
  val : ∀ j, j < q → listed j = true → us j = vals j
  row : listed q = true → listed (q + 1) = false → Lp (us q) W
  own : listed (q + 1) = true → Op (us (q + 1)) W
  fin : listed (q + 2) = true → us (q + 2) = us (q + 1)
section
variable {w wr W W' : World} {vals : Nat → Value} {q : Nat} {Lp Op : Value → World → Prop} {listed : Nat → Bool} {us : Nat → Value}
theorem JG.start (bel : Below w.heap.size w wr) : JG w wr vals q Lp Op (fun _ => false) (fun _ => undef) wr.drew :=
  ⟨below_drewN bel 1, fun _ => below_drewN (Below.refl _ _) 1, fun _ _ h => (by cases h), fun h => (by cases h), fun h => (by cases h), fun h => (by cases h)⟩
theorem JG.rd (h : JG w wr vals q Lp Op listed us W) (i : Nat) (hi : i < q) : JG w wr vals q Lp Op (updB listed i) (updU us i (vals i)) W := by
  refine ⟨h.bel, fun e => ?_, fun j hj e => ?_, fun e e2 => ?_, fun e => ?_, fun e => ?_⟩
  · rw [updB_ne _ (by omega)] at e; exact h.pre e
  · by_cases ej : j = i
    · subst ej; rw [updU_eq]
    · rw [updB_ne _ ej] at e; rw [updU_ne _ _ ej]; exact h.val j hj e
  · rw [updB_ne _ (by omega)] at e e2; rw [updU_ne _ _ (by omega)]; exact h.row e e2
  · rw [updB_ne _ (by omega)] at e; rw [updU_ne _ _ (by omega)]; exact h.own e
  · rw [updB_ne _ (by omega)] at e; rw [updU_ne _ _ (by omega), updU_ne _ _ (by omega)]; exact h.fin e
theorem JG.lit (h : JG w wr vals q Lp Op listed us W) (h1 : listed (q + 1) = false) (h2 : listed (q + 2) = false) (b : Below W.heap.size W W') {u : Value} (hu : Lp u W') : JG w wr vals q Lp Op (updB listed q) (updU us q u) W' := by
  refine ⟨h.bel.trans (b.mono h.bel.size), fun e => (h.pre h1).trans (b.mono (h.pre h1).size), fun j hj e => ?_, fun _ _ => ?_, fun e => ?_, fun e => ?_⟩
  · rw [updB_ne _ (by omega)] at e; rw [updU_ne _ _ (by omega)]; exact h.val j hj e
  · rw [updU_eq]; exact hu
  · rw [updB_ne _ (by omega), h1] at e; cases e
  · rw [updB_ne _ (by omega), h2] at e; cases e
theorem JG.app (h : JG w wr vals q Lp Op listed us W) (h16 : listed (q + 2) = false) (b : Below w.heap.size W W') {u : Value} (hu : Op u W') : JG w wr vals q Lp Op (updB listed (q + 1)) (updU us (q + 1) u) W' := by
  refine ⟨h.bel.trans b, fun e => ?_, fun j hj e => ?_, fun _ e => ?_, fun _ => ?_, fun e => ?_⟩
  · rw [updB_eq] at e; cases e
  · rw [updB_ne _ (by omega)] at e; rw [updU_ne _ _ (by omega)]; exact h.val j hj e
  · rw [updB_eq] at e; cases e
  · rw [updU_eq]; exact hu
  · rw [updB_ne _ (by omega), h16] at e; cases e
theorem JG.last (h : JG w wr vals q Lp Op listed us W) : JG w wr vals q Lp Op (updB listed (q + 2)) (updU us (q + 2) (us (q + 1))) W := by
  refine ⟨h.bel, fun e => ?_, fun j hj e => ?_, fun e e2 => ?_, fun e => ?_, fun _ => ?_⟩
  · rw [updB_ne _ (by omega)] at e; exact h.pre e
  · rw [updB_ne _ (by omega)] at e; rw [updU_ne _ _ (by omega)]; exact h.val j hj e
  · rw [updB_ne _ (by omega)] at e e2; rw [updU_ne _ _ (by omega)]; exact h.row e e2
  · rw [updB_ne _ (by omega)] at e; rw [updU_ne _ _ (by omega)]; exact h.own e
  · rw [updU_eq, updU_ne _ _ (by omega)]
end

/-! ### tells -/
def mkC (r k : Int) : Cr := ⟨r, 0, 0, 0, k⟩
def mkL (rn kn : List Int) : List Cr := List.zipWith mkC rn kn
theorem mkL_at {rn kn : List Int} {i : Nat} {r k : Int} (h1 : rn[i]? = some r) (h2 : kn[i]? = some k) : (mkL rn kn)[i]? = some (mkC r k) := by
  unfold mkL
  rw [List.getElem?_zipWith, h1, h2]
def ownC (base : Nat) (W : World) (u : Value) (l : List Cr) : Prop := W.ownsRow base 39 5 u l.length (flatC l)
theorem ownC.row {base : Nat} {W : World} {u : Value} {l : List Cr} (h : ownC base W u l) : RwC W u l := own_rwC h rfl
/-- what an operation of the call of Chances hands back -/
def phiT (v9 : Value) (s : Sty) (n : Nat) (wl : List Int) (i : Nat) (u : Value) (W : World) : Prop := match i with
  | 0 => u = v9
  | 1 => u = .agg s.cells
  | 2 => Ss W u [s]
  | 3 => u = v9
  | 4 => u = .int .i64 (n : Int)
  | 5 => RI W u (List.replicate n 0)
  | 6 => ∃ G, u = .tuple #[.slice (some ⟨G, 0, none⟩) n n, .int .i64 0] ∧ R8 W (.slice (some ⟨G, 0, none⟩) n n) wl
  | 7 => ∃ G, u = .tuple #[.slice (some ⟨G, 0, none⟩) n n, .int .i64 0] ∧ R8 W (.slice (some ⟨G, 0, none⟩) n n) wl
  | 8 => ∃ G, u = .slice (some ⟨G, 0, none⟩) n n ∧ R8 W (.slice (some ⟨G, 0, none⟩) n n) wl
  | 9 => u = .int .i64 0
  | 10 => ∃ G, u = .slice (some ⟨G, 0, none⟩) n n ∧ R8 W (.slice (some ⟨G, 0, none⟩) n n) wl
  | 11 => u = .int .i64 0
  | _ => True
theorem phiT.below {v9 : Value} {s : Sty} {n : Nat} {wl : List Int} {i : Nat} {u : Value} {W W' : World} (h : phiT v9 s n wl i u W) (b : Below W.heap.size W W') : phiT v9 s n wl i u W' := by
  unfold phiT at h ⊢
  split at h
  all_goals first
    | exact h
    | exact Ss.below h b
    | exact Row.below h b
    | (obtain ⟨G, h1, h2⟩ := h; exact ⟨G, h1, Row.below h2 b⟩)
theorem ss_lit (s : Sty) (w : World) : Ss (w.alloc (.cells s.cells 36)) (.slice (some ⟨w.heap.size, 0, none⟩) 1 1) [s] := by
  have B := Blk.new w 36 s.cells
  refine .inr ⟨⟨w.heap.size, 0, none⟩, 1, rfl, .inr ⟨B.lt, id⟩, fun i x hx j u hj => ?_⟩
  have hi : i = 0 := by
    have := (List.getElem?_eq_some_iff.1 hx).1
    simp at this
    exact this
  subst hi
  simp at hx
  subst hx
  rw [Nat.zero_mul, Nat.zero_add]
  exact B.lies j u (by simpa using hj)
theorem ri_zeros (n : Nat) (w : World) : RI (w.alloc (.cells (rowV n (fun _ => .int .i64 0)) 3)) (.slice (some ⟨w.heap.size, 0, none⟩) n n) (List.replicate n 0) := by
  refine row_of_blk (Blk.new w 3 _) (by rw [r64_len, List.length_replicate]) fun j x hx => ?_
  unfold r64 at hx
  rw [List.map_replicate, List.getElem?_replicate] at hx
  split at hx
  · injection hx
  · cases hx
theorem chA_one (c : Cr) : ∀ u ∈ (chA c).toList, u.oneCell' = true := fun u hu => (Array.all_eq_true_iff_forall_mem.1 (oneC c)) u (by simpa using hu)

set_option maxRecDepth 100000 in
set_option maxHeartbeats 8000000 in
theorem tells_any (rn kn : List Int) (s : Sty) (wl : List Int) (v1 v2 v4 : Value) (w : World) (h1 : Row (fun _ => False) w v1 (rn.map (Value.int .i32))) (h2 : R8 w v2 kn) (h4 : R8 w v4 wl) (hn : rn.length = kn.length) (hn2 : rn.length ≤ 1000)
    (hm : mayC (mkL rn kn) 1 (List.replicate rn.length 0) = true) (hc : chn [s] z0 (mkL rn kn) (List.replicate rn.length 0) = wl) :
    Calls Try.prog 18 #[v1, v2, .agg s.cells, v4] w fun e w' => e = .returned (.bool true) ∧ Below w.heap.size w w' := by
  have H1 := Lib.hid h1
  have H2 := Lib.hid h2
  have H4 := Lib.hid h4
  obtain ⟨A1, c1, rfl⟩ := h1.form
  obtain ⟨A2, c2, rfl⟩ := h2.form
  have hml : (mkL rn kn).length = rn.length := by unfold mkL; rw [List.length_zipWith]; omega
  have hwl : wl.length = rn.length := by rw [← hc, chn_len _ _ _ _ (by rw [hml, List.length_replicate]), hml]
  have CK : Hid (∀ v9 vs vr W, RwC W v9 (mkL rn kn) → Ss W vs [s] → RI W vr (List.replicate rn.length 0) → Calls Try.prog 10 #[v9, vs, vr] W fun e w' => ∃ G, e = .returned (.tuple #[.slice (some ⟨G, 0, none⟩) rn.length rn.length, .int .i64 0]) ∧ R8 w' (.slice (some ⟨G, 0, none⟩) rn.length rn.length) wl ∧ Below W.heap.size W w') := Lib.hid fun v9 vs vr W k1 k2 k3 =>
    (chances_ok [s] (mkL rn kn) (List.replicate rn.length 0) v9 vs vr W k1 k2 k3 (by omega) hm).mono fun e w' ⟨G, q1, _, q3, q4⟩ => ⟨G, by rw [q1, hml], by rw [hml] at q3; rw [← hc]; exact q3, q4⟩
  obtain ⟨n, hnn⟩ : ∃ n, rn.length = n := ⟨_, rfl⟩
  have HN := Lib.hid hnn
  have HN2 : Hid (kn.length = n) := Lib.hid (by rw [← hn, hnn])
  have HML : Hid ((mkL rn kn).length = n) := Lib.hid (hml.trans hnn)
  have HWL : Hid (wl.length = n) := Lib.hid (hwl.trans hnn)
  rw [hnn] at CK hn2
  rw [List.length_map, hnn] at H1 ⊢
  rw [r8_len, HN2.out] at H2 ⊢
  have hmk : ∀ W : World, _ := fun W => make_one (P := Try.prog) 24 3 (.int .i64 0) 8 Try.underlying24 (by kernel_rfl) (by decide) rfl n (by omega) W
  have HMK := Lib.hid hmk
  clear h1 h2 h4 hn hm hc hml hwl hnn hmk
  go_enter Try.func18, Try.ntmps18
  go_wp2_with (refine bxSV rfl (.tmp 2) rfl s rfl ?_; intro w1 b1 B1; refine Mk.out ?_)
  constructor
  have HB1 := Lib.hid B1
  go_wp2_with fail
  have hO0 : ownC w1.heap.size w1 (.slice none 0 0) ((mkL rn kn).take 0) := ⟨rfl, .inl ⟨rfl, rfl⟩⟩
  go_loopg [9, 10] n (fun kx s9 s10 wr => ∃ (k : Nat) (v9 : Value), v9 = s9 ∧ s10 = .int .i64 k ∧ k ≤ n ∧ kx = n - k ∧ Below w1.heap.size w1 wr ∧ ownC w1.heap.size wr v9 ((mkL rn kn).take k))
  case atStart => exact ⟨0, _, rfl, rfl, Nat.zero_le _, by first | rfl | omega, Below.refl _ _, hO0⟩
  case round =>
    have HB01 := Lib.hid b1
    clear hO0 b1 B1
    obtain ⟨k, v9, rfl, rfl, hk, rfl, bel, hO⟩ := hrel
    by_cases hkn : k < n
    · obtain ⟨r, hr⟩ := at_ (l := rn) (k := k) (by rw [HN.out]; exact hkn)
      obtain ⟨kd, hkd⟩ := at_ (l := kn) (k := k) (by rw [HN2.out]; exact hkn)
      have hx := mkL_at hr hkd
      obtain ⟨a1, cp1, hv1, hab1, _, hcell1⟩ := H1.out.at_ (by rw [List.length_map, HN.out]; omega)
      obtain rfl : A1 = some a1 := by injection hv1
      obtain ⟨a2, cp2, hv2, hab2, _, hcell2⟩ := H2.out.at_ (by rw [r8_len, HN2.out]; omega)
      obtain rfl : A2 = some a2 := by injection hv2
      have CC : Hid (∀ W, Below w1.heap.size w1 W → W.cell? (a1.add k) = some (.int .i32 r) ∧ W.cell? (a2.add k) = some (.int .u8 kd)) := Lib.hid fun W b0 => by
        have b := HB01.out.trans (b0.mono HB01.out.size)
        exact ⟨(b.cell (p := a1.add k) (by rw [block_of_add]; exact hab1)).trans (hcell1 k _ (by rw [List.getElem?_map, hr]; rfl)), (b.cell (p := a2.add k) (by rw [block_of_add]; exact hab2)).trans (hcell2 k _ (r8_at hkd))⟩
      have hll : ((mkL rn kn).take k).length = k := by rw [List.length_take, HML.out]; omega
      have hsu : (mkL rn kn).take (k + 1) = (mkL rn kn).take k ++ [mkC r kd] := by rw [List.take_add_one, hx]; rfl
      obtain ⟨LL, hLL⟩ : ∃ L, (mkL rn kn).take k = L := ⟨_, rfl⟩
      rw [hLL] at hO hll hsu
      have HSU := Lib.hid hsu
      have HO := Lib.hid hO
      have hkz : (k : Int) < n := by omega
      clear hr hkd hx hv1 hv2 hcell1 hcell2 hLL hsu hO hab1 hab2
      go_wp2_with fail
      refine region_JL (by kernel_rfl) (JG w1 wr (fun j => ([v9, .slice (some a1) n c1, .int .i64 (k : Int), .pointer (some (a1.add k)), .int .i32 r, .slice (some a2) n c2, .int .i64 (k : Int), .pointer (some (a2.add k)), .int .u8 kd, .agg (chA (mkC r kd))] : List Value).getD j undef) 10 (fun u W => ∃ g, u = .slice (some ⟨g, 0, none⟩) 1 1 ∧ Blk W g 39 (chA (mkC r kd))) (fun u W => ownC w1.heap.size W u (LL ++ [mkC r kd])))
        12 (by rfl) (by kernel_rfl) (JG.start bel) (by kernel_rfl) (by kernel_rfl) (by kernel_rfl) (by kernel_rfl) ?stepT ?doneT
      case stepT =>
        intro listed us W hJ i2 o2 ho hun hw hcl
        obtain ⟨q1, q2⟩ := CC.out W hJ.bel
        have V : ∀ j, j < 10 → waits _ i2 j = true → us j = _ := fun j hj h => hJ.val j hj (hw j h)
        simp only [List.take_succ_cons, List.take_zero, putAll, Act.put, List.setIfInBounds_toArray, List.set_cons_zero, List.set_cons_succ]
        match i2, ho with
        | 0, ho =>
          simp only [List.getElem?_toArray, List.getElem?_cons_zero, Option.some.injEq] at ho
          subst ho
          exact StepJ.rd rfl (v9) (by go_simp) (hJ.rd 0 (by omega))
        | 1, ho =>
          simp only [List.getElem?_toArray, List.getElem?_cons_zero, List.getElem?_cons_succ, Option.some.injEq] at ho
          subst ho
          exact StepJ.rd rfl (.slice (some a1) n c1) (by go_simp) (hJ.rd 1 (by omega))
        | 2, ho =>
          simp only [List.getElem?_toArray, List.getElem?_cons_zero, List.getElem?_cons_succ, Option.some.injEq] at ho
          subst ho
          exact StepJ.rd rfl (.int .i64 (k : Int)) (by go_simp) (hJ.rd 2 (by omega))
        | 3, ho =>
          simp only [List.getElem?_toArray, List.getElem?_cons_zero, List.getElem?_cons_succ, Option.some.injEq] at ho
          subst ho
          have h1 : us 1 = .slice (some a1) n c1 := V 1 (by omega) (by kernel_rfl)
          have h2 : us 2 = .int .i64 (k : Int) := V 2 (by omega) (by kernel_rfl)
          rw [h1, h2]
          exact StepJ.rd rfl (.pointer (some (a1.add k))) (by go_simp) (hJ.rd 3 (by omega))
        | 4, ho =>
          simp only [List.getElem?_toArray, List.getElem?_cons_zero, List.getElem?_cons_succ, Option.some.injEq] at ho
          subst ho
          have h3 : us 3 = .pointer (some (a1.add k)) := V 3 (by omega) (by kernel_rfl)
          rw [h3]
          exact StepJ.rd rfl (.int .i32 r) (by go_simp) (hJ.rd 4 (by omega))
        | 5, ho =>
          simp only [List.getElem?_toArray, List.getElem?_cons_zero, List.getElem?_cons_succ, Option.some.injEq] at ho
          subst ho
          exact StepJ.rd rfl (.slice (some a2) n c2) (by go_simp) (hJ.rd 5 (by omega))
        | 6, ho =>
          simp only [List.getElem?_toArray, List.getElem?_cons_zero, List.getElem?_cons_succ, Option.some.injEq] at ho
          subst ho
          exact StepJ.rd rfl (.int .i64 (k : Int)) (by go_simp) (hJ.rd 6 (by omega))
        | 7, ho =>
          simp only [List.getElem?_toArray, List.getElem?_cons_zero, List.getElem?_cons_succ, Option.some.injEq] at ho
          subst ho
          have h5 : us 5 = .slice (some a2) n c2 := V 5 (by omega) (by kernel_rfl)
          have h6 : us 6 = .int .i64 (k : Int) := V 6 (by omega) (by kernel_rfl)
          rw [h5, h6]
          exact StepJ.rd rfl (.pointer (some (a2.add k))) (by go_simp) (hJ.rd 7 (by omega))
        | 8, ho =>
          simp only [List.getElem?_toArray, List.getElem?_cons_zero, List.getElem?_cons_succ, Option.some.injEq] at ho
          subst ho
          have h7 : us 7 = .pointer (some (a2.add k)) := V 7 (by omega) (by kernel_rfl)
          rw [h7]
          exact StepJ.rd rfl (.int .u8 kd) (by go_simp) (hJ.rd 8 (by omega))
        | 9, ho =>
          simp only [List.getElem?_toArray, List.getElem?_cons_zero, List.getElem?_cons_succ, Option.some.injEq] at ho
          subst ho
          have h4 : us 4 = .int .i32 r := V 4 (by omega) (by kernel_rfl)
          have h8 : us 8 = .int .u8 kd := V 8 (by omega) (by kernel_rfl)
          rw [h4, h8]
          exact StepJ.rd rfl (.agg (chA (mkC r kd))) (by kernel_rfl) (hJ.rd 9 (by omega))
        | 10, ho =>
          simp only [List.getElem?_toArray, List.getElem?_cons_zero, List.getElem?_cons_succ, Option.some.injEq] at ho
          subst ho
          have h9 : us 9 = .agg (chA (mkC r kd)) := V 9 (by omega) (by kernel_rfl)
          rw [h9]
          have u11 : listed 11 = false := by
            cases e : listed 11 with
            | false => rfl
            | true => have := hcl 11 10 e (by kernel_rfl); rw [this] at hun; cases hun
          have u12 : listed 12 = false := by
            cases e : listed 12 with
            | false => rfl
            | true => have := hcl 12 10 e (by kernel_rfl); rw [this] at hun; cases hun
          exact .inl ⟨wanted_none rfl _, .inl ⟨.slice (some ⟨W.heap.size, 0, none⟩) 1 1, W.alloc (.cells (chA (mkC r kd)) 39), (by kernel_rfl), hJ.lit u11 u12 (below_alloc _ _) ⟨_, rfl, Blk.new _ _ _⟩⟩⟩
        | 11, ho =>
          simp only [List.getElem?_toArray, List.getElem?_cons_zero, List.getElem?_cons_succ, Option.some.injEq] at ho
          subst ho
          have u12 : listed 12 = false := by
            cases e : listed 12 with
            | false => rfl
            | true => have := hcl 12 11 e (by kernel_rfl); rw [this] at hun; cases hun
          have h0 : us 0 = v9 := V 0 (by omega) (by kernel_rfl)
          obtain ⟨g, h10, hg⟩ := hJ.row (hw 10 (by kernel_rfl)) hun
          rw [h0, h10]
          have hOW : ownC w1.heap.size W v9 LL := own_below HO.out (hJ.pre hun)
          obtain ⟨u, W2, hr2, hO2, b2⟩ := app_gen (P := Try.prog) elmC hOW hg.flat1 (by simp [chA]) (chA_one _) hJ.bel.size (by omega) 22
          refine .inl ⟨wanted_none rfl _, .inl ⟨u, W2, run_op_app (.tmp 19) (.tmp 29) rfl rfl rfl hr2, hJ.app u12 b2 ?_⟩⟩
          unfold ownC
          rw [List.length_append, flatC_snoc]
          exact hO2
        | 12, ho =>
          simp only [List.getElem?_toArray, List.getElem?_cons_zero, List.getElem?_cons_succ, Option.some.injEq] at ho
          subst ho
          exact StepJ.rd rfl (us 11) (by go_simp) hJ.last
        | n + 13, ho => simp at ho
      case doneT =>
        intro listed us W hl hJ
        have e12 := hJ.fin (hl 12 (by decide))
        have hO2 := hJ.own (hl 11 (by decide))
        rw [← e12, ← HSU.out] at hO2
        have hB2 := hJ.bel
        simp only [putAll, Act.put, List.setIfInBounds_toArray, List.set_cons_zero, List.set_cons_succ]
        generalize us 12 = v10 at hO2 ⊢
        clear hJ CC HO e12
        go_wp2_with fail
        go_roundg (n - (k + 1))
        case measure => omega
        case rel => exact ⟨k + 1, v10, rfl, by go_num, by omega, by first | rfl | trivial, hB2, hO2⟩
    · obtain rfl : k = n := by omega
      have hrow := hO.row
      rw [List.take_of_length_le (by rw [HML.out]; omega)] at hrow
      have HRW := Lib.hid hrow
      obtain ⟨A9, c9, rfl⟩ := hrow.form
      rw [HML.out] at HRW hO ⊢
      have HBL := Lib.hid bel
      clear hrow hO bel
      go_wp2_with fail
      refine region_P2 (by kernel_rfl) (fun W => Below wr.heap.size wr W) (fun _ _ h b => below_seq h b) (phiT (.slice A9 k c9) s k wl) (fun _ _ _ _ h b => phiT.below h b) (below_drewN (Below.refl _ _) 1) (by kernel_rfl) (by kernel_rfl) (by kernel_rfl) (by kernel_rfl) ?stepC ?doneC
      case stepC =>
        intro us W hSW i2 o2 ho hD
        have hB2 := (HB1.out.keep (S := fun _ => False) (Mod.of_below HBL.out) id).keep (S := fun _ => False) (Mod.of_below hSW) id
        simp only [putAll, Act.put, List.setIfInBounds_toArray, List.set_cons_zero, List.set_cons_succ]
        match i2, ho with
        | 0, ho =>
          simp only [List.getElem?_toArray, List.getElem?_cons_zero, Option.some.injEq] at ho
          subst ho
          exact .inl ⟨wanted_none rfl _, .inl ⟨.slice A9 k c9, W, (by go_simp), Below.refl _ _, rfl⟩⟩
        | 1, ho =>
          simp only [List.getElem?_toArray, List.getElem?_cons_zero, List.getElem?_cons_succ, Option.some.injEq] at ho
          subst ho
          exact .inl ⟨wanted_none rfl _, .inl ⟨_, W, rdS (.tmp 6) rfl _ rfl s hB2.lies, Below.refl _ _, rfl⟩⟩
        | 2, ho =>
          simp only [List.getElem?_toArray, List.getElem?_cons_zero, List.getElem?_cons_succ, Option.some.injEq] at ho
          subst ho
          have h1 : us 1 = .agg s.cells := hD 1 (by kernel_rfl)
          rw [h1]
          exact .inl ⟨wanted_none rfl _, .inl ⟨.slice (some ⟨W.heap.size, 0, none⟩) 1 1, W.alloc (.cells s.cells 36), (by kernel_rfl), below_alloc _ _, ss_lit s W⟩⟩
        | 3, ho =>
          simp only [List.getElem?_toArray, List.getElem?_cons_zero, List.getElem?_cons_succ, Option.some.injEq] at ho
          subst ho
          exact .inl ⟨wanted_none rfl _, .inl ⟨.slice A9 k c9, W, (by go_simp), Below.refl _ _, rfl⟩⟩
        | 4, ho =>
          simp only [List.getElem?_toArray, List.getElem?_cons_zero, List.getElem?_cons_succ, Option.some.injEq] at ho
          subst ho
          have h3 : us 3 = .slice A9 k c9 := hD 3 (by kernel_rfl)
          rw [h3]
          exact .inl ⟨wanted_none rfl _, .inl ⟨.int .i64 (k : Int), W, (by go_simp), Below.refl _ _, rfl⟩⟩
        | 5, ho =>
          simp only [List.getElem?_toArray, List.getElem?_cons_zero, List.getElem?_cons_succ, Option.some.injEq] at ho
          subst ho
          have h4 : us 4 = .int .i64 (k : Int) := hD 4 (by kernel_rfl)
          rw [h4]
          have hmk := HMK.out W
          exact .inl ⟨wanted_none rfl _, .inl ⟨_, _, (by go_simp), below_alloc _ _, ri_zeros k W⟩⟩
        | 6, ho =>
          simp only [List.getElem?_toArray, List.getElem?_cons_zero, List.getElem?_cons_succ, Option.some.injEq] at ho
          subst ho
          have h0 : us 0 = .slice A9 k c9 := hD 0 (by kernel_rfl)
          have h2 : Ss W (us 2) [s] := hD 2 (by kernel_rfl)
          have h5 : RI W (us 5) (List.replicate k 0) := hD 5 (by kernel_rfl)
          rw [h0]
          generalize us 2 = x2 at h2 ⊢
          generalize us 5 = x5 at h5 ⊢
          refine .inl ⟨wanted_none rfl _, .inr ⟨_, _, (by go_simp), (CK.out _ x2 x5 W (HRW.out.below hSW) h2 h5).mono ?_⟩⟩
          rintro e W' ⟨G, rfl, hG, b⟩
          exact ⟨_, rfl, b, G, rfl, hG⟩
        | 7, ho =>
          simp only [List.getElem?_toArray, List.getElem?_cons_zero, List.getElem?_cons_succ, Option.some.injEq] at ho
          subst ho
          obtain ⟨G, h6, hG⟩ : ∃ G, us 6 = .tuple #[.slice (some ⟨G, 0, none⟩) k k, .int .i64 0] ∧ R8 W (.slice (some ⟨G, 0, none⟩) k k) wl := hD 6 (by kernel_rfl)
          rw [h6]
          exact .inl ⟨wanted_none rfl _, .inl ⟨_, W, (by go_simp), Below.refl _ _, G, rfl, hG⟩⟩
        | 8, ho =>
          simp only [List.getElem?_toArray, List.getElem?_cons_zero, List.getElem?_cons_succ, Option.some.injEq] at ho
          subst ho
          obtain ⟨G, h7, hG⟩ : ∃ G, us 7 = .tuple #[.slice (some ⟨G, 0, none⟩) k k, .int .i64 0] ∧ R8 W (.slice (some ⟨G, 0, none⟩) k k) wl := hD 7 (by kernel_rfl)
          rw [h7]
          exact .inl ⟨wanted_none rfl _, .inl ⟨_, W, (by go_simp), Below.refl _ _, G, rfl, hG⟩⟩
        | 9, ho =>
          simp only [List.getElem?_toArray, List.getElem?_cons_zero, List.getElem?_cons_succ, Option.some.injEq] at ho
          subst ho
          obtain ⟨G, h7, hG⟩ : ∃ G, us 7 = .tuple #[.slice (some ⟨G, 0, none⟩) k k, .int .i64 0] ∧ R8 W (.slice (some ⟨G, 0, none⟩) k k) wl := hD 7 (by kernel_rfl)
          rw [h7]
          exact .inl ⟨wanted_none rfl _, .inl ⟨.int .i64 0, W, (by go_simp), Below.refl _ _, rfl⟩⟩
        | 10, ho =>
          simp only [List.getElem?_toArray, List.getElem?_cons_zero, List.getElem?_cons_succ, Option.some.injEq] at ho
          subst ho
          obtain ⟨G, h8, hG⟩ : ∃ G, us 8 = .slice (some ⟨G, 0, none⟩) k k ∧ R8 W (.slice (some ⟨G, 0, none⟩) k k) wl := hD 8 (by kernel_rfl)
          rw [h8]
          exact .inl ⟨wanted_none rfl _, .inl ⟨_, W, (by go_simp), Below.refl _ _, G, rfl, hG⟩⟩
        | 11, ho =>
          simp only [List.getElem?_toArray, List.getElem?_cons_zero, List.getElem?_cons_succ, Option.some.injEq] at ho
          subst ho
          have h9 : us 9 = .int .i64 0 := hD 9 (by kernel_rfl)
          rw [h9]
          exact .inl ⟨wanted_none rfl _, .inl ⟨.int .i64 0, W, (by go_simp), Below.refl _ _, rfl⟩⟩
        | n + 12, ho => simp at ho
      case doneC =>
        intro us W hSW hD
        obtain ⟨G, h10, hG⟩ : ∃ G, us 10 = .slice (some ⟨G, 0, none⟩) k k ∧ R8 W (.slice (some ⟨G, 0, none⟩) k k) wl := hD 10 (by decide)
        have h11 : us 11 = .int .i64 0 := hD 11 (by decide)
        simp only [putAll, Act.put, List.setIfInBounds_toArray, List.set_cons_zero, List.set_cons_succ]
        rw [h10, h11]
        have b3 := HB01.out.trans ((HBL.out.trans (hSW.mono HBL.out.size)).mono HB01.out.size)
        have CS := Lib.hid (rsame10 wl _ v4 W hG (H4.out.below b3) (by rw [HWL.out]; omega))
        clear hG hD h10 h11
        go_wp2_with fail
        refine CS.out.mono ?_
        rintro e W2 ⟨rfl, b4⟩
        go_wp2_with fail
        go_ret
        exact ⟨rfl, below_seq b3 b4⟩
end Go.Proofs.Ytnoenccpbbkdeaa
