/- The walk of WhiteParts: for every two lists and every row of styles the law returns true. Conditions: the lists lie where the slices say; class's table lies in memory. -/
import Derived.Test.YtejcfhfmdijimaaDoorWhG
import Derived.Test.YtejcfhfmdijimaaDoorRegK
namespace Go.Proofs.YtejcfhfmdijimaaDoor
open Go.ChangeShapes Go.WideShapes Go.ChangeAt Go.RowKit Go.Shelf
open Wh

/-- what an operation of a region hands back: a value, a list of the call's own, one that reads, an empty literal, a pair of a list and no error -/
inductive Kd
  | val (v : Value)
  | own (l : List Cr)
  | row (l : List Cr)
  | emp
  | tup (l : List Cr)
  | any
def Kd.holds (B : Nat) : Kd → Value → World → Prop
  | .val v, u, _ => u = v
  | .own l, u, W => OwC B W u l
  | .row l, u, W => RwC W u l
  | .emp, u, W => (∃ g, u = .slice (some ⟨g, 0, none⟩) 0 0) ∧ OwC B W u []
  | .tup l, u, W => ∃ x, u = .tuple #[x, .int .i64 0] ∧ OwC B W x l
  | .any, _, _ => True
def Kd.stable : Kd → Bool
  | .val _ => true
  | .any => true
  | _ => false
theorem Kd.below {B : Nat} {k : Kd} {u : Value} {w w' : World} (h : k.holds B u w) (b : Below w.heap.size w w') : k.holds B u w' := by
  cases k with
  | val v => exact h
  | own l => exact OwC.below h b
  | row l => exact RwC.below h b
  | emp => exact ⟨h.1, OwC.below h.2 b⟩
  | tup l => obtain ⟨x, h1, h2⟩ := h; exact ⟨x, h1, h2.below b⟩
  | any => trivial
theorem Kd.keep {B : Nat} {k : Kd} {u : Value} {w w' : World} (h : k.holds B u w) (hs : k.stable = true) : k.holds B u w' := by
  cases k with
  | val v => exact h
  | any => trivial
  | own l => cases hs
  | row l => cases hs
  | emp => cases hs
  | tup l => cases hs
def killT (T : Nat → Kd) (p q i j : Nat) : Bool := (i == p || i == q) && !(j == i) && !(T j).stable
theorem killT.keep {T : Nat → Kd} {p q i j : Nat} (h : killT T p q i j = false) (hi : (i == p || i == q) = true) (hj : j ≠ i) : (T j).stable = true := by
  unfold killT at h
  rw [hi, show (j == i) = false by simpa using hj] at h
  simpa using h
theorem notK {n : Nat} {f g : Nat → Bool} (h : ((List.range n).all fun i => !(f i && g i)) = true) : ∀ i, i < n → f i = true → g i = true → False := fun i hi h1 h2 => by
  have := List.all_eq_true.1 h i (List.mem_range.2 hi)
  rw [h1, h2] at this
  cases this

section
variable {ops : Array Oper} {a : Act} {w : World} {o : Oper}
/-- append to an empty literal -/
theorem app_rows0 {base : Nat} {v v2 : Value} {m : List Cr} (hv : ∃ g, v = .slice (some ⟨g, 0, none⟩) 0 0) (hO : OwC base w v []) (hR : RwC w v2 m) (hb : base ≤ w.heap.size) (hlen : m.length ≤ 4194304) (ty : TypeId) :
    ∃ v' w', (Builtin.append_ #[22, 22] ty #[v, v2]).run Tryd.prog w = .ok v' w' ∧ OwC base w' v' m ∧ Below w.heap.size w w' := by
  obtain ⟨i0, hi, hz0, hz1, hz2⟩ := info_agg infoC
  obtain ⟨g, rfl⟩ := hv
  rcases hR with ⟨rfl, hm⟩ | ⟨ad, cap, rfl, hab, hc⟩
  · obtain rfl : m = [] := by simpa using hm
    exact ⟨_, w, run_append_owned_none w base 22 ty 38 i0 5 Tryd.underlying22 hi _ 0 [] hO, hO, Below.refl _ _⟩
  · have hR2 : RwC w (.slice (some ad) m.length cap) m := .inr ⟨ad, cap, by rw [List.length_map], hab, hc⟩
    rw [List.length_map]
    by_cases h0 : m.length = 0
    · obtain rfl := List.eq_nil_of_length_eq_zero h0
      refine ⟨.slice (some ⟨g, 0, none⟩) 0 0, w, ?_, hO, Below.refl _ _⟩
      simp [Builtin.append_, run_underlying Tryd.underlying22, sizeOf, typeInfo, hi, Builtin.lenOf, Builtin.firstCells, storeCells, loadCells, loadCellsFrom]
    · have hcap : Builtin.nextslicecap (0 + m.length) 0 = m.length := by rw [Nat.zero_add]; exact nextslicecap_zero (by omega)
      have hr := run_append_grow (P := Tryd.prog) w 22 ty 38 i0 (.agg (chA zCr)) Tryd.underlying22 hi hz0 ⟨g, 0, none⟩ 0 0 [] (by simp) (fun j v hv => by simp at hv) ad m.length cap (flatC m) (by rw [hz1]; exact flatC_len m) hR2.flat (by omega) (by omega) (by rw [hcap, hz2]; omega)
      rw [Nat.zero_add] at hr
      have BA : ∀ x, Below w.heap.size w.drew (w.drew.alloc x) := fun x => below_alloc w.drew x
      obtain ⟨cur, hcur⟩ : ∃ cur, ([] : List Value).toArray ++ (flatC m).toArray ++ Builtin.zeroCells (Value.agg (chA zCr)).cells (grownCap w m.length 0 38 - m.length) = cur := ⟨_, rfl⟩
      rw [hcur] at hr
      refine ⟨_, _, hr, ?_, (below_drewN (Below.refl _ _) 1).trans (BA _)⟩
      have hge := grownCap_ge w m.length 0 38
      have hmx := grownCap_le_maxLen w m.length 0 38 (by unfold maxLen; omega)
      refine ⟨flatC_len m, .inr ⟨w.heap.size, grownCap w m.length 0 38, cur, rfl, hb, ?_, hge, hmx, ?_, ?_⟩⟩
      · exact heap_alloc_new w.drew _
      · rw [← hcur]
        simp only [Array.size_append, List.size_toArray, flatC_len, size_zeroCells]
        rw [show (Value.agg (chA zCr)).cells.size = 5 from rfl, show ([] : List Value).length = 0 from rfl, Nat.zero_add, ← Nat.add_mul]
        congr 1
        omega
      · rw [← hcur]
        simp [flatC_len]
theorem run_op_of {v v2 v' : Value} {w' : World} (s x : Operand) (ho : o.op = .call { callee := .builtin .append, args := #[s, x], argTypes := #[22, 22] }) (hs : a.eval s = v) (hx : a.eval x = v2) (h1 : (Builtin.append_ #[22, 22] o.type #[v, v2]).run Tryd.prog w = .ok v' w') :
    (execOp a.eval o).run Tryd.prog w = .ok (.value v') w' := by
  unfold execOp
  simp only [ho, resolve, invoke, builtin, Sem.run_bind, Sem.run_pure, Result.andThen_ok, List.map_toArray, List.map_cons, List.map_nil, hs, hx, h1]
end
theorem app_mid (l m : List Cr) (c : Cr) : l ++ [c] ++ m = l ++ c :: m := by simp
theorem may_app (ss : List Sty) (l m : List Cr) : mayB ss (l ++ m) = (mayB ss l && mayB ss m) := List.all_append


theorem rowAtom (W : World) : RwC (W.alloc (.cells (chA atom) 38)) (.slice (some ⟨W.heap.size, 0, none⟩) 1 1) [atom] :=
  .inr ⟨⟨W.heap.size, 0, none⟩, 1, rfl, .inr ⟨by simp, id⟩, fun i x hx j u hj => by
    have hi : i = 0 := by
      have := (List.getElem?_eq_some_iff.1 hx).1
      simp at this
      exact this
    subst hi
    simp at hx
    subst hx
    rw [Addr.add_lit]
    simp only [Nat.zero_mul, Nat.zero_add]
    rw [World.cell?_alloc_new]
    simpa using hj⟩


/-- what each operation of the last append-and-collapse region hands back -/
def tabP (v1 v2 sv : Value) (l m C : List Cr) : Nat → Kd
  | 0 => .emp
  | 1 => .val v1
  | 2 => .own l
  | 3 => .val (.agg (chA atom))
  | 4 => .row [atom]
  | 5 => .own (l ++ [atom])
  | 6 => .val v2
  | 7 => .own (l ++ [atom] ++ m)
  | 8 => .val sv
  | 9 => .tup C
  | 10 => .tup C
  | 11 => .own C
  | 12 => .val (.int .i64 0)
  | 13 => .own C
  | 14 => .val (.int .i64 0)
  | _ => .any
def tabQ (vc va vb : Value) (A B : List Cr) : Nat → Kd
  | 0 => .val (.int .i64 0)
  | 1 => .val (.bool true)
  | 2 => .val (.bool true)
  | 3 => .val vc
  | 4 => .emp
  | 5 => .val va
  | 6 => .own A
  | 7 => .val (.agg (chA atom))
  | 8 => .row [atom]
  | 9 => .own (A ++ [atom])
  | 10 => .val vb
  | 11 => .own (A ++ [atom] ++ B)
  | 12 => .val (.bool true)
  | 13 => .val (.bool true)
  | 14 => .val (.bool true)
  | 15 => .val (.bool true)
  | 16 => .val (.bool true)
  | 17 => .val (.bool true)
  | _ => .any

set_option maxRecDepth 100000 in
set_option maxHeartbeats 16000000 in
theorem wparts_any (l m : List Cr) (v1 v2 : Value) (ss : List Sty) (sv : Value) (w : World) (hR1 : RwC w v1 l) (hR2 : RwC w v2 m) (hS : Ss w sv ss) (hT : Tab w) :
    Calls Tryd.prog 7 #[v1, v2, sv] w fun e w' => e = .returned (.bool true) ∧ Below w.heap.size w w' := by
  have HT := Lib.hid hT
  have H1 := Lib.hid hR1
  have H2 := Lib.hid hR2
  have HS := Lib.hid hS
  have HD : Hid (∀ W, Below w.heap.size w W → Calls Tryd.prog 9 #[] W fun e w' => e = .returned (.bool true) ∧ Below w.heap.size w w') := Lib.hid fun W b => (whead_any W (HT.out.below b)).mono fun e w' h => ⟨h.1, b.trans (h.2.mono b.size)⟩
  obtain ⟨A1, c1, hv1⟩ := hR1.form
  obtain ⟨A2, c2, hv2⟩ := hR2.form
  obtain ⟨A3, c3, hv3⟩ := Ss.form hS
  have G1 := Lib.hid (wgreat_any A1 A3 l.length c1 ss.length c3 w)
  have G2 := Lib.hid (wgreat_any A2 A3 m.length c2 ss.length c3 w)
  obtain ⟨g1, hg1⟩ : ∃ b, greatB l.length ss.length = b := ⟨_, rfl⟩
  obtain ⟨g2, hg2⟩ : ∃ b, greatB m.length ss.length = b := ⟨_, rfl⟩
  rw [hg1] at G1
  rw [hg2] at G2
  have HG1 := Lib.hid hg1
  have HG2 := Lib.hid hg2
  rw [← hv1, ← hv3] at G1
  rw [← hv2, ← hv3] at G2
  obtain ⟨q, hq⟩ : ∃ q, ss.length = q := ⟨_, rfl⟩
  have HQ := Lib.hid hq
  have HV3 := Lib.hid hv3
  clear hT hR1 hR2 hS hg1 hg2 hv1 hv2 hq hv3
  go_enter Tryd.func7, Tryd.ntmps7
  go_wp2_with fail
  refine G1.out.mono ?_
  rintro e w1 ⟨rfl, rfl⟩
  cases g1 with
  | true =>
    go_wp2_with fail
    refine (HD.out _ (Below.refl _ _)).mono ?_
    rintro e w1 ⟨rfl, b1⟩
    go_wp2_with fail
    go_ret
    exact ⟨rfl, b1⟩
  | false =>
  go_wp2_with fail
  refine G2.out.mono ?_
  rintro e w1 ⟨rfl, rfl⟩
  cases g2 with
  | true =>
    go_wp2_with fail
    refine (HD.out _ (Below.refl _ _)).mono ?_
    rintro e w1 ⟨rfl, b1⟩
    go_wp2_with fail
    go_ret
    exact ⟨rfl, b1⟩
  | false =>
  have hl150 : Hid (l.length ≤ 150) := Lib.hid (by have := HG1.out; unfold greatB at this; simp at this; omega)
  have hm150 : Hid (m.length ≤ 150) := Lib.hid (by have := HG2.out; unfold greatB at this; simp at this; omega)
  clear G1 G2 HG1 HG2
  by_cases hq0 : q = 0
  · subst hq0
    have hv3 := HV3.out
    rw [HQ.out] at hv3
    subst hv3
    clear HV3 HQ H1 H2 HS
    go_wp2_with fail
    refine (HD.out _ (Below.refl _ _)).mono ?_
    rintro e w1 ⟨rfl, b1⟩
    go_wp2_with fail
    go_ret
    exact ⟨rfl, b1⟩
  obtain ⟨s0, hs0⟩ : ∃ s, ss[0]? = some s := ⟨_, List.getElem?_eq_getElem (by rw [HQ.out]; omega)⟩
  obtain ⟨a3, cap3, o3, hv, _, ha3, hL3⟩ := HS.out.get (Below.refl _ _) hs0
  have hqz : ((q : Int) == 0) = false := by simpa using hq0
  have hqp : (0 : Int) < q := by omega
  have hq1 : ¬ (q : Int) ≤ 0 := by omega
  rw [HQ.out] at hv
  have HV := Lib.hid hv
  have HSE : Hid (Ss w (.slice (some a3) q cap3) ss) := Lib.hid (hv ▸ HS.out)
  have cz : w.cell? a3 = some (.int .u8 s0.a0) := by
    have := hL3 0 _ rfl
    rw [show a3 = ⟨a3.block, o3, none⟩ from (Addr.add_zero' a3).symm.trans (by have := ha3; simpa using this)]
    rwa [Addr.add_lit, Nat.add_zero] at this
  have HS0 := Lib.hid hs0
  obtain ⟨z, hz⟩ : ∃ z, s0.a0 = z := ⟨_, rfl⟩
  rw [hz] at cz
  have HZ := Lib.hid hz
  subst hv
  clear hz hs0 ha3 hL3 HV3 HS HV
  by_cases h5 : 5 < z
  · clear H1 H2
    go_wp2_with fail
    refine (HD.out _ (Below.refl _ _)).mono ?_
    rintro e w1 ⟨rfl, b1⟩
    go_wp2_with fail
    go_ret
    exact ⟨rfl, b1⟩
  have CL : Hid (∀ W, Below w.heap.size w W → Calls Tryd.prog 10 #[v1, .slice (some a3) q cap3] W (ColPost W ss l)) := Lib.hid fun W b => wcollapse_any l v1 ss _ W (H1.out.below b) (HSE.out.below b) (by have := hl150.out; omega) (HT.out.below b)
  have CM : Hid (∀ W, Below w.heap.size w W → Calls Tryd.prog 10 #[v2, .slice (some a3) q cap3] W (ColPost W ss m)) := Lib.hid fun W b => wcollapse_any m v2 ss _ W (H2.out.below b) (HSE.out.below b) (by have := hm150.out; omega) (HT.out.below b)
  go_wp2_with fail
  refine (CL.out _ (Below.refl _ _)).mono ?_
  rintro e w1 h
  rcases h with ⟨hm1, ua, rfl, OA, b1⟩ | ⟨hm1, rfl, b1⟩
  rotate_left
  · have HM := Lib.hid b1
    clear hm1 b1
    go_wp2_with fail
    refine (CM.out _ HM.out).mono ?_
    rintro e w2 h
    rcases h with ⟨hm2, ub, rfl, OB, b2⟩ | ⟨hm2, rfl, b2⟩
    · have HM2 := Lib.hid (below_seq HM.out b2)
      clear OB b2
      go_wp2_with fail
      refine (HD.out _ HM2.out).mono ?_
      rintro e w3 ⟨rfl, b3⟩
      go_wp2_with fail
      go_ret
      exact ⟨rfl, b3⟩
    · have HM2 := Lib.hid (below_seq HM.out b2)
      clear b2
      go_wp2_with fail
      refine (HD.out _ HM2.out).mono ?_
      rintro e w3 ⟨rfl, b3⟩
      go_wp2_with fail
      go_ret
      exact ⟨rfl, b3⟩
  have HM := Lib.hid b1
  have HM1 := Lib.hid hm1
  have HOA := Lib.hid OA.rw_
  clear hm1 b1 OA
  go_wp2_with fail
  refine (CM.out _ HM.out).mono ?_
  rintro e w2 h
  rcases h with ⟨hm2, ub, rfl, OB, b2⟩ | ⟨hm2, rfl, b2⟩
  rotate_left
  · have HM2 := Lib.hid (below_seq HM.out b2)
    clear b2
    go_wp2_with fail
    refine (HD.out _ HM2.out).mono ?_
    rintro e w3 ⟨rfl, b3⟩
    go_wp2_with fail
    go_ret
    exact ⟨rfl, b3⟩
  have HM2 := Lib.hid (below_seq HM.out b2)
  have HOA2 := Lib.hid (HOA.out.below b2)
  have HOB := Lib.hid OB.rw_
  have hmay : Hid (mayB ss (l ++ [atom] ++ m) = true) := Lib.hid (by
    rw [may_app, may_app, HM1.out, hm2, Bool.true_and, Bool.and_true]
    refine List.all_eq_true.2 fun c hc => ?_
    rw [List.mem_singleton] at hc
    subst hc
    refine okC_split.2 ⟨rfl, 0, s0, rfl, HS0.out, whF_at HS0.out, ?_⟩
    rw [HZ.out]; omega)
  clear hm2 b2 OB CL CM HM HOA HM1
  obtain ⟨C, hC⟩ : ∃ C, collapse (whF ss) wideB (l ++ [atom] ++ m) = C := ⟨_, rfl⟩
  obtain ⟨A, hA⟩ : ∃ C, collapse (whF ss) wideB l = C := ⟨_, rfl⟩
  obtain ⟨B, hB⟩ : ∃ C, collapse (whF ss) wideB m = C := ⟨_, rfl⟩
  have HCAB : Hid (C = A ++ [atom] ++ B) := Lib.hid (by rw [← hC, ← hA, ← hB, app_mid, app_mid, collapse_part])
  have hA150 : Hid (A.length ≤ 150) := Lib.hid (by rw [← hA]; exact Nat.le_trans (left_collapse _).len hl150.out)
  have hB150 : Hid (B.length ≤ 150) := Lib.hid (by rw [← hB]; exact Nat.le_trans (left_collapse _).len hm150.out)
  rw [hA] at HOA2
  rw [hB] at HOB
  have CC : Hid (∀ (W : World) (u : Value) (BB : Nat), BB ≤ W.heap.size → Below w.heap.size w W → RwC W u (l ++ [atom] ++ m) → Calls Tryd.prog 10 #[u, .slice (some a3) q cap3] W fun e w' => ∃ x, e = .returned (.tuple #[x, .int .i64 0]) ∧ OwC BB w' x C ∧ Below W.heap.size W w') := Lib.hid fun W u BB hBB b R =>
    (wcollapse_any (l ++ [atom] ++ m) u ss _ W R (HSE.out.below b) (by have h1 := hl150.out; have h2 := hm150.out; simp; omega) (HT.out.below b)).mono fun e w' h => by
      rcases h with ⟨_, x, h1, h2, h3⟩ | ⟨h1, _⟩
      · rw [hC] at h2
        exact ⟨x, h1, h2.base_ hBB, h3⟩
      · rw [hmay.out] at h1; cases h1
  clear hA hB hC hmay HSE
  have HL1 : Hid (∀ W, Below w.heap.size w W → RwC W v1 l) := Lib.hid fun W b => H1.out.below b
  have HL2 : Hid (∀ W, Below w.heap.size w W → RwC W v2 m) := Lib.hid fun W b => H2.out.below b
  go_wp2_with (first | (refine nwC rfl rfl 11 rfl rfl (.tmp 54) rfl rfl atom (fun _ => rfl) (fun _ => rfl) ?_; intro w3 b3 B3))
  have b03 := Lib.hid (below_seq HM2.out b3)
  have HOA3 := Lib.hid (HOA2.out.below b3)
  have HOB3 := Lib.hid (HOB.out.below b3)
  have HB3 : Hid (∀ W, Below w3.heap.size w3 W → Blk W w2.heap.size 38 (chA atom)) := Lib.hid fun W h => B3.keep (S := fun _ => False) (Mod.of_below h) id
  clear b3 B3 HOA2 HOB
  refine region_K (by kernel_rfl) (fun W => Below w3.heap.size w3 W) (fun i u W => ((tabP v1 v2 (.slice (some a3) q cap3) l m C) i).holds w3.heap.size u W) (killT ((tabP v1 v2 (.slice (some a3) q cap3) l m C)) 5 7) (below_drewN (Below.refl _ _) 1) (by kernel_rfl) (by kernel_rfl) (by kernel_rfl) (by kernel_rfl) (by kernel_rfl) ?step ?done
  case step =>
    intro us W hSW i o ho hD
    have hBW : w3.heap.size ≤ W.heap.size := hSW.size
    have KB : ∀ j u W W', ((tabP v1 v2 (.slice (some a3) q cap3) l m C) j).holds w3.heap.size u W → Below W.heap.size W W' → ((tabP v1 v2 (.slice (some a3) q cap3) l m C) j).holds w3.heap.size u W' := fun j u W W' h b => Kd.below h b
    have KS : ∀ j u W W', ((tabP v1 v2 (.slice (some a3) q cap3) l m C) j).holds w3.heap.size u W → ((tabP v1 v2 (.slice (some a3) q cap3) l m C) j).stable = true → ((tabP v1 v2 (.slice (some a3) q cap3) l m C) j).holds w3.heap.size u W' := fun j u W W' h b => Kd.keep h b
    simp only [putAll, Act.put, List.setIfInBounds_toArray, List.set_cons_zero, List.set_cons_succ]
    match i, ho with
    | 0, ho =>
      simp only [List.getElem?_toArray, List.getElem?_cons_zero, Option.some.injEq] at ho
      subst ho
      exact .inl ⟨wanted_none rfl _, .inl ⟨.slice (some ⟨W.heap.size, 0, none⟩) 0 0, W.alloc (.cells #[] 38), (by kernel_rfl), below_seq hSW (below_alloc _ _), ⟨⟨_, rfl⟩, (own_none W).base_ hBW⟩, fun j _ _ h => KB j _ _ _ h (below_alloc _ _)⟩⟩
    | 1, ho =>
      simp only [List.getElem?_toArray, List.getElem?_cons_zero, List.getElem?_cons_succ, Option.some.injEq] at ho
      subst ho
      exact .inl ⟨wanted_none rfl _, .inl ⟨v1, W, (by go_simp), hSW, rfl, fun j _ _ h => h⟩⟩
    | 2, ho =>
      simp only [List.getElem?_toArray, List.getElem?_cons_zero, List.getElem?_cons_succ, Option.some.injEq] at ho
      subst ho
      have hE : (∃ g, us 0 = .slice (some ⟨g, 0, none⟩) 0 0) ∧ OwC w3.heap.size W (us 0) [] := hD 0 (by kernel_rfl)
      have hX : us 1 = v1 := hD 1 (by kernel_rfl)
      have hRX : RwC W (us 1) l := hX ▸ HL1.out W (below_seq b03.out hSW)
      obtain ⟨u, W2, hr, hO, b⟩ := app_rows0 hE.1 hE.2 hRX hBW (by have h1 := hl150.out; have h3 := hA150.out; omega) 22
      exact .inl ⟨wanted_none rfl _, .inl ⟨u, W2, run_op_of (.tmp 56) (.tmp 57) rfl rfl rfl hr, below_seq hSW b, hO, fun j _ _ h => KB j _ _ _ h b⟩⟩
    | 3, ho =>
      simp only [List.getElem?_toArray, List.getElem?_cons_zero, List.getElem?_cons_succ, Option.some.injEq] at ho
      subst ho
      exact .inl ⟨wanted_none rfl _, .inl ⟨.agg (chA atom), W, rdC (.tmp 11) rfl _ rfl atom (HB3.out W hSW).lies, hSW, rfl, fun j _ _ h => h⟩⟩
    | 4, ho =>
      simp only [List.getElem?_toArray, List.getElem?_cons_zero, List.getElem?_cons_succ, Option.some.injEq] at ho
      subst ho
      have h3 : us 3 = .agg (chA atom) := hD 3 (by kernel_rfl)
      rw [h3]
      exact .inl ⟨wanted_none rfl _, .inl ⟨.slice (some ⟨W.heap.size, 0, none⟩) 1 1, W.alloc (.cells (chA atom) 38), (by kernel_rfl), below_seq hSW (below_alloc _ _), rowAtom W, fun j _ _ h => KB j _ _ _ h (below_alloc _ _)⟩⟩
    | 5, ho =>
      simp only [List.getElem?_toArray, List.getElem?_cons_zero, List.getElem?_cons_succ, Option.some.injEq] at ho
      subst ho
      have hOA : OwC w3.heap.size W (us 2) (l) := hD 2 (by kernel_rfl)
      have hX : RwC W (us 4) [atom] := hD 4 (by kernel_rfl)
      obtain ⟨u, W2, hr, hO, b⟩ := app_rows hOA hX hBW (by have h1 := hl150.out; have h2 := hm150.out; have h3 := hA150.out; have h4 := hB150.out; simp; omega) 22
      exact .inl ⟨wanted_none rfl _, .inl ⟨u, W2, run_op_of (.tmp 58) (.tmp 60) rfl rfl rfl hr, hSW.trans b, hO, fun j hj hk h => KS j _ _ _ h (killT.keep hk (by rfl) hj)⟩⟩
    | 6, ho =>
      simp only [List.getElem?_toArray, List.getElem?_cons_zero, List.getElem?_cons_succ, Option.some.injEq] at ho
      subst ho
      exact .inl ⟨wanted_none rfl _, .inl ⟨v2, W, (by go_simp), hSW, rfl, fun j _ _ h => h⟩⟩
    | 7, ho =>
      simp only [List.getElem?_toArray, List.getElem?_cons_zero, List.getElem?_cons_succ, Option.some.injEq] at ho
      subst ho
      have hOA : OwC w3.heap.size W (us 5) (l ++ [atom]) := hD 5 (by kernel_rfl)
      have h6 : us 6 = v2 := hD 6 (by kernel_rfl)
      have hX : RwC W (us 6) m := h6 ▸ HL2.out W (below_seq b03.out hSW)
      obtain ⟨u, W2, hr, hO, b⟩ := app_rows hOA hX hBW (by have h1 := hl150.out; have h2 := hm150.out; have h3 := hA150.out; have h4 := hB150.out; simp; omega) 22
      exact .inl ⟨wanted_none rfl _, .inl ⟨u, W2, run_op_of (.tmp 61) (.tmp 62) rfl rfl rfl hr, hSW.trans b, hO, fun j hj hk h => KS j _ _ _ h (killT.keep hk (by rfl) hj)⟩⟩
    | 8, ho =>
      simp only [List.getElem?_toArray, List.getElem?_cons_zero, List.getElem?_cons_succ, Option.some.injEq] at ho
      subst ho
      exact .inl ⟨wanted_none rfl _, .inl ⟨.slice (some a3) q cap3, W, (by go_simp), hSW, rfl, fun j _ _ h => h⟩⟩
    | 9, ho =>
      simp only [List.getElem?_toArray, List.getElem?_cons_zero, List.getElem?_cons_succ, Option.some.injEq] at ho
      subst ho
      have h7 : OwC w3.heap.size W (us 7) (l ++ [atom] ++ m) := hD 7 (by kernel_rfl)
      have h8 : us 8 = .slice (some a3) q cap3 := hD 8 (by kernel_rfl)
      rw [h8]
      refine .inl ⟨wanted_none rfl _, .inr ⟨_, _, (by go_simp), (CC.out W (us 7) w3.heap.size hBW (below_seq b03.out hSW) h7.rw_).mono ?_⟩⟩
      rintro e W2 ⟨x, rfl, hO, b⟩
      exact ⟨_, rfl, below_seq hSW b, ⟨x, rfl, hO⟩, fun j _ _ h => KB j _ _ _ h b⟩
    | 10, ho =>
      simp only [List.getElem?_toArray, List.getElem?_cons_zero, List.getElem?_cons_succ, Option.some.injEq] at ho
      subst ho
      exact .inl ⟨wanted_none rfl _, .inl ⟨us 9, W, (by go_simp), hSW, hD 9 (by kernel_rfl), fun j _ _ h => h⟩⟩
    | 11, ho =>
      simp only [List.getElem?_toArray, List.getElem?_cons_zero, List.getElem?_cons_succ, Option.some.injEq] at ho
      subst ho
      obtain ⟨x, hx, hO⟩ : ∃ x, us 10 = .tuple #[x, .int .i64 0] ∧ OwC w3.heap.size W x C := hD 10 (by kernel_rfl)
      rw [hx]
      exact .inl ⟨wanted_none rfl _, .inl ⟨x, W, (by go_simp), hSW, hO, fun j _ _ h => h⟩⟩
    | 12, ho =>
      simp only [List.getElem?_toArray, List.getElem?_cons_zero, List.getElem?_cons_succ, Option.some.injEq] at ho
      subst ho
      obtain ⟨x, hx, hO⟩ : ∃ x, us 10 = .tuple #[x, .int .i64 0] ∧ OwC w3.heap.size W x C := hD 10 (by kernel_rfl)
      rw [hx]
      exact .inl ⟨wanted_none rfl _, .inl ⟨.int .i64 0, W, (by go_simp), hSW, rfl, fun j _ _ h => h⟩⟩
    | 13, ho =>
      simp only [List.getElem?_toArray, List.getElem?_cons_zero, List.getElem?_cons_succ, Option.some.injEq] at ho
      subst ho
      exact .inl ⟨wanted_none rfl _, .inl ⟨us 11, W, (by go_simp), hSW, hD 11 (by kernel_rfl), fun j _ _ h => h⟩⟩
    | 14, ho =>
      simp only [List.getElem?_toArray, List.getElem?_cons_zero, List.getElem?_cons_succ, Option.some.injEq] at ho
      subst ho
      have h12 : us 12 = .int .i64 0 := hD 12 (by kernel_rfl)
      rw [h12]
      exact .inl ⟨wanted_none rfl _, .inl ⟨.int .i64 0, W, (by go_simp), hSW, rfl, fun j _ _ h => h⟩⟩
    | n + 15, ho => simp at ho
  case done =>
    intro us W hSW hD
    have h13 : OwC w3.heap.size W (us 13) C := hD 13 (by decide) (notK (by kernel_rfl))
    have h14 : us 14 = .int .i64 0 := hD 14 (by decide) (notK (by kernel_rfl))
    simp only [putAll, Act.put, List.setIfInBounds_toArray, List.set_cons_zero, List.set_cons_succ]
    rw [h14]
    clear hD h14
    generalize us 13 = uc at *
    have b04 := Lib.hid (below_seq b03.out hSW)
    have HC4 : Hid (∀ X, Below W.heap.size W X → RwC X uc C) := Lib.hid fun X b => h13.rw_.below b
    have HA4 : Hid (∀ X, Below W.heap.size W X → RwC X ua A) := Lib.hid fun X b => (HOA3.out.below hSW).below b
    have HB4 : Hid (∀ X, Below W.heap.size W X → RwC X ub B) := Lib.hid fun X b => (HOB3.out.below hSW).below b
    have HK4 : Hid (∀ X, Below W.heap.size W X → Blk X w2.heap.size 38 (chA atom)) := Lib.hid fun X b => HB3.out X (below_seq hSW b)
    have CS : Hid (∀ (X : World) (u : Value), Below W.heap.size W X → RwC X u (A ++ [atom] ++ B) → Calls Tryd.prog 14 #[uc, u] X fun e w' => e = .returned (.bool true) ∧ Below X.heap.size X w') := Lib.hid fun X u b R =>
      (wsame_any uc u C (A ++ [atom] ++ B) X (HC4.out X b) R (by rw [HCAB.out]; have h3 := hA150.out; have h4 := hB150.out; simp; omega)).mono fun e w' h => ⟨by rw [h.1, decide_eq_true HCAB.out], h.2⟩
    have HH : Hid (∀ X, Below W.heap.size W X → Calls Tryd.prog 9 #[] X fun e w' => e = .returned (.bool true) ∧ Below X.heap.size X w') := Lib.hid fun X b => whead_any X (HT.out.below (below_seq b04.out b))
    clear h13 hSW HOA3 HOB3 HB3 b03 HM2 HL1 HL2 CC HD
    go_wp2_with fail
    refine region_K (by kernel_rfl) (fun X => Below W.heap.size W X) (fun i u X => (tabQ uc ua ub A B i).holds W.heap.size u X) (killT (tabQ uc ua ub A B) 9 11) (below_drewN (Below.refl _ _) 1) (by kernel_rfl) (by kernel_rfl) (by kernel_rfl) (by kernel_rfl) (by kernel_rfl) ?step2 ?done2
    case step2 =>
      intro us X hSX i o ho hD
      have hBX : W.heap.size ≤ X.heap.size := hSX.size
      have KB : ∀ j u X X', (tabQ uc ua ub A B j).holds W.heap.size u X → Below X.heap.size X X' → (tabQ uc ua ub A B j).holds W.heap.size u X' := fun j u X X' h b => Kd.below h b
      have KS : ∀ j u X X', (tabQ uc ua ub A B j).holds W.heap.size u X → (tabQ uc ua ub A B j).stable = true → (tabQ uc ua ub A B j).holds W.heap.size u X' := fun j u X X' h b => Kd.keep h b
      simp only [putAll, Act.put, List.setIfInBounds_toArray, List.set_cons_zero, List.set_cons_succ]
      match i, ho with
      | 0, ho =>
        simp only [List.getElem?_toArray, List.getElem?_cons_zero, Option.some.injEq] at ho
        subst ho
        exact .inl ⟨wanted_none rfl _, .inl ⟨.int .i64 0, X, (by go_simp), hSX, rfl, fun j _ _ h => h⟩⟩
      | 1, ho =>
        simp only [List.getElem?_toArray, List.getElem?_cons_zero, List.getElem?_cons_succ, Option.some.injEq] at ho
        subst ho
        have h0 : us 0 = .int .i64 0 := hD 0 (by kernel_rfl)
        rw [h0]
        exact .inl ⟨wanted_none rfl _, .inl ⟨.bool true, X, (by go_simp), hSX, rfl, fun j _ _ h => h⟩⟩
      | 2, ho =>
        simp only [List.getElem?_toArray, List.getElem?_cons_zero, List.getElem?_cons_succ, Option.some.injEq] at ho
        subst ho
        have h1 : us 1 = .bool true := hD 1 (by kernel_rfl)
        rw [h1]
        exact .inl ⟨wanted_none rfl _, .inl ⟨.bool true, X, (by go_simp), hSX, rfl, fun j _ _ h => h⟩⟩
      | 3, ho =>
        simp only [List.getElem?_toArray, List.getElem?_cons_zero, List.getElem?_cons_succ, Option.some.injEq] at ho
        subst ho
        have hg : us 2 = .bool true := hD 2 (by kernel_rfl)
        exact .inl ⟨(by rw [hg]; kernel_rfl), .inl ⟨uc, X, (by go_simp), hSX, rfl, fun j _ _ h => h⟩⟩
      | 4, ho =>
        simp only [List.getElem?_toArray, List.getElem?_cons_zero, List.getElem?_cons_succ, Option.some.injEq] at ho
        subst ho
        have hg : us 2 = .bool true := hD 2 (by kernel_rfl)
        exact .inl ⟨(by rw [hg]; kernel_rfl), .inl ⟨.slice (some ⟨X.heap.size, 0, none⟩) 0 0, X.alloc (.cells #[] 38), (by kernel_rfl), below_seq hSX (below_alloc _ _), ⟨⟨_, rfl⟩, (own_none X).base_ hBX⟩, fun j _ _ h => KB j _ _ _ h (below_alloc _ _)⟩⟩
      | 5, ho =>
        simp only [List.getElem?_toArray, List.getElem?_cons_zero, List.getElem?_cons_succ, Option.some.injEq] at ho
        subst ho
        have hg : us 2 = .bool true := hD 2 (by kernel_rfl)
        exact .inl ⟨(by rw [hg]; kernel_rfl), .inl ⟨ua, X, (by go_simp), hSX, rfl, fun j _ _ h => h⟩⟩
      | 6, ho =>
        simp only [List.getElem?_toArray, List.getElem?_cons_zero, List.getElem?_cons_succ, Option.some.injEq] at ho
        subst ho
        have hg : us 2 = .bool true := hD 2 (by kernel_rfl)
        have hE : (∃ g, us 4 = .slice (some ⟨g, 0, none⟩) 0 0) ∧ OwC W.heap.size X (us 4) [] := hD 4 (by kernel_rfl)
        have h5 : us 5 = ua := hD 5 (by kernel_rfl)
        have hRX : RwC X (us 5) A := h5 ▸ HA4.out X hSX
        obtain ⟨u, W2, hr, hO, b⟩ := app_rows0 hE.1 hE.2 hRX hBX (by have h3 := hA150.out; omega) 22
        exact .inl ⟨(by rw [hg]; kernel_rfl), .inl ⟨u, W2, run_op_of (.tmp 72) (.tmp 73) rfl rfl rfl hr, below_seq hSX b, hO, fun j _ _ h => KB j _ _ _ h b⟩⟩
      | 7, ho =>
        simp only [List.getElem?_toArray, List.getElem?_cons_zero, List.getElem?_cons_succ, Option.some.injEq] at ho
        subst ho
        have hg : us 2 = .bool true := hD 2 (by kernel_rfl)
        exact .inl ⟨(by rw [hg]; kernel_rfl), .inl ⟨.agg (chA atom), X, rdC (.tmp 11) rfl _ rfl atom (HK4.out X hSX).lies, hSX, rfl, fun j _ _ h => h⟩⟩
      | 8, ho =>
        simp only [List.getElem?_toArray, List.getElem?_cons_zero, List.getElem?_cons_succ, Option.some.injEq] at ho
        subst ho
        have hg : us 2 = .bool true := hD 2 (by kernel_rfl)
        have h7 : us 7 = .agg (chA atom) := hD 7 (by kernel_rfl)
        rw [h7]
        exact .inl ⟨(by rw [hg]; kernel_rfl), .inl ⟨.slice (some ⟨X.heap.size, 0, none⟩) 1 1, X.alloc (.cells (chA atom) 38), (by kernel_rfl), below_seq hSX (below_alloc _ _), rowAtom X, fun j _ _ h => KB j _ _ _ h (below_alloc _ _)⟩⟩
      | 9, ho =>
        simp only [List.getElem?_toArray, List.getElem?_cons_zero, List.getElem?_cons_succ, Option.some.injEq] at ho
        subst ho
        have hg : us 2 = .bool true := hD 2 (by kernel_rfl)
        have hOA : OwC W.heap.size X (us 6) A := hD 6 (by kernel_rfl)
        have hX : RwC X (us 8) [atom] := hD 8 (by kernel_rfl)
        obtain ⟨u, W2, hr, hO, b⟩ := app_rows hOA hX hBX (by have h3 := hA150.out; simp; omega) 22
        exact .inl ⟨(by rw [hg]; kernel_rfl), .inl ⟨u, W2, run_op_of (.tmp 74) (.tmp 76) rfl rfl rfl hr, hSX.trans b, hO, fun j hj hk h => KS j _ _ _ h (killT.keep hk (by rfl) hj)⟩⟩
      | 10, ho =>
        simp only [List.getElem?_toArray, List.getElem?_cons_zero, List.getElem?_cons_succ, Option.some.injEq] at ho
        subst ho
        have hg : us 2 = .bool true := hD 2 (by kernel_rfl)
        exact .inl ⟨(by rw [hg]; kernel_rfl), .inl ⟨ub, X, (by go_simp), hSX, rfl, fun j _ _ h => h⟩⟩
      | 11, ho =>
        simp only [List.getElem?_toArray, List.getElem?_cons_zero, List.getElem?_cons_succ, Option.some.injEq] at ho
        subst ho
        have hg : us 2 = .bool true := hD 2 (by kernel_rfl)
        have hOA : OwC W.heap.size X (us 9) (A ++ [atom]) := hD 9 (by kernel_rfl)
        have h10 : us 10 = ub := hD 10 (by kernel_rfl)
        have hX : RwC X (us 10) B := h10 ▸ HB4.out X hSX
        obtain ⟨u, W2, hr, hO, b⟩ := app_rows hOA hX hBX (by have h3 := hA150.out; have h4 := hB150.out; simp; omega) 22
        exact .inl ⟨(by rw [hg]; kernel_rfl), .inl ⟨u, W2, run_op_of (.tmp 77) (.tmp 78) rfl rfl rfl hr, hSX.trans b, hO, fun j hj hk h => KS j _ _ _ h (killT.keep hk (by rfl) hj)⟩⟩
      | 12, ho =>
        simp only [List.getElem?_toArray, List.getElem?_cons_zero, List.getElem?_cons_succ, Option.some.injEq] at ho
        subst ho
        have hg : us 2 = .bool true := hD 2 (by kernel_rfl)
        have h3 : us 3 = uc := hD 3 (by kernel_rfl)
        have h11 : OwC W.heap.size X (us 11) (A ++ [atom] ++ B) := hD 11 (by kernel_rfl)
        rw [h3]
        refine .inl ⟨(by rw [hg]; kernel_rfl), .inr ⟨_, _, (by go_simp), (CS.out X (us 11) hSX h11.rw_).mono ?_⟩⟩
        rintro e W2 ⟨rfl, b⟩
        exact ⟨_, rfl, below_seq hSX b, rfl, fun j _ _ h => KB j _ _ _ h b⟩
      | 13, ho =>
        simp only [List.getElem?_toArray, List.getElem?_cons_zero, List.getElem?_cons_succ, Option.some.injEq] at ho
        subst ho
        have h2 : us 2 = .bool true := hD 2 (by kernel_rfl)
        have h12 : us 12 = .bool true := hD 12 (by kernel_rfl)
        rw [h2, h12]
        exact .inl ⟨wanted_none rfl _, .inl ⟨.bool true, X, (by go_simp), hSX, rfl, fun j _ _ h => h⟩⟩
      | 14, ho =>
        simp only [List.getElem?_toArray, List.getElem?_cons_zero, List.getElem?_cons_succ, Option.some.injEq] at ho
        subst ho
        have h13 : us 13 = .bool true := hD 13 (by kernel_rfl)
        rw [h13]
        exact .inl ⟨wanted_none rfl _, .inl ⟨.bool true, X, (by go_simp), hSX, rfl, fun j _ _ h => h⟩⟩
      | 15, ho =>
        simp only [List.getElem?_toArray, List.getElem?_cons_zero, List.getElem?_cons_succ, Option.some.injEq] at ho
        subst ho
        have hg : us 14 = .bool true := hD 14 (by kernel_rfl)
        refine .inl ⟨(by rw [hg]; kernel_rfl), .inr ⟨_, _, (by go_simp), (HH.out X hSX).mono ?_⟩⟩
        rintro e W2 ⟨rfl, b⟩
        exact ⟨_, rfl, below_seq hSX b, rfl, fun j _ _ h => KB j _ _ _ h b⟩
      | 16, ho =>
        simp only [List.getElem?_toArray, List.getElem?_cons_zero, List.getElem?_cons_succ, Option.some.injEq] at ho
        subst ho
        have h14 : us 14 = .bool true := hD 14 (by kernel_rfl)
        have h15 : us 15 = .bool true := hD 15 (by kernel_rfl)
        rw [h14, h15]
        exact .inl ⟨wanted_none rfl _, .inl ⟨.bool true, X, (by go_simp), hSX, rfl, fun j _ _ h => h⟩⟩
      | 17, ho =>
        simp only [List.getElem?_toArray, List.getElem?_cons_zero, List.getElem?_cons_succ, Option.some.injEq] at ho
        subst ho
        have h16 : us 16 = .bool true := hD 16 (by kernel_rfl)
        rw [h16]
        exact .inl ⟨wanted_none rfl _, .inl ⟨.bool true, X, (by go_simp), hSX, rfl, fun j _ _ h => h⟩⟩
      | n + 18, ho => simp at ho
    case done2 =>
      intro us X hSX hD
      have h17 : us 17 = .bool true := hD 17 (by decide) (notK (by kernel_rfl))
      simp only [putAll, Act.put, List.setIfInBounds_toArray, List.set_cons_zero, List.set_cons_succ]
      rw [h17]
      go_wp2_with fail
      go_ret
      exact ⟨rfl, b04.out.trans (hSX.mono b04.out.size)⟩
end Go.Proofs.YtejcfhfmdijimaaDoor
