/- Contract of pair's first: the first rule that applies, through a pointer to the table. Conditions: the table lies at the pointer. -/
import Derived.Test.YtijdippkkaigjaaPr5
namespace Go.Proofs.Ytijdippkkaigjaa
open Go.ChangeShapes Go.WideShapes Go.ChangeAt Go.RowKit Go.Shelf

def vdC (v : Int × Bool) : Array Value := #[.int .u8 v.1, .bool v.2]
theorem uV : Try.prog.underlying 41 = some (.struct (Try.prog.fieldsOf 41)) := by kernel_rfl
theorem iV (x : Int × Bool) : (Try.prog.info? 41).map (·.size) = some (vdC x).size := by kernel_rfl
theorem oneV (x : Int × Bool) : (vdC x).all (·.oneCell') = true := by kernel_rfl
theorem alV (w : World) : (Instr.alloc 41 true (.tuple #[])).run Try.prog w = .ok (.pointer (some ⟨w.heap.size, 0, none⟩)) (w.alloc (.cells (vdC (0, false)) 41)) := by kernel_rfl
theorem bxV (x : Int × Bool) (w : World) : (Instr.box 41 (.agg (vdC x))).run Try.prog w = .ok (.pointer (some ⟨w.heap.size, 0, none⟩)) (w.alloc (.cells (vdC x) 41)) := by kernel_rfl
theorem uR : Try.prog.underlying 49 = some (.struct (Try.prog.fieldsOf 49)) := by kernel_rfl
theorem iR (n : Int) (f : Nat) : (Try.prog.info? 49).map (·.size) = some (ruC n f).size := by kernel_rfl
theorem oneR (n : Int) (f : Nat) : (ruC n f).all (·.oneCell') = true := by kernel_rfl
theorem alR (w : World) : (Instr.alloc 49 true (.tuple #[])).run Try.prog w = .ok (.pointer (some ⟨w.heap.size, 0, none⟩)) (w.alloc (.cells #[.int .u8 0, .nilFunc] 49)) := by kernel_rfl
section
variable {ops : Array Oper} {Q : Exit → Act → World → Prop} {a : Act} {w : World} {rest : List Oper} {o o1 o2 : Oper}
theorem ldV (hg : o.guard = none) (x : Operand) (ho : o.op = .load 41 x) (p : Addr) (hx : a.eval x = .pointer (some p)) (s : Int × Bool) (hL : Lies w p (vdC s))
    (h : wpList Try.prog ops Q rest (a.put o.dst (.agg (vdC s))) w) : wpList Try.prog ops Q (o :: rest) a w := wpList_loadL hg 41 x ho p hx (vdC s) _ hL uV rfl (iV s) h
theorem alVV (hg : o.guard = none) (ho : o.op = .alloc 41) (h : ∀ w', Below w.heap.size w w' → Blk w' w.heap.size 41 (vdC (0, false)) → wpList Try.prog ops Q rest (a.put o.dst (.pointer (some ⟨w.heap.size, 0, none⟩))) w') : wpList Try.prog ops Q (o :: rest) a w :=
  wpList_newV hg 41 ho _ alV h
theorem stV (hg : o.guard = none) (x y : Operand) (ho : o.op = .store 41 x y) (hd : o.dst = none) (g : Nat) (hx : a.eval x = .pointer (some ⟨g, 0, none⟩)) (s : Int × Bool) (hy : a.eval y = .agg (vdC s)) {t : TypeId} (old : Int × Bool) (hB : Blk w g t (vdC old))
    (h : ∀ w', Mod (fun k => k = g) w w' → Blk w' g t (vdC s) → wpList Try.prog ops Q rest a w') : wpList Try.prog ops Q (o :: rest) a w :=
  wpList_storeL hg 41 x y ho hd g hx (vdC s) hy t (vdC old) hB (iV s) rfl (oneV s) h
theorem ldR (hg : o.guard = none) (x : Operand) (ho : o.op = .load 49 x) (p : Addr) (hx : a.eval x = .pointer (some p)) (n : Int) (f : Nat) (hL : Lies w p (ruC n f))
    (h : wpList Try.prog ops Q rest (a.put o.dst (.agg (ruC n f))) w) : wpList Try.prog ops Q (o :: rest) a w := wpList_loadL hg 49 x ho p hx (ruC n f) _ hL uR rfl (iR n f) h
theorem nwR (hg1 : o1.guard = none) (hg2 : o2.guard = none) (D : Tmp) (hd1 : o1.dst = some D) (ho1 : o1.op = .alloc 49) (y : Operand) (ho2 : o2.op = .store 49 (.tmp D) y) (hd2 : o2.dst = none)
    (n : Int) (f : Nat) (hx : ∀ v, (a.put (some D) v).eval (.tmp D) = v) (hy : ∀ v, (a.put (some D) v).eval y = .agg (ruC n f))
    (h : ∀ w', Below w.heap.size w w' → Blk w' w.heap.size 49 (ruC n f) → wpList Try.prog ops Q rest (a.put (some D) (.pointer (some ⟨w.heap.size, 0, none⟩))) w') : wpList Try.prog ops Q (o1 :: o2 :: rest) a w :=
  wpList_newS hg1 hg2 49 D hd1 ho1 y ho2 hd2 _ alR (ruC n f) hx hy (iR n f) rfl (oneR n f) h
end

set_option maxRecDepth 100000 in
set_option maxHeartbeats 8000000 in
theorem pfirst_any (p : Plc) (T : Nat) (w : World) (hT : Blk w T 51 tblV) :
    Calls Try.prog 28 #[.pointer (some ⟨T, 0, none⟩), .agg (plC p)] w fun e w' => e = .returned (.agg (vdC (frst p rl))) ∧ Below w.heap.size w w' := by
  have HT := Lib.hid hT
  obtain ⟨r, hr⟩ : ∃ r, frst p rl = r := ⟨_, rfl⟩
  have HR := Lib.hid hr
  rw [hr]
  clear hr hT
  go_enter Try.func28, Try.ntmps28
  go_wp2_with (first
    | (refine bxPV rfl (.tmp 1) rfl p rfl ?_; intro w1 b1 B1)
    | (refine alVV (o := ⟨some 4, _, _, _, _, _⟩) rfl rfl ?_; intro w2 b2 B2)
    | (refine alVV (o := ⟨some 5, _, _, _, _, _⟩) rfl rfl ?_; intro w3 b3 B3))
  have b03 := below_seq b1 (below_seq b2 b3)
  have l1 := B1.lt
  have l2 := B2.lt
  have l3 := B3.lt
  have l0 := HT.out.lt
  have HK : Hid (∀ W, Below w3.heap.size w3 W → Blk W T 51 tblV ∧ Blk W w.heap.size 57 (plC p) ∧ Blk W w1.heap.size 41 (vdC (0, false)) ∧ Blk W w2.heap.size 41 (vdC (0, false))) := Lib.hid fun W h => by
    have m3 := Mod.of_below (S := fun _ => False) h
    have m2 := (Mod.of_below (S := fun _ => False) b3).trans m3
    have m1 := (Mod.of_below (S := fun _ => False) b2).trans m2
    have m0 := (Mod.of_below (S := fun _ => False) b1).trans m1
    exact ⟨HT.out.keep m0 id, B1.keep m1 id, B2.keep m2 id, B3.keep m3 id⟩
  have hs1 := b1.size
  have hs2 := b2.size
  have hs3 := b3.size
  clear B1 B2 B3 b1 b2 b3 HT
  go_loopg [12] 24 (fun kx i wr => ∃ (k : Nat), i = .int .i64 k ∧ k ≤ 24 ∧ kx = 24 - k ∧ Below w3.heap.size w3 wr ∧ Hid (∀ j x, j < k → rl[j]? = some x → x.ap p = false))
  case atStart => exact ⟨0, rfl, by omega, by omega, Below.refl _ _, Lib.hid fun j x h => absurd h (by omega)⟩
  case round =>
    obtain ⟨k, rfl, hk, rfl, bel, HN⟩ := hrel
    by_cases hlt : k < 24
    · obtain ⟨x, hx⟩ : ∃ x, rl[k]? = some x := ⟨_, List.getElem?_eq_getElem (show k < rl.length from hlt)⟩
      obtain ⟨kT, kP, kR, kV⟩ := HK.out wr bel
      have L : Lies wr ⟨T, k * 2, none⟩ (ruC x.num x.f) := kT.part (k * 2) (tbl_part k x hx)
      have hok := rl_ok x (List.mem_of_getElem? hx)
      have HX := Lib.hid hx
      obtain ⟨q, hq⟩ : ∃ q, x.ap p = q := ⟨_, rfl⟩
      obtain ⟨q2, hq2⟩ : ∃ q, x.en p = q := ⟨_, rfl⟩
      have HC : Hid (∀ W, Calls Try.prog x.f #[.agg (plC p)] W fun e w' => e = .returned (.tuple #[.bool q, .bool q2]) ∧ Below W.heap.size W w') := Lib.hid fun W => by rw [← hq, ← hq2]; exact hok.calls p W
      have hen := hok.enters
      have HQ : Hid (q = true → r = (x.num, q2)) := Lib.hid fun h => by rw [← HR.out, ← hq2]; exact frst_here p HN.out hx (hq.trans h)
      have HQ0 : Hid (q = false → ∀ j x, j < k + 1 → rl[j]? = some x → x.ap p = false) := Lib.hid fun h => lookAt HN.out hx (hq.trans h)
      generalize x.f = f at *
      generalize x.num = n at *
      have hkz : (k : Int) < 24 := by omega
      clear hok hx hq hq2 HX kT kP kR kV
      go_wp2_with (first
        | (refine ldR (o := ⟨some 16, _, _, _, _, _⟩) rfl (.tmp 15) rfl _ rfl n f L ?_)
        | (refine nwR (o1 := ⟨some 7, _, _, _, _, _⟩) rfl rfl 7 rfl rfl (.tmp 16) rfl rfl n f (fun _ => rfl) (fun _ => rfl) ?_; intro w4 b4 B4; refine Mk.out ?_))
      constructor
      have bel4 := bel.trans (b4.mono bel.size)
      obtain ⟨kT, kP, kR, kV⟩ := HK.out w4 bel4
      have n1 : w4.cell? ⟨wr.heap.size, 1, none⟩ = some (.func (.func f) #[] #[]) := B4.cell 1
      have LP := kP.lies
      clear L kT kR kV
      go_wp2_with (refine ldP (o := ⟨some 20, _, _, _, _, _⟩) rfl (.tmp 3) rfl _ rfl p LP ?_)
      refine (HC.out _).mono ?_
      rintro e w5 ⟨rfl, b5⟩
      have bel5 := bel4.trans (b5.mono bel4.size)
      have B5 := B4.keep (S := fun _ => False) (Mod.of_below b5) id
      obtain ⟨kT, kP', kR, kV⟩ := HK.out w5 bel5
      have n0 : w5.cell? ⟨wr.heap.size, 0, none⟩ = some (.int .u8 n) := B5.cell 0
      clear LP n1 kT kP' hen
      cases q
      · go_wp2_with fail
        go_roundg (24 - (k + 1))
        case measure => omega
        case rel => exact ⟨k + 1, by go_num, by omega, by first | rfl | trivial, bel5, Lib.hid (HQ0.out (by first | rfl | trivial))⟩
      · obtain rfl := HQ.out rfl
        go_wp2_with (first
          | (refine stV rfl (.tmp 5) (.tmp 28) rfl rfl _ rfl (n, q2) rfl (0, false) kV ?_; intro w6 m6 B6)
          | (refine ldV rfl (.tmp 5) rfl _ rfl (n, q2) B6.lies ?_)
          | (refine stV rfl (.tmp 4) (.tmp 30) rfl rfl _ rfl (n, q2) rfl (0, false) (kR.keep m6 (by omega)) ?_; intro w7 m7 B7))
        have s5 := bel5.size
        have c5 : Below w.heap.size w w5 := b03.trans (bel5.mono (by omega))
        have c6 : Below w.heap.size w w6 := c5.trans (m6.below c5.size fun k hk => by omega)
        have c7 : Below w.heap.size w w7 := c6.trans (m7.below c6.size fun k hk => by omega)
        exact bodyPost_ret (v := .agg (vdC (n, q2))) (res_row rfl _ _ w1.heap.size 41 _ _ rfl B7 uV rfl (iV _)) rfl ⟨rfl, c7⟩
    · obtain rfl : k = 24 := by omega
      exact absurd (show true = false from HN.out 23 _ (by omega) rfl) (by decide)
end Go.Proofs.Ytijdippkkaigjaa
