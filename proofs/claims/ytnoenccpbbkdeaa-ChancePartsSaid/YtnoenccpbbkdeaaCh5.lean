/- Contract of chance's parts: the function that is ranged over visits what is between forced breaks. Conditions: the slice reads as the characters, at most 1048576; what the loop knows does not hang on memory that the function makes. -/
import Derived.Test.YtnoenccpbbkdeaaCh4
import Derived.Test.YtnoenccpbbkdeaaPr7
namespace Go.Proofs.Ytnoenccpbbkdeaa
open Go.ChangeShapes Go.WideShapes Go.ChangeAt Go.RowKit Go.Shelf
open Wh (Cr)
open Ch

attribute [local go_sem] Oper.semAt_some

/-! ### rows of characters as the program keeps them -/
def RwHc (w : World) (v : Value) (l : List Hc) : Prop := RowN 4 (fun _ => False) w v (l.map fun s => (hcA s).toList)
theorem RwHc.below {w w' : World} {v : Value} {l : List Hc} (h : RwHc w v l) (b : Below w.heap.size w w') : RwHc w' v l := RowN.below h b
theorem RwHc.form {w : World} {v : Value} {l : List Hc} (h : RwHc w v l) : ∃ A c, v = .slice A l.length c := by
  have := RowN.form h
  rwa [List.length_map] at this
theorem RwHc.get {w wx : World} {v : Value} {l : List Hc} (h : RwHc w v l) (b : Below w.heap.size w wx) {i : Nat} {s : Hc} (hi : l[i]? = some s) :
    ∃ a cap o, v = .slice (some a) l.length cap ∧ a.block < w.heap.size ∧ a.add (i * 4) = ⟨a.block, o, none⟩ ∧ Lies wx ⟨a.block, o, none⟩ (hcA s) := by
  obtain ⟨a, cap, o, hv, hb, _, ha, hc⟩ := RowN.get h b (x := (hcA s).toList) (by rw [List.getElem?_map, hi]; rfl) (by simp [hcA])
  rw [List.length_map] at hv
  exact ⟨a, cap, o, hv, hb, ha, lies_of rfl hc⟩
theorem Strs.hc {w : World} {g n c : Nat} {l : List Hc} (h : Strs w g 58 4 (l.map hcA)) (hn : l.length = n) : RwHc w (.slice (some ⟨g, 0, none⟩) n c) l := by
  have h2 : RowN 4 _ w (.slice (some ⟨g, 0, none⟩) n c) ((l.map hcA).map Array.toList) := h.row (by rw [List.length_map]; exact hn)
  rw [List.map_map] at h2
  exact RowN.mono (S := fun b => b < g) (T := fun _ => False) h2 fun _ _ h => h.elim

section
variable {F : Fence} {n : Nat} {ops : Array Oper} {Q : Exit → Act → World → Prop} {a : Act} {w : World} {rest : List Oper} {o o1 o2 : Oper}
theorem ldHcIn (hF : ∀ f, F.fn f) (hg : o.guard = none) (x : Operand) (ho : o.op = .load 58 x) (p : Addr) (hx : a.eval x = .pointer (some p)) (s : Hc) (hL : Lies w p (hcA s))
    (h : wpListIn F n Try.prog ops Q rest (a.put o.dst (.agg (hcA s))) w) : wpListIn F n Try.prog ops Q (o :: rest) a w :=
  wpListIn_val hF (fun c hc => by rw [ho] at hc; cases hc) hg _ rfl _ _ (rdHc x ho p hx s hL) h
theorem alHcIn (hF : ∀ f, F.fn f) (hg : o.guard = none) (ho : o.op = .alloc 58)
    (h : ∀ w', Below w.heap.size w w' → Blk w' w.heap.size 58 (hcA zHc) → wpListIn F n Try.prog ops Q rest (a.put o.dst (.pointer (some ⟨w.heap.size, 0, none⟩))) w') : wpListIn F n Try.prog ops Q (o :: rest) a w :=
  wpListIn_val hF (fun c hc => by rw [ho] at hc; cases hc) hg _ rfl _ _ (run_op_new _ ho (hcA zHc) alHc) (h _ (below_alloc _ _) (Blk.new _ _ _))
theorem stHcIn (hF : ∀ f, F.fn f) (hg : o.guard = none) (x y : Operand) (ho : o.op = .store 58 x y) (hd : o.dst = none) (g : Nat) (hx : a.eval x = .pointer (some ⟨g, 0, none⟩)) (s : Hc) (hy : a.eval y = .agg (hcA s)) {t : TypeId} (old : Hc) (hB : Blk w g t (hcA old))
    (h : ∀ w', Mod (fun k => k = g) w w' → Blk w' g t (hcA s) → wpListIn F n Try.prog ops Q rest a w') : wpListIn F n Try.prog ops Q (o :: rest) a w := by
  refine wpListIn_skp hF (fun c hc => by rw [ho] at hc; cases hc) hg hd (w.setRow g (spl (hcA old) 0 (hcA s).toList)) ?_ ?_
  · exact run_op_store 58 x y ho g 0 hx (hcA s) hy t (hcA old) hB (iHc s) (by simp [hcA]) (oneHc s)
  · refine h _ (mod_setRow _ _ _) ?_
    have e : spl (hcA old) 0 (hcA s).toList = hcA s := by simp [spl, hcA]
    rw [e]
    exact setRow_heap _ _ _ _ _ _ hB
end

/-! ### parts -/
structure Part (l : List Cr) (f t : Nat) : Prop where
  le : f ≤ t
  len : t ≤ l.length
  beg : f = 0 ∨ ∃ i c, f = i + 1 ∧ l[i]? = some c ∧ c.kind = 5
  mid : ∀ k d, f ≤ k → k < t → l[k]? = some d → d.kind ≠ 5
  fin : t = l.length ∨ ∃ c, l[t]? = some c ∧ c.kind = 5
abbrev PI (l : List Cr) := { p : Nat × Nat // Part l p.1 p.2 }
def encQ {l : List Cr} (x : PI l) : Array Value := #[.int .i64 (x.1.1 : Int), .int .i64 (x.1.2 : Int)]
/-- is j in one of these? -/
def cov (xs : List (Nat × Nat)) (j : Nat) : Bool := xs.any fun p => decide (p.1 ≤ j) && decide (j < p.2)
theorem cov_snoc (xs : List (Nat × Nat)) (p : Nat × Nat) (j : Nat) : cov (xs ++ [p]) j = (cov xs j || (decide (p.1 ≤ j) && decide (j < p.2))) := by simp [cov]
/-- what the walk knows behind the first k characters, where a part begins at f -/
structure Upto (l : List Cr) (f k : Nat) (P : List (Nat × Nat)) : Prop where
  le : f ≤ k
  beg : f = 0 ∨ ∃ i c, f = i + 1 ∧ l[i]? = some c ∧ c.kind = 5
  mid : ∀ j d, f ≤ j → j < k → l[j]? = some d → d.kind ≠ 5
  cov : ∀ j c, j < f → l[j]? = some c → c.kind ≠ 5 → cov P j = true
  len : P.length ≤ k
theorem Upto.go {l : List Cr} {f k : Nat} {P : List (Nat × Nat)} (h : Upto l f k P) {c : Cr} (hc : l[k]? = some c) (h5 : c.kind ≠ 5) : Upto l f (k + 1) P :=
  ⟨by have := h.le; omega, h.beg, fun j d h1 h2 hd => by
    by_cases e : j = k
    · subst e
      rw [hc] at hd
      cases hd
      exact h5
    · exact h.mid j d h1 (by omega) hd, h.cov, by have := h.len; omega⟩
theorem Upto.part {l : List Cr} {f k : Nat} {P : List (Nat × Nat)} (h : Upto l f k P) {c : Cr} (hc : l[k]? = some c) (h5 : c.kind = 5) : Part l f k :=
  ⟨h.le, by have := (List.getElem?_eq_some_iff.1 hc).1; omega, h.beg, h.mid, .inr ⟨c, hc, h5⟩⟩
theorem Upto.last {l : List Cr} {f k : Nat} {P : List (Nat × Nat)} (h : Upto l f k P) (hk : k = l.length) : Part l f k :=
  ⟨h.le, by omega, h.beg, h.mid, .inl hk⟩
theorem Upto.next {l : List Cr} {f k : Nat} {P : List (Nat × Nat)} (h : Upto l f k P) {c : Cr} (hc : l[k]? = some c) (h5 : c.kind = 5) : Upto l (k + 1) (k + 1) (P ++ [(f, k)]) :=
  ⟨Nat.le_refl _, .inr ⟨k, c, rfl, hc, h5⟩, fun j d h1 h2 => by omega, fun j d hj hd hd5 => by
    rw [cov_snoc]
    by_cases e : j = k
    · subst e
      rw [hc] at hd
      cases hd
      exact absurd h5 hd5
    · by_cases e2 : j < f
      · rw [h.cov j d e2 hd hd5]; rfl
      · have : decide (f ≤ j) = true := decide_eq_true (by omega)
        have h3 : decide (j < k) = true := decide_eq_true (by omega)
        rw [this, h3]
        simp, by simp; exact h.len⟩
theorem Upto.all {l : List Cr} {f k : Nat} {P : List (Nat × Nat)} (h : Upto l f k P) (hk : k = l.length) : ∀ j c, l[j]? = some c → c.kind ≠ 5 → Go.Proofs.Ytnoenccpbbkdeaa.cov (P ++ [(f, k)]) j = true := fun j c hc h5 => by
  have hj := (List.getElem?_eq_some_iff.1 hc).1
  rw [cov_snoc]
  by_cases e2 : j < f
  · rw [h.cov j c e2 hc h5]; rfl
  · have : decide (f ≤ j) = true := decide_eq_true (by omega)
    have h3 : decide (j < k) = true := decide_eq_true (by omega)
    rw [this, h3]
    simp

set_option maxHeartbeats 1000000 in
theorem chparts_mk (A : Option Addr) (k c : Nat) (w : World) :
    Calls Try.prog 32 #[.slice A k c] w fun e w' => e = .returned (.func (.func 51) #[] #[.pointer (some ⟨w.heap.size, 0, none⟩)]) ∧ Boxed w' w.heap.size 47 (.slice A k c) ∧ Below w.heap.size w w' := by
  go_enter Try.func32, Try.ntmps32
  go_wp2
  go_ret
  exact ⟨rfl, Boxed.new _ _ _, below_alloc _ _⟩

set_option maxRecDepth 100000 in
set_option maxHeartbeats 8000000 in
theorem chparts_in (n Bs lp : Nat) (l : List Cr) (ss : List Sty) (v : Value) (w0 : World) (I : List (PI l) → World → Prop) (hlen : l.length ≤ 1048576)
    (hI : ∀ pre X Y, I pre X → Mod (fun k => w0.heap.size ≤ k) X Y → I pre Y)
    (hS : ∀ pre X, I pre X → X.cell? ⟨Bs, 0, none⟩ = some v ∧ RwHc X v (l.map (hcOf ss)))
    (hY : ∀ (m : Nat) pre x W, I pre W → pre.length < l.length + 1 → YieldAt Fence.wide m Try.prog lp (encQ x) W fun e W' => e = .returned (.bool true) ∧ I (pre ++ [x]) W' ∧ Kq w0.heap.size W W')
    (h0 : I [] w0) :
    CallsIn Fence.wide n Try.prog 51 (#[.func (.yield lp) #[] #[]] ++ #[.pointer (some ⟨Bs, 0, none⟩)]) w0 fun e W' => (∃ v, e = .returned v) ∧ ∃ xs : List (PI l), (∀ j c, l[j]? = some c → c.kind ≠ 5 → cov (xs.map (·.1)) j = true) ∧ I xs W' := by
  have HI := Lib.hid hI
  have HS := Lib.hid hS
  have HY := Lib.hid hY
  obtain ⟨A, cap, hv⟩ := (hS [] w0 h0).2.form
  obtain ⟨m, hm⟩ : ∃ m, l.length = m := ⟨_, rfl⟩
  have HM := Lib.hid hm
  rw [List.length_map, hm] at hv
  subst hv
  have hBs := (HS.out [] w0 h0).1
  rw [hm] at hlen
  clear hI hS hY hm
  refine callsIn_of_wp Try.func51 rfl trivial ?_ rfl
  simp only [Try.ntmps51, List.size_toArray, List.length_cons, List.length_nil, Nat.reduceAdd, Nat.reduceSub, Array.replicate_succ, Array.replicate_zero, List.push_toArray, List.append_toArray, List.nil_append, List.cons_append]
  gi_wp2_with fail
  gi_loopw [3, 8] (fun s3 s8 wr => ∃ (k f : Nat) (pre : List (PI l)), s3 = .int .i64 (f : Int) ∧ s8 = .int .i64 (k : Int) ∧ k ≤ m ∧ Hid (Upto l f k (pre.map (·.1))) ∧ I pre wr ∧ w0.heap.size ≤ wr.heap.size)
    (fun s3 s8 _ => m - (intOf s8).toNat)
  case atStart => exact ⟨0, 0, [], by go_num, by go_num, Nat.zero_le _, Lib.hid ⟨Nat.le_refl _, .inl rfl, fun j d _ h => by omega, fun j c h => by omega, Nat.le_refl _⟩, h0, Nat.le_refl _⟩
  case round =>
    obtain ⟨k, f, pre, rfl, rfl, hk, HP, hJ, hsz⟩ := hrel
    clear h0 hBs
    by_cases h1 : k < m
    · obtain ⟨c, hc⟩ := at_ (l := l) (k := k) (by rw [HM.out]; exact h1)
      have hch : (l.map (hcOf ss))[k]? = some (hcOf ss c) := by rw [List.getElem?_map, hc]; rfl
      obtain ⟨ad, cp, o, hv, hab, ha, hLi⟩ := (HS.out pre wr hJ).2.get (Below.refl _ _) hch
      rw [List.length_map, HM.out] at hv
      injection hv with hv1 hv2 hv3
      subst hv1 hv3
      have hkz : (k : Int) < m := by omega
      have HJ := Lib.hid hJ
      have HC := Lib.hid hc
      obtain ⟨kd, hkd⟩ : ∃ x, c.kind = x := ⟨_, rfl⟩
      have HKD := Lib.hid hkd
      obtain ⟨hx, hhx⟩ : ∃ x, hcOf ss c = x := ⟨_, rfl⟩
      have HHX : Hid (hx.kind = kd) := Lib.hid (by rw [← hhx, ← hkd]; rfl)
      rw [hhx] at hLi
      clear hv2 hc hch hJ hkd hhx
      gi_wp2_with (first
        | (refine ldHcIn (o := ⟨some 12, _, _, _, _, _⟩) (fun _ => trivial) rfl (.tmp 11) rfl _ rfl hx (by first | exact hLi | exact ha ▸ hLi) ?_)
        | (refine alHcIn (fun _ => trivial) rfl rfl ?_; intro w1 b1 B1)
        | (refine stHcIn (fun _ => trivial) rfl (.tmp 5) (.tmp 12) rfl rfl _ rfl hx rfl zHc B1 ?_; intro w2 m2 B2; refine Mk.out ?_))
      constructor
      have hJ2 : I pre w2 := HI.out pre w1 w2 (HI.out pre wr w1 HJ.out ((Mod.of_below b1).mono fun i hi => (show (False : Prop) from hi).elim)) (m2.mono fun i hi => .inl (by omega))
      have hs1 := b1.size
      have hs2 := m2.size
      have c0 : w2.cell? ⟨wr.heap.size, 0, none⟩ = some (.int .u8 hx.kind) := B2.cell 0
      rw [HHX.out] at c0
      have hsz2 : w0.heap.size ≤ w2.heap.size := by omega
      clear hLi b1 B1 m2 B2 hs1 hs2
      by_cases h5 : kd = 5
      · subst h5
        obtain ⟨pre2, hpre2⟩ : ∃ p, pre ++ [(⟨(f, k), HP.out.part HC.out HKD.out⟩ : PI l)] = p := ⟨_, rfl⟩
        have hpl : pre.length < l.length + 1 := by
          have := HP.out.len
          rw [List.length_map] at this
          rw [HM.out]
          omega
        have HP2 : Hid (Upto l (k + 1) (k + 1) (pre2.map (·.1))) := Lib.hid (by rw [← hpre2, List.map_append]; exact HP.out.next HC.out HKD.out)
        obtain ⟨fn, tmps, assign, body, hy, hRd⟩ := HY.out (n - 1) pre ⟨(f, k), HP.out.part HC.out HKD.out⟩ w2 hJ2 hpl
        have hen : encQ (⟨(f, k), HP.out.part HC.out HKD.out⟩ : PI l) = #[.int .i64 (f : Int), .int .i64 (k : Int)] := rfl
        rw [hen] at hy
        rw [hpre2] at hRd
        clear hen hpre2 hJ2 hpl
        gi_wp2_with fail
        refine ⟨fun h => (by cases h), hRd.mono ?_⟩
        rintro e w4 ⟨rfl, hJ4, hk4⟩
        gi_wp2
        go_roundw
        case rel => exact ⟨k + 1, k + 1, pre2, by go_num, by go_num, by omega, HP2, hJ4, Nat.le_trans hsz2 hk4.1⟩
        case measure => simp [intOf]; omega
      · gi_wp2
        go_roundw
        case rel => exact ⟨k + 1, f, pre, rfl, by go_num, by omega, Lib.hid (HP.out.go HC.out (by rw [HKD.out]; exact h5)), hJ2, hsz2⟩
        case measure => simp [intOf]; omega
    · obtain rfl : k = m := by omega
      have hBs := (HS.out pre wr hJ).1
      have HL : Hid (k = l.length) := Lib.hid HM.out.symm
      obtain ⟨pre2, hpre2⟩ : ∃ p, pre ++ [(⟨(f, k), HP.out.last HL.out⟩ : PI l)] = p := ⟨_, rfl⟩
      have hpl : pre.length < l.length + 1 := by
        have := HP.out.len
        rw [List.length_map] at this
        rw [HM.out]
        omega
      have HP2 : Hid (∀ j c, l[j]? = some c → c.kind ≠ 5 → cov (pre2.map (·.1)) j = true) := Lib.hid (by rw [← hpre2, List.map_append]; exact HP.out.all HL.out)
      obtain ⟨fn, tmps, assign, body, hy, hRd⟩ := HY.out (n - 1) pre ⟨(f, k), HP.out.last HL.out⟩ wr hJ hpl
      have hen : encQ (⟨(f, k), HP.out.last HL.out⟩ : PI l) = #[.int .i64 (f : Int), .int .i64 (k : Int)] := rfl
      rw [hen] at hy
      rw [hpre2] at hRd
      clear hen hpre2 hJ hpl HY
      gi_wp2_with fail
      refine ⟨fun h => (by cases h), hRd.mono ?_⟩
      rintro e w4 ⟨rfl, hJ4, hk4⟩
      gi_wp2
      go_end0
      exact ⟨⟨_, rfl⟩, pre2, HP2.out, hJ4⟩
end Go.Proofs.Ytnoenccpbbkdeaa
