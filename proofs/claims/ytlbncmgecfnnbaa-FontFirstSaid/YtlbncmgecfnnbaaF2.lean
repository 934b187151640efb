/- Contracts of slices.IndexFunc at a function value over ranges, and of font.numberOf, font.Advance, Up, Down, Gap, X, and of the document's Advance. Conditions: the numbers fit their kinds, the ranges lie in memory. -/
import Derived.Test.YtlbncmgecfnnbaaF1
import Derived.Shelf.RegionOpen
namespace Go.Proofs.Ytlbncmgecfnnbaa
open Go.ChangeShapes Go.WideShapes Go.ChangeAt Go.RowKit

/-- does a range contain r? -/
def inB (r : Int) (x : Rg) : Bool := decide (x.f ≤ r ∧ r ≤ x.t)

set_option maxHeartbeats 1000000 in
theorem fcl_any (x : Rg) (pr : Nat) (r : Int) (w : World) (hr : w.cell? ⟨pr, 0, none⟩ = some (.int .i32 r)) (hl : pr < w.heap.size) (h1 : W32 x.f ∧ W32 x.t) :
    Calls Try.prog 31 #[.agg #[.int .i32 x.f, .int .i32 x.t, .int .i64 x.a], .pointer (some ⟨pr, 0, none⟩)] w fun e w' => e = .returned (.bool (inB r x)) ∧ Below w.heap.size w w' := by
  obtain ⟨f, t, a⟩ := x
  simp only [W32] at h1
  have HB : Hid (Below w.heap.size w (w.alloc (.cells #[.int .i32 f, .int .i32 t, .int .i64 a] 38))) := below_alloc _ _
  by_cases ha : f ≤ r
  · by_cases hb : r ≤ t
    · have hf : inB r ⟨f, t, a⟩ = true := decide_eq_true ⟨ha, hb⟩
      rw [hf]
      clear hf
      go_enter Try.func31, Try.ntmps31
      go_wp2_with fail
      go_ret
      exact ⟨rfl, HB.out⟩
    · have hf : inB r ⟨f, t, a⟩ = false := decide_eq_false (by show ¬ (f ≤ r ∧ r ≤ t); omega)
      rw [hf]
      clear hf
      go_enter Try.func31, Try.ntmps31
      go_wp2_with fail
      go_ret
      exact ⟨rfl, HB.out⟩
  · have hf : inB r ⟨f, t, a⟩ = false := decide_eq_false (by show ¬ (f ≤ r ∧ r ≤ t); omega)
    rw [hf]
    clear hf
    go_enter Try.func31, Try.ntmps31
    go_wp2_with fail
    go_ret
    exact ⟨rfl, HB.out⟩

/-- the place of the first range for which p is true, or -1 -/
def Fst (p : Rg → Bool) (xs : List Rg) (z : Int) : Prop :=
  (∃ (k : Nat) (x : Rg), z = k ∧ xs[k]? = some x ∧ p x = true ∧ ∀ j y, j < k → xs[j]? = some y → p y = false) ∨ (z = -1 ∧ ∀ y ∈ xs, p y = false)

set_option maxHeartbeats 2000000 in
set_option maxRecDepth 100000 in
theorem ifn_any (g : Nat) (cb : Array Value) (F : Fnt) (p : Rg → Bool) (w : World) (hF : F.In w) (hw : F.Wf)
    (eg : ∀ args w, (callFunc g args).run Try.prog w = .ok (.enter g args) w)
    (hf : ∀ (W : World) (x : Rg), Below w.heap.size w W → x ∈ F.rs → Calls Try.prog g (#[.agg #[.int .i32 x.f, .int .i32 x.t, .int .i64 x.a]] ++ cb) W fun e W' => e = .returned (.bool (p x)) ∧ Below W.heap.size W W') :
    Calls Try.prog 30 #[F.v, .func (.func g) #[] cb] w fun e w' => ∃ z : Int, e = .returned (.int .i64 z) ∧ Hid (Fst p F.rs z) ∧ Below w.heap.size w w' := by
  have HF := Lib.hid hf
  have HI := Lib.hid hF
  have hlen := hw.len
  obtain ⟨A, c, hA⟩ := hF.form
  obtain ⟨n, hn⟩ : ∃ n, F.rs.length = n := ⟨_, rfl⟩
  have HN := Lib.hid hn
  have HV := Lib.hid hA
  rw [hA]
  rw [hn] at hlen hA HV ⊢
  clear hf hF hA hn hw
  go_enter Try.func30, Try.ntmps30
  go_wp2
  go_loopg [8] n (fun kx s8 wr => ∃ k : Nat, s8 = .int .i64 k ∧ k ≤ n ∧ kx = n - k ∧ Below w.heap.size w wr ∧ Hid (∀ j y, j < k → F.rs[j]? = some y → p y = false))
  case atStart => exact ⟨0, rfl, Nat.zero_le _, by omega, Below.refl _ _, fun j _ h => absurd h (Nat.not_lt_zero j)⟩
  case round =>
    obtain ⟨k, rfl, hk, rfl, bel, I⟩ := hrel
    by_cases hlt : k < n
    · have hkl : k < F.rs.length := by rw [HN.out]; exact hlt
      obtain ⟨x, hx⟩ : ∃ x, F.rs[k]? = some x := ⟨_, List.getElem?_eq_getElem hkl⟩
      have hc := HF.out wr x bel (List.mem_of_getElem? hx)
      obtain ⟨a, cap, o, hv, ha, c0, c1, c2⟩ := HI.out.get bel hx
      rw [HV.out] at hv
      injection hv with hv1 hv2 hv3
      subst hv1 hv3
      have HX := Lib.hid hx
      have hkz : (k : Int) < n := by omega
      clear hx hkl hv2
      cases hp : p x <;> rw [hp] at hc
      · have HP : Hid (p x = false) := hp
        clear hp
        go_wp2_with (go_at_fn g; refine hc.mono ?_; rintro e w' ⟨rfl, bw⟩)
        go_roundg (n - (k + 1))
        case measure => omega
        case rel =>
          refine ⟨k + 1, by go_num, by omega, rfl, bel.trans (bw.mono bel.size), fun j y hj hy => ?_⟩
          rcases Nat.lt_or_ge j k with h | h
          · exact I.out j y h hy
          · obtain rfl : j = k := by omega
            rw [HX.out] at hy
            injection hy with hy
            subst hy
            exact HP.out
      · have HP : Hid (p x = true) := hp
        clear hp
        go_wp2_with (go_at_fn g; refine hc.mono ?_; rintro e w' ⟨rfl, bw⟩)
        go_ret
        exact ⟨k, rfl, .inl ⟨k, x, rfl, HX.out, HP.out, I.out⟩, bel.trans (bw.mono bel.size)⟩
    · obtain rfl : k = n := by omega
      go_wp2
      go_ret
      refine ⟨-1, rfl, .inr ⟨rfl, fun y hy => ?_⟩, bel⟩
      obtain ⟨j, hj⟩ := List.getElem?_of_mem hy
      exact I.out j y (by rw [← HN.out]; exact (List.getElem?_eq_some_iff.1 hj).1) hj

/-! ### the first range, as a number -/
theorem fnd_at (o r : Int) : ∀ (l : List Rg) (k : Nat) (x : Rg), l[k]? = some x → inB r x = true → (∀ j y, j < k → l[j]? = some y → inB r y = false) → fnd o r l = x.a
  | [], _, _, h, _, _ => by simp at h
  | y :: l, 0, x, h, hx, _ => by
    injection h with h
    subst h
    rw [fnd, if_pos (of_decide_eq_true hx)]
  | y :: l, k + 1, x, h, hx, hj => by
    have h0 := hj 0 y (by omega) rfl
    rw [fnd, if_neg (of_decide_eq_false h0)]
    exact fnd_at o r l k x (by simpa using h) hx fun j y hj2 hy => hj (j + 1) y (by omega) (by simpa using hy)

theorem entersCl : ∀ args w, (callFunc 31 args).run Try.prog w = .ok (.enter 31 args) w := enters_of Try.func31 (by kernel_rfl) rfl

/-- the world in which IndexFunc is called: two boxes -/
def fbox (w : World) (F : Fnt) (r : Int) : World := (w.alloc (.cells F.cells 24)).alloc (.cells #[.int .i32 r] 21)
theorem fbox_facts {w W : World} {F : Fnt} {r : Int} (hF : F.In w) (hW : Below (fbox w F r).heap.size (fbox w F r) W) :
    (∀ j u, F.cells[j]? = some u → W.cell? ⟨w.heap.size, j, none⟩ = some u) ∧ W.cell? ⟨w.heap.size + 1, 0, none⟩ = some (.int .i32 r) ∧ w.heap.size + 1 < W.heap.size ∧ F.In W ∧ Below w.heap.size w W := by
  have b1 := below_alloc w (.cells F.cells 24)
  have b2 := below_alloc (w.alloc (.cells F.cells 24)) (.cells #[.int .i32 r] 21)
  have c1 := Blk.new w 24 F.cells
  have c2 := cell_new1 (w.alloc (.cells F.cells 24)) (.int .i32 r) 21
  have s1 : (w.alloc (.cells F.cells 24)).heap.size = w.heap.size + 1 := by simp
  have s2 : (fbox w F r).heap.size = w.heap.size + 2 := by simp [fbox]
  have s3 := hW.size
  rw [s1] at c2
  have c3 : Blk W w.heap.size 24 F.cells := (c1.keep (S := fun _ => False) (Mod.of_below b2) id).keep (S := fun _ => False) (Mod.of_below hW) id
  exact ⟨fun j u hj => (c3.cell j).trans hj, below_cell1 hW (by omega) c2, by omega, ((hF.below b1).below b2).below hW, below_seq b1 (below_seq b2 hW)⟩

set_option maxRecDepth 100000 in
set_option maxHeartbeats 2000000 in
theorem fnum_any (F : Fnt) (r : Int) (w : World) (hF : F.In w) (hw : F.Wf) :
    Calls Try.prog 25 #[F.val, .int .i32 r] w fun e w' => e = .returned (.int .i64 (fnd F.o r F.rs)) ∧ Below w.heap.size w w' := by
  have S : Hid (Calls Try.prog 30 #[F.v, .func (.func 31) #[] #[.pointer (some ⟨w.heap.size + 1, 0, none⟩)]] (fbox w F r) fun e w' => ∃ z : Int, e = .returned (.int .i64 z) ∧ Hid (Fst (inB r) F.rs z) ∧ Below (fbox w F r).heap.size (fbox w F r) w') := by
    refine ifn_any _ _ F (inB r) _ (fbox_facts hF (Below.refl _ _)).2.2.2.1 hw entersCl (fun W x hW hx => ?_)
    obtain ⟨_, h1, h2, _, _⟩ := fbox_facts hF hW
    exact fcl_any x _ r W h1 h2 ⟨(hw.rs x hx).1, (hw.rs x hx).2.1⟩
  have HT := Lib.hid hF
  have HL := Lib.hid hw.len
  obtain ⟨Fa, Fd, Fg, Fx, Fo, Fv, Frs⟩ := F
  simp only [Fnt.val, Fnt.cells, fbox] at S ⊢
  clear hF hw
  go_enter Try.func25, Try.ntmps25
  go_wp2_with fail
  refine S.out.mono ?_
  rintro e w1 ⟨z, rfl, HFst, b1⟩
  obtain ⟨h1, h2, h3, h4, hb⟩ := fbox_facts HT.out b1
  have c4 : w1.cell? ⟨w.heap.size, 4, none⟩ = some (.int .i64 Fo) := h1 4 _ rfl
  have c5 : w1.cell? ⟨w.heap.size, 5, none⟩ = some Fv := h1 5 _ rfl
  clear h1 h2 h3 b1 S
  rcases HFst.out with ⟨k, x, rfl, hk, hp, hj⟩ | ⟨rfl, hn⟩
  · have HE := Lib.hid (fnd_at Fo r Frs k x hk hp hj)
    have hkl := (List.getElem?_eq_some_iff.1 hk).1
    obtain ⟨a, cap, o, hv, ha, _, _, c2⟩ := h4.get (Below.refl _ w1) hk
    simp only at hv
    subst hv
    obtain ⟨n, hn⟩ : ∃ n, Frs.length = n := ⟨_, rfl⟩
    have hlen : n ≤ 9223372036854775807 := by rw [← hn]; exact HL.out
    rw [hn] at c5 hkl
    have hkz : (k : Int) < n := by omega
    clear hn hk hp hj h4
    go_wp2_with fail
    go_ret
    exact ⟨ret1 HE.out.symm, hb⟩
  · have HE := Lib.hid (fnd_out Fo r Frs (fun x hx h => by have := hn x hx; unfold inB at this; exact of_decide_eq_false this h))
    clear hn h4
    go_wp2_with fail
    go_ret
    exact ⟨ret1 HE.out.symm, hb⟩
end Go.Proofs.Ytlbncmgecfnnbaa
