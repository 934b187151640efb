/- Contracts of package pack: readList at its three types, (*Reader).Nums, Ints, Texts. Conditions: the pointer is a reader's, which has at most 1000000000 bytes left. -/
import Derived.Test.YtfhceblmjahgjaaPkR3
import Derived.Test.YtfhceblmjahgjaaPkW4
namespace Go.Proofs.Ytfhceblmjahgjaa
open Go.ChangeShapes Go.WideShapes Go.ChangeAt Go.RowKit

/-! ### plain maths -/
/-- m things are still to be read, xs have been: ys and q0 are what comes out in the end -/
def Rest {α : Type} (f : Pk.Left → α × Pk.Left) (m : Nat) (q1 : Pk.Left) (xs ys : List α) (q0 : Pk.Left) : Prop :=
  (ys, q0) = match (Pk.rMany f m q1).2 with | none => ([], none) | some t => (xs ++ (Pk.rMany f m q1).1, some t)

theorem Rest.none {α : Type} {f : Pk.Left → α × Pk.Left} {m : Nat} {xs ys : List α} {q0 : Pk.Left} (h : Rest f m none xs ys q0) : ys = [] ∧ q0 = none := by
  unfold Rest at h
  rw [Pk.rMany_none] at h
  simpa using h
theorem Rest.step {α : Type} {f : Pk.Left → α × Pk.Left} {m : Nat} {l : List Nat} {xs ys : List α} {q0 : Pk.Left} (h : Rest f (m + 1) (some l) xs ys q0) : Rest f m (f (some l)).2 (xs ++ [(f (some l)).1]) ys q0 := by
  unfold Rest at h ⊢
  rw [Pk.rMany] at h
  rw [h]
  cases (Pk.rMany f m (f (some l)).2).2 with
  | none => rfl
  | some t => simp
theorem Rest.done {α : Type} {f : Pk.Left → α × Pk.Left} {l : List Nat} {xs ys : List α} {q0 : Pk.Left} (h : Rest f 0 (some l) xs ys q0) : ys = xs ∧ q0 = some l := by
  unfold Rest at h
  simpa [Pk.rMany] using h

theorem flat_ge {α : Type} {e : α → List Nat} : ∀ (xs : List α), (∀ x ∈ xs, e x ≠ []) → xs.length ≤ (xs.flatMap e).length
  | [], _ => by simp
  | x :: r, h => by
    have ih := flat_ge r (fun y hy => h y (by simp [hy]))
    have := List.length_pos_iff.2 (h x (by simp))
    rw [List.flatMap_cons, List.length_append, List.length_cons]
    omega

theorem rMany_long {α : Type} {ok : α → Prop} {e : α → List Nat} {f : Pk.Left → α × Pk.Left} {z : α} (W : Pk.Way ok e f z) (n : Nat) (t : List Nat) (ht : ∀ b ∈ t, b < 256) (h : t.length < n) : (Pk.rMany f n (some t)).2 = none := by
  cases hq : (Pk.rMany f n (some t)).2 with
  | none => rfl
  | some u =>
    have := Pk.many_same W n t (Pk.rMany f n (some t)).1 u ht (by rw [← hq])
    have h2 := flat_ge (e := e) (Pk.rMany f n (some t)).1 (fun x hx => W.ne x (this.2.2 x hx))
    have h3 := congrArg List.length this.1
    rw [List.length_append] at h3
    omega

theorem rList_count {α : Type} {ok : α → Prop} {e : α → List Nat} {f : Pk.Left → α × Pk.Left} {z : α} (W : Pk.Way ok e f z) (q : Pk.Left) (hq : ∀ l, q = some l → ∀ b ∈ l, b < 256) :
    Rest f (Pk.rCount q).1 (Pk.rCount q).2 [] (Pk.rList f q).1 (Pk.rList f q).2 ∧ ((Pk.rCount q).2 = none → (Pk.rCount q).1 = 0) := by
  have hbad := Pk.rNum_bad q
  have hsame : ∀ t, (Pk.rNum q).2 = some t → ∀ b ∈ t, b < 256 := by
    intro t ht b hb
    cases q with
    | none => cases ht
    | some l =>
      have := Pk.wayNum.same l _ t (hq l rfl) (by rw [← ht])
      exact hq l rfl b (by rw [this.1]; exact List.mem_append.2 (.inr hb))
  unfold Pk.rCount Pk.rList Rest
  cases hr : (Pk.rNum q).2 with
  | none =>
    have h0 := hbad hr
    simp [h0, Pk.rMany]
  | some t =>
    simp only
    by_cases hlt : t.length < (Pk.rNum q).1
    · simp [if_pos hlt, rMany_long W _ t (hsame t hr) hlt, Pk.rMany]
    · rw [if_neg hlt]
      simp only
      refine ⟨?_, fun h => by cases h⟩
      cases (Pk.rMany f (Pk.rNum q).1 (some t)).2 with
      | none => rfl
      | some u => simp

theorem rCount_small {w : World} {p : Nat} {q : Pk.Left} (h : Rdx w p q) : (Pk.rCount q).1 ≤ 1000000000 := by
  have hle := rCount_le q
  cases hq : (Pk.rCount q).2 with
  | none => rw [hq] at hle; simp only at hle; omega
  | some t =>
    rw [hq] at hle
    simp only at hle
    have ht : (Pk.rNum q).2 = some t := by
      unfold Pk.rCount at hq
      cases hr : (Pk.rNum q).2 with
      | none => rw [hr] at hq; simp at hq
      | some u =>
        rw [hr] at hq
        simp only at hq
        split at hq
        · cases hq
        · simpa using hq
    cases q with
    | none => cases ht
    | some l =>
      have := Pk.wayNum.same l _ t h.len.2 (by rw [← ht])
      have h2 := congrArg List.length this.1
      rw [List.length_append] at h2
      have := h.len.1
      omega

/-! ### uint64 -/
theorem Try.info_num : (Try.prog.info? 28).map (fun i => (i.zero, i.size, i.bytes)) = some (some (.int .u64 0), 1, 8) := by kernel_rfl

/-- a slice of new things that were read -/
def LPost_num (w : World) (p : Nat) (q : Pk.Left) (l : List Nat) (e : Ending) (w' : World) : Prop :=
  (∃ (v : Value) (ys : List Nat), e = .returned v ∧ w'.ownsRow w.heap.size 28 1 v ys.length (ys.map fN) ∧ ys.map (fun x => x) = l ∧ ys.length ≤ 1000000000) ∧ Rdx w' p q ∧ Mod (At p) w w'

set_option maxRecDepth 100000 in
set_option maxHeartbeats 2000000 in
theorem rlist_num (p : Nat) (q : Pk.Left) (w : World) (h : Rdx w p q) :
    Calls Try.prog 59 #[ptr p, .func (.func 27) #[ptr p] #[]] w (LPost_num w p (Pk.rList Pk.rNum q).2 (Pk.rList Pk.rNum q).1) := by
  obtain ⟨i0, hi, hz0, hz1, hz2⟩ := info_parts Try.info_num
  have HI := Lib.hid (And.intro hi (And.intro hz0 (And.intro hz1 hz2)))
  clear hi hz0 hz1 hz2
  have C := Lib.hid (rcount_any p q w h)
  have hlist := rList_count Pk.wayNum q (fun l e => by subst e; exact h.len.2)
  have hp : p < w.heap.size := h.lt
  have hcl : (Pk.rCount q).1 ≤ 1000000000 := rCount_small h
  generalize Pk.rList Pk.rNum q = R at *
  generalize Pk.rCount q = r at *
  obtain ⟨n, t⟩ := r
  obtain ⟨ys0, q0⟩ := R
  simp only at hlist C hcl ⊢
  have HL := Lib.hid hlist
  clear hlist h
  go_enter Try.func59, Try.ntmps59
  go_wp2_with fail
  refine C.out.mono ?_
  rintro e w1 ⟨rfl, hx, hm⟩
  have HX := Lib.hid hx
  have HM := Lib.hid hm
  clear hx hm
  go_wp2_with fail
  go_loopg [5, 8] n (fun g s5 s8 wx => ∃ (k : Nat) (ys : List Nat) (q1 : Pk.Left), s8 = .int .i64 k ∧ k + g = n ∧ ys.length = k ∧ wx.ownsRow w.heap.size 28 1 s5 ys.length (ys.map fN) ∧ Rdx wx p q1 ∧ Mod (At p) w wx ∧ Hid (Rest Pk.rNum (n - k) q1 (ys.map (fun x => x)) ys0 q0 ∧ (q1 = none → n = 0)))
  case atStart =>
    refine ⟨0, [], t, rfl, by omega, rfl, World.ownsRow_nil _ _ _ _, HX.out, HM.out, ?_⟩
    exact HL.out
  case round =>
    obtain ⟨k, ys, q1, rfl, hk, hyk, hown, hx, hm, HR⟩ := hrel
    have HOWN := Lib.hid hown
    have HX1 := Lib.hid hx
    have HM1 := Lib.hid hm
    have hsz := hm.size
    have HYK := Lib.hid hyk
    clear hown hx hm HX HM hyk
    by_cases hlt : k < n
    · obtain ⟨l1, hl1⟩ : ∃ l1, q1 = some l1 := by
        cases q1 with
        | none => have := HR.out.2 rfl; omega
        | some l1 => exact ⟨l1, rfl⟩
      subst hl1
      have hstep : Rest Pk.rNum (n - (k + 1)) (Pk.rNum (some l1)).2 (ys.map (fun x => x) ++ [(Pk.rNum (some l1)).1]) ys0 q0 := by
        have := HR.out.1
        rw [show n - k = (n - (k + 1)) + 1 by omega] at this
        exact this.step
      have C2 := Lib.hid (rnum_any p (some l1) wr HX1.out)
      generalize Pk.rNum (some l1) = X at *
      obtain ⟨x0, q2⟩ := X
      simp only at hstep C2
      have HST := Lib.hid hstep
      clear hstep
      go_wp2_with fail
      refine C2.out.mono ?_
      rintro e w2 ⟨rfl, hx2, hm2⟩
      have hown2 := own_keep HOWN.out hm2 (fun j hj => by have := HOWN.out.lt j hj; show ¬ j = p; omega)
      have HM2 := Lib.hid hm2
      have HX2 := Lib.hid hx2
      have hsz2 := hm2.size
      clear hm2 hx2
      go_wp2_with (at_builtin; refine wpList_append_own _ rfl _ _ 29 rfl w.heap.size 28 i0 (.int .u64 0) 1 8 Try.underlying29 HI.out.1 HI.out.2.1 HI.out.2.2.1 HI.out.2.2.2 rfl (by decide) _ _ _ rfl (hown2.alloc _) ⟨w2.heap.size, 0, none⟩ 1 1 [fN x0] rfl rfl ?c1 ?c2 ?c3 ?c4 ?c5 ?_)
      case c1 =>
        intro j u hj
        match j, hj with
        | 0, hj => simp at hj; subst hj; simp [Addr.add]; rfl
        | (j + 1), hj => simp at hj
      case c2 => intro u hu; simp at hu; subst hu; rfl
      case c3 => unfold maxLen; have := HYK.out; omega
      case c4 => have := HYK.out; omega
      case c5 => simp; omega
      intro v' w3 hown3 hgrow _
      have HM3 : Hid (Mod (At p) w w3) := (((HM1.out.trans HM2.out).alloc _).grown hgrow (fun j hj => .inr (hown2.lt j hj).1))
      have hmx : Mod (fun j => w.heap.size ≤ j) w2 w3 := (((Mod.refl (fun j => w.heap.size ≤ j) w2).alloc _).grown hgrow (fun j hj => .inl (hown2.lt j hj).1))
      have hx3 : Rdx w3 p q2 := HX2.out.keep hmx (by omega)
      have HX3 := Lib.hid hx3
      have HO3 : Hid (w3.ownsRow w.heap.size 28 1 v' (ys ++ [x0]).length ((ys ++ [x0]).map fN)) := by
        show World.ownsRow _ _ _ _ _ _ _
        rw [List.length_append, List.map_append]
        exact hown3
      obtain ⟨s3, hr3, _⟩ := hx3
      have C4 := Lib.hid (rfine_any p q2 s3 w3 hr3)
      clear hmx hr3 hown3 hgrow hown2
      cases q2 with
      | none =>
        go_wp2_with fail
        refine C4.out.mono ?_
        rintro e w' ⟨rfl, rfl⟩
        go_wp2_with fail
        go_ret
        obtain ⟨rfl, rfl⟩ := HST.out.none
        exact ⟨⟨_, [], rfl, World.ownsRow_nil _ _ _ _, rfl, by simp⟩, HX3.out, HM3.out⟩
      | some l2 =>
        go_wp2_with fail
        refine C4.out.mono ?_
        rintro e w' ⟨rfl, rfl⟩
        go_wp2_with fail
        go_roundg (n - (k + 1))
        case measure => omega
        case rel =>
          refine ⟨k + 1, ys ++ [x0], some l2, by go_num, by omega, by rw [List.length_append, HYK.out]; rfl, HO3.out, HX3.out, HM3.out, ?_, fun h => by cases h⟩
          have := HST.out
          rw [List.map_append]
          exact this
    · obtain rfl : k = n := by omega
      have hR := HR.out
      rw [Nat.sub_self] at hR
      have hfin : ys.map (fun x => x) = ys0 ∧ q0 = q1 := by
        cases q1 with
        | none =>
          have h0 := hR.2 rfl
          have := HYK.out
          have hy : ys = [] := List.length_eq_zero_iff.1 (by omega)
          subst hy
          obtain ⟨rfl, rfl⟩ := hR.1.none
          exact ⟨rfl, rfl⟩
        | some l1 =>
          obtain ⟨h1, h2⟩ := hR.1.done
          exact ⟨h1.symm, h2⟩
      have HF := Lib.hid hfin
      clear hfin hR
      go_wp2_with fail
      go_ret
      have hf := HF.out
      rw [hf.2]
      exact ⟨⟨_, ys, rfl, HOWN.out, hf.1, by have := HYK.out; omega⟩, HX1.out, HM1.out⟩

set_option maxRecDepth 100000 in
set_option maxHeartbeats 1000000 in
theorem rnums_any (p : Nat) (q : Pk.Left) (w : World) (h : Rdx w p q) :
    Calls Try.prog 24 #[ptr p] w (LPost_num w p (Pk.rList Pk.rNum q).2 (Pk.rList Pk.rNum q).1) := by
  have C := Lib.hid (rlist_num p q w h)
  clear h
  go_enter Try.func24, Try.ntmps24
  go_wp2_with fail
  refine C.out.mono ?_
  rintro e w' ⟨⟨v, ys, rfl, ho, hy⟩, hx⟩
  have HO := Lib.hid ho
  clear ho
  go_wp2_with fail
  go_ret
  exact ⟨⟨_, ys, rfl, HO.out, hy⟩, hx⟩

/-! ### int64 -/
theorem Try.info_int : (Try.prog.info? 2).map (fun i => (i.zero, i.size, i.bytes)) = some (some (.int .i64 0), 1, 8) := by kernel_rfl

/-- a slice of new things that were read -/
def LPost_int (w : World) (p : Nat) (q : Pk.Left) (l : List Int) (e : Ending) (w' : World) : Prop :=
  (∃ (v : Value) (ys : List Int), e = .returned v ∧ w'.ownsRow w.heap.size 2 1 v ys.length (ys.map fI) ∧ ys.map (fun x => x) = l ∧ ys.length ≤ 1000000000) ∧ Rdx w' p q ∧ Mod (At p) w w'

set_option maxRecDepth 100000 in
set_option maxHeartbeats 2000000 in
theorem rlist_int (p : Nat) (q : Pk.Left) (w : World) (h : Rdx w p q) :
    Calls Try.prog 60 #[ptr p, .func (.func 21) #[ptr p] #[]] w (LPost_int w p (Pk.rList Pk.rInt q).2 (Pk.rList Pk.rInt q).1) := by
  obtain ⟨i0, hi, hz0, hz1, hz2⟩ := info_parts Try.info_int
  have HI := Lib.hid (And.intro hi (And.intro hz0 (And.intro hz1 hz2)))
  clear hi hz0 hz1 hz2
  have C := Lib.hid (rcount_any p q w h)
  have hlist := rList_count Pk.wayInt q (fun l e => by subst e; exact h.len.2)
  have hp : p < w.heap.size := h.lt
  have hcl : (Pk.rCount q).1 ≤ 1000000000 := rCount_small h
  generalize Pk.rList Pk.rInt q = R at *
  generalize Pk.rCount q = r at *
  obtain ⟨n, t⟩ := r
  obtain ⟨ys0, q0⟩ := R
  simp only at hlist C hcl ⊢
  have HL := Lib.hid hlist
  clear hlist h
  go_enter Try.func60, Try.ntmps60
  go_wp2_with fail
  refine C.out.mono ?_
  rintro e w1 ⟨rfl, hx, hm⟩
  have HX := Lib.hid hx
  have HM := Lib.hid hm
  clear hx hm
  go_wp2_with fail
  go_loopg [5, 8] n (fun g s5 s8 wx => ∃ (k : Nat) (ys : List Int) (q1 : Pk.Left), s8 = .int .i64 k ∧ k + g = n ∧ ys.length = k ∧ wx.ownsRow w.heap.size 2 1 s5 ys.length (ys.map fI) ∧ Rdx wx p q1 ∧ Mod (At p) w wx ∧ Hid (Rest Pk.rInt (n - k) q1 (ys.map (fun x => x)) ys0 q0 ∧ (q1 = none → n = 0)))
  case atStart =>
    refine ⟨0, [], t, rfl, by omega, rfl, World.ownsRow_nil _ _ _ _, HX.out, HM.out, ?_⟩
    exact HL.out
  case round =>
    obtain ⟨k, ys, q1, rfl, hk, hyk, hown, hx, hm, HR⟩ := hrel
    have HOWN := Lib.hid hown
    have HX1 := Lib.hid hx
    have HM1 := Lib.hid hm
    have hsz := hm.size
    have HYK := Lib.hid hyk
    clear hown hx hm HX HM hyk
    by_cases hlt : k < n
    · obtain ⟨l1, hl1⟩ : ∃ l1, q1 = some l1 := by
        cases q1 with
        | none => have := HR.out.2 rfl; omega
        | some l1 => exact ⟨l1, rfl⟩
      subst hl1
      have hstep : Rest Pk.rInt (n - (k + 1)) (Pk.rInt (some l1)).2 (ys.map (fun x => x) ++ [(Pk.rInt (some l1)).1]) ys0 q0 := by
        have := HR.out.1
        rw [show n - k = (n - (k + 1)) + 1 by omega] at this
        exact this.step
      have C2 := Lib.hid (rint_any p (some l1) wr HX1.out)
      generalize Pk.rInt (some l1) = X at *
      obtain ⟨x0, q2⟩ := X
      simp only at hstep C2
      have HST := Lib.hid hstep
      clear hstep
      go_wp2_with fail
      refine C2.out.mono ?_
      rintro e w2 ⟨rfl, hx2, hm2⟩
      have hown2 := own_keep HOWN.out hm2 (fun j hj => by have := HOWN.out.lt j hj; show ¬ j = p; omega)
      have HM2 := Lib.hid hm2
      have HX2 := Lib.hid hx2
      have hsz2 := hm2.size
      clear hm2 hx2
      go_wp2_with (at_builtin; refine wpList_append_own _ rfl _ _ 30 rfl w.heap.size 2 i0 (.int .i64 0) 1 8 Try.underlying30 HI.out.1 HI.out.2.1 HI.out.2.2.1 HI.out.2.2.2 rfl (by decide) _ _ _ rfl (hown2.alloc _) ⟨w2.heap.size, 0, none⟩ 1 1 [fI x0] rfl rfl ?c1 ?c2 ?c3 ?c4 ?c5 ?_)
      case c1 =>
        intro j u hj
        match j, hj with
        | 0, hj => simp at hj; subst hj; simp [Addr.add]; rfl
        | (j + 1), hj => simp at hj
      case c2 => intro u hu; simp at hu; subst hu; rfl
      case c3 => unfold maxLen; have := HYK.out; omega
      case c4 => have := HYK.out; omega
      case c5 => simp; omega
      intro v' w3 hown3 hgrow _
      have HM3 : Hid (Mod (At p) w w3) := (((HM1.out.trans HM2.out).alloc _).grown hgrow (fun j hj => .inr (hown2.lt j hj).1))
      have hmx : Mod (fun j => w.heap.size ≤ j) w2 w3 := (((Mod.refl (fun j => w.heap.size ≤ j) w2).alloc _).grown hgrow (fun j hj => .inl (hown2.lt j hj).1))
      have hx3 : Rdx w3 p q2 := HX2.out.keep hmx (by omega)
      have HX3 := Lib.hid hx3
      have HO3 : Hid (w3.ownsRow w.heap.size 2 1 v' (ys ++ [x0]).length ((ys ++ [x0]).map fI)) := by
        show World.ownsRow _ _ _ _ _ _ _
        rw [List.length_append, List.map_append]
        exact hown3
      obtain ⟨s3, hr3, _⟩ := hx3
      have C4 := Lib.hid (rfine_any p q2 s3 w3 hr3)
      clear hmx hr3 hown3 hgrow hown2
      cases q2 with
      | none =>
        go_wp2_with fail
        refine C4.out.mono ?_
        rintro e w' ⟨rfl, rfl⟩
        go_wp2_with fail
        go_ret
        obtain ⟨rfl, rfl⟩ := HST.out.none
        exact ⟨⟨_, [], rfl, World.ownsRow_nil _ _ _ _, rfl, by simp⟩, HX3.out, HM3.out⟩
      | some l2 =>
        go_wp2_with fail
        refine C4.out.mono ?_
        rintro e w' ⟨rfl, rfl⟩
        go_wp2_with fail
        go_roundg (n - (k + 1))
        case measure => omega
        case rel =>
          refine ⟨k + 1, ys ++ [x0], some l2, by go_num, by omega, by rw [List.length_append, HYK.out]; rfl, HO3.out, HX3.out, HM3.out, ?_, fun h => by cases h⟩
          have := HST.out
          rw [List.map_append]
          exact this
    · obtain rfl : k = n := by omega
      have hR := HR.out
      rw [Nat.sub_self] at hR
      have hfin : ys.map (fun x => x) = ys0 ∧ q0 = q1 := by
        cases q1 with
        | none =>
          have h0 := hR.2 rfl
          have := HYK.out
          have hy : ys = [] := List.length_eq_zero_iff.1 (by omega)
          subst hy
          obtain ⟨rfl, rfl⟩ := hR.1.none
          exact ⟨rfl, rfl⟩
        | some l1 =>
          obtain ⟨h1, h2⟩ := hR.1.done
          exact ⟨h1.symm, h2⟩
      have HF := Lib.hid hfin
      clear hfin hR
      go_wp2_with fail
      go_ret
      have hf := HF.out
      rw [hf.2]
      exact ⟨⟨_, ys, rfl, HOWN.out, hf.1, by have := HYK.out; omega⟩, HX1.out, HM1.out⟩

set_option maxRecDepth 100000 in
set_option maxHeartbeats 1000000 in
theorem rints_any (p : Nat) (q : Pk.Left) (w : World) (h : Rdx w p q) :
    Calls Try.prog 25 #[ptr p] w (LPost_int w p (Pk.rList Pk.rInt q).2 (Pk.rList Pk.rInt q).1) := by
  have C := Lib.hid (rlist_int p q w h)
  clear h
  go_enter Try.func25, Try.ntmps25
  go_wp2_with fail
  refine C.out.mono ?_
  rintro e w' ⟨⟨v, ys, rfl, ho, hy⟩, hx⟩
  have HO := Lib.hid ho
  clear ho
  go_wp2_with fail
  go_ret
  exact ⟨⟨_, ys, rfl, HO.out, hy⟩, hx⟩

/-! ### string -/
theorem Try.info_text : (Try.prog.info? 9).map (fun i => (i.zero, i.size, i.bytes)) = some (some (.string ByteArray.empty), 1, 16) := by kernel_rfl

/-- a slice of new things that were read -/
def LPost_text (w : World) (p : Nat) (q : Pk.Left) (l : List (List Nat)) (e : Ending) (w' : World) : Prop :=
  (∃ (v : Value) (ys : List ByteArray), e = .returned v ∧ w'.ownsRow w.heap.size 9 1 v ys.length (ys.map fS) ∧ ys.map bs = l ∧ ys.length ≤ 1000000000) ∧ Rdx w' p q ∧ Mod (At p) w w'

set_option maxRecDepth 100000 in
set_option maxHeartbeats 2000000 in
theorem rlist_text (p : Nat) (q : Pk.Left) (w : World) (h : Rdx w p q) :
    Calls Try.prog 61 #[ptr p, .func (.func 23) #[ptr p] #[]] w (LPost_text w p (Pk.rList Pk.rText q).2 (Pk.rList Pk.rText q).1) := by
  obtain ⟨i0, hi, hz0, hz1, hz2⟩ := info_parts Try.info_text
  have HI := Lib.hid (And.intro hi (And.intro hz0 (And.intro hz1 hz2)))
  clear hi hz0 hz1 hz2
  have C := Lib.hid (rcount_any p q w h)
  have hlist := rList_count Pk.wayText q (fun l e => by subst e; exact h.len.2)
  have hp : p < w.heap.size := h.lt
  have hcl : (Pk.rCount q).1 ≤ 1000000000 := rCount_small h
  generalize Pk.rList Pk.rText q = R at *
  generalize Pk.rCount q = r at *
  obtain ⟨n, t⟩ := r
  obtain ⟨ys0, q0⟩ := R
  simp only at hlist C hcl ⊢
  have HL := Lib.hid hlist
  clear hlist h
  go_enter Try.func61, Try.ntmps61
  go_wp2_with fail
  refine C.out.mono ?_
  rintro e w1 ⟨rfl, hx, hm⟩
  have HX := Lib.hid hx
  have HM := Lib.hid hm
  clear hx hm
  go_wp2_with fail
  go_loopg [5, 8] n (fun g s5 s8 wx => ∃ (k : Nat) (ys : List ByteArray) (q1 : Pk.Left), s8 = .int .i64 k ∧ k + g = n ∧ ys.length = k ∧ wx.ownsRow w.heap.size 9 1 s5 ys.length (ys.map fS) ∧ Rdx wx p q1 ∧ Mod (At p) w wx ∧ Hid (Rest Pk.rText (n - k) q1 (ys.map bs) ys0 q0 ∧ (q1 = none → n = 0)))
  case atStart =>
    refine ⟨0, [], t, rfl, by omega, rfl, World.ownsRow_nil _ _ _ _, HX.out, HM.out, ?_⟩
    exact HL.out
  case round =>
    obtain ⟨k, ys, q1, rfl, hk, hyk, hown, hx, hm, HR⟩ := hrel
    have HOWN := Lib.hid hown
    have HX1 := Lib.hid hx
    have HM1 := Lib.hid hm
    have hsz := hm.size
    have HYK := Lib.hid hyk
    clear hown hx hm HX HM hyk
    by_cases hlt : k < n
    · obtain ⟨l1, hl1⟩ : ∃ l1, q1 = some l1 := by
        cases q1 with
        | none => have := HR.out.2 rfl; omega
        | some l1 => exact ⟨l1, rfl⟩
      subst hl1
      have hstep : Rest Pk.rText (n - (k + 1)) (Pk.rText (some l1)).2 (ys.map bs ++ [(Pk.rText (some l1)).1]) ys0 q0 := by
        have := HR.out.1
        rw [show n - k = (n - (k + 1)) + 1 by omega] at this
        exact this.step
      have C2 := Lib.hid (rtext_any p (some l1) wr HX1.out)
      generalize Pk.rText (some l1) = X at *
      obtain ⟨x0, q2⟩ := X
      simp only at hstep C2
      have HST := Lib.hid hstep
      clear hstep
      go_wp2_with fail
      refine C2.out.mono ?_
      rintro e w2 ⟨⟨sx, rfl, hsx, hsl⟩, hx2, hm2⟩
      have HSX := Lib.hid hsx
      clear hsx
      have hown2 := own_keep HOWN.out hm2 (fun j hj => by have := HOWN.out.lt j hj; show ¬ j = p; omega)
      have HM2 := Lib.hid hm2
      have HX2 := Lib.hid hx2
      have hsz2 := hm2.size
      clear hm2 hx2
      go_wp2_with (at_builtin; refine wpList_append_own _ rfl _ _ 31 rfl w.heap.size 9 i0 (.string ByteArray.empty) 1 16 Try.underlying31 HI.out.1 HI.out.2.1 HI.out.2.2.1 HI.out.2.2.2 rfl (by decide) _ _ _ rfl (hown2.alloc _) ⟨w2.heap.size, 0, none⟩ 1 1 [fS sx] rfl rfl ?c1 ?c2 ?c3 ?c4 ?c5 ?_)
      case c1 =>
        intro j u hj
        match j, hj with
        | 0, hj => simp at hj; subst hj; simp [Addr.add]; rfl
        | (j + 1), hj => simp at hj
      case c2 => intro u hu; simp at hu; subst hu; rfl
      case c3 => unfold maxLen; have := HYK.out; omega
      case c4 => have := HYK.out; omega
      case c5 => simp; omega
      intro v' w3 hown3 hgrow _
      have HM3 : Hid (Mod (At p) w w3) := (((HM1.out.trans HM2.out).alloc _).grown hgrow (fun j hj => .inr (hown2.lt j hj).1))
      have hmx : Mod (fun j => w.heap.size ≤ j) w2 w3 := (((Mod.refl (fun j => w.heap.size ≤ j) w2).alloc _).grown hgrow (fun j hj => .inl (hown2.lt j hj).1))
      have hx3 : Rdx w3 p q2 := HX2.out.keep hmx (by omega)
      have HX3 := Lib.hid hx3
      have HO3 : Hid (w3.ownsRow w.heap.size 9 1 v' (ys ++ [sx]).length ((ys ++ [sx]).map fS)) := by
        show World.ownsRow _ _ _ _ _ _ _
        rw [List.length_append, List.map_append]
        exact hown3
      obtain ⟨s3, hr3, _⟩ := hx3
      have C4 := Lib.hid (rfine_any p q2 s3 w3 hr3)
      clear hmx hr3 hown3 hgrow hown2
      cases q2 with
      | none =>
        go_wp2_with fail
        refine C4.out.mono ?_
        rintro e w' ⟨rfl, rfl⟩
        go_wp2_with fail
        go_ret
        obtain ⟨rfl, rfl⟩ := HST.out.none
        exact ⟨⟨_, [], rfl, World.ownsRow_nil _ _ _ _, rfl, by simp⟩, HX3.out, HM3.out⟩
      | some l2 =>
        go_wp2_with fail
        refine C4.out.mono ?_
        rintro e w' ⟨rfl, rfl⟩
        go_wp2_with fail
        go_roundg (n - (k + 1))
        case measure => omega
        case rel =>
          refine ⟨k + 1, ys ++ [sx], some l2, by go_num, by omega, by rw [List.length_append, HYK.out]; rfl, HO3.out, HX3.out, HM3.out, ?_, fun h => by cases h⟩
          have := HST.out
          rw [List.map_append]
          rw [List.map_singleton, HSX.out]
          exact this
    · obtain rfl : k = n := by omega
      have hR := HR.out
      rw [Nat.sub_self] at hR
      have hfin : ys.map bs = ys0 ∧ q0 = q1 := by
        cases q1 with
        | none =>
          have h0 := hR.2 rfl
          have := HYK.out
          have hy : ys = [] := List.length_eq_zero_iff.1 (by omega)
          subst hy
          obtain ⟨rfl, rfl⟩ := hR.1.none
          exact ⟨rfl, rfl⟩
        | some l1 =>
          obtain ⟨h1, h2⟩ := hR.1.done
          exact ⟨h1.symm, h2⟩
      have HF := Lib.hid hfin
      clear hfin hR
      go_wp2_with fail
      go_ret
      have hf := HF.out
      rw [hf.2]
      exact ⟨⟨_, ys, rfl, HOWN.out, hf.1, by have := HYK.out; omega⟩, HX1.out, HM1.out⟩

set_option maxRecDepth 100000 in
set_option maxHeartbeats 1000000 in
theorem rtexts_any (p : Nat) (q : Pk.Left) (w : World) (h : Rdx w p q) :
    Calls Try.prog 26 #[ptr p] w (LPost_text w p (Pk.rList Pk.rText q).2 (Pk.rList Pk.rText q).1) := by
  have C := Lib.hid (rlist_text p q w h)
  clear h
  go_enter Try.func26, Try.ntmps26
  go_wp2_with fail
  refine C.out.mono ?_
  rintro e w' ⟨⟨v, ys, rfl, ho, hy⟩, hx⟩
  have HO := Lib.hid ho
  clear ho
  go_wp2_with fail
  go_ret
  exact ⟨⟨_, ys, rfl, HO.out, hy⟩, hx⟩
end Go.Proofs.Ytfhceblmjahgjaa
