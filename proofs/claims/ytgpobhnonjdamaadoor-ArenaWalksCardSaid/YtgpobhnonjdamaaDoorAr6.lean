/- Contracts of arena's within, depthAfter, validKind, allowed, checkLength. Conditions: the nodes lie where the slice says; the tables lie as the program's text lays them. -/
import Derived.Test.YtgpobhnonjdamaaDoorAr4
import Derived.Test.YtgpobhnonjdamaaDoorYS
namespace Go.Proofs.YtgpobhnonjdamaaDoor
open Go.ChangeShapes Go.WideShapes Go.ChangeAt Go.RowKit

/-- numbers that fit their kinds, as far as they count -/
structure WfN (x : Nod) : Prop where
  k0 : 0 ≤ x.k
  k1 : x.k ≤ 255
  d : x.d.n < 65536
  t : x.t.size ≤ 9223372036854775807
  vk : 0 ≤ x.vk
def WfL (l : List Nod) : Prop := ∀ (i : Nat) (x : Nod), l[i]? = some x → WfN x

set_option maxRecDepth 100000 in
set_option maxHeartbeats 1000000 in
theorem awithin_any (z lo hi : Int) (w : World) :
    Calls Tryd.prog 69 #[.int .i64 z, .int .i64 lo, .int .i64 hi] w fun e w' => e = .returned (.bool (decide (lo ≤ z) && decide (z ≤ hi))) ∧ w = w' := by
  by_cases h1 : lo ≤ z
  · rw [decide_eq_true h1, Bool.true_and]
    go_enter Tryd.func69, Tryd.ntmps69
    go_wp2_with fail
    go_ret
    exact ⟨rfl, rfl⟩
  · have h3 : z < lo := by omega
    rw [decide_eq_false h1, Bool.false_and]
    clear h1
    go_enter Tryd.func69, Tryd.ntmps69
    go_wp2_with fail
    go_ret
    exact ⟨rfl, rfl⟩

theorem pr_take {l : List Nod} {n i : Nat} {x : Nod} (h : i < n) (hx : l[i]? = some x) : pr (psOf (l.take n)) i = x.p := pr_of (by rw [List.getElem?_take_of_lt h]; exact hx)

set_option maxRecDepth 100000 in
set_option maxHeartbeats 2000000 in
theorem adepa_any (l : List Nod) (v : Value) (n : Nat) (x : Nod) (last : Int) (w : World) (hR : Ns w v l) (hlen : l.length ≤ 1048576) (hx : l[n]? = some x) (hP : PreOk (l.take n) last) :
    Calls Tryd.prog 58 #[v, .int .i64 (n : Int), .int .i64 last] w fun e w' => e = .returned (.int .i64 (depA (psOf (l.take n)) x.p last)) ∧ w = w' := by
  have HR := Lib.hid hR
  have HX := Lib.hid hx
  have hn : n < l.length := (List.getElem?_eq_some_iff.1 hx).1
  have hlt : (psOf (l.take n)).length = n := by rw [psOf_len, List.length_take]; omega
  have hlast : -1 ≤ last ∧ last ≤ 1048576 := by
    rcases hP.tree with ⟨_, rfl⟩ | ⟨h1, rfl⟩
    · omega
    · have := dep_le h1 ((l.take n).length - 1)
      have : (l.take n).length ≤ l.length := by rw [List.length_take]; omega
      omega
  have HPB : Hid (∀ i y, i < n → l[i]? = some y → -1 ≤ y.p ∧ y.p < i) := fun i y hi hy => by
    rcases hP.tree with ⟨h1, _⟩ | ⟨h1, _⟩
    · rw [List.length_take] at h1; omega
    · exact par_bd h1 (by rw [List.getElem?_take_of_lt hi]; exact hy)
  obtain ⟨ad0, cap0, o0, hv0, _, ha0, hLi0⟩ := hR.get (Below.refl _ _) hx
  have hc0 := hLi0.p
  obtain ⟨tgt, htg⟩ : ∃ t, x.p = t := ⟨_, rfl⟩
  rw [htg] at hc0 ⊢
  obtain ⟨P, hPd⟩ : ∃ P, psOf (l.take n) = P := ⟨_, rfl⟩
  have HPD := Lib.hid hPd
  rw [hPd] at hlt ⊢
  obtain ⟨m, hm⟩ : ∃ m, l.length = m := ⟨_, rfl⟩
  have HM := Lib.hid hm
  rw [hm] at hlen hn hv0
  obtain ⟨D, hD⟩ : ∃ D, depA P tgt last = D := ⟨_, rfl⟩
  have HD : Hid (D = if (goUp P tgt (n + 1) ((n : Int) - 1) last).1 = tgt ∧ ((goUp P tgt (n + 1) ((n : Int) - 1) last).1 < 0 ↔ n = 0) then (goUp P tgt (n + 1) ((n : Int) - 1) last).2 + 1 else -1) := by
    show _ = _
    rw [← hD]
    unfold depA
    rw [hlt]
  rw [hD]
  obtain ⟨l1, l2⟩ := hlast
  have hnz : (n : Int) < m := by omega
  clear hR hx hP hLi0 htg hPd hm hD hlt
  subst hv0
  go_enter Tryd.func58, Tryd.ntmps58
  go_wp2_with fail
  go_loopg [2, 7] n (fun kx s2 s7 wr => w = wr ∧ ∃ (a la : Int) (f : Nat), s2 = .int .i64 la ∧ s7 = .int .i64 a ∧ -1 ≤ a ∧ a < n ∧ a < f ∧ last - n ≤ la - (a + 1) ∧ la ≤ last ∧ kx = (a + 1).toNat ∧ Hid (goUp P tgt (n + 1) ((n : Int) - 1) last = goUp P tgt f a la))
  case atStart => exact ⟨rfl, (n : Int) - 1, last, n + 1, rfl, by go_num, by omega, by omega, by omega, by omega, by omega, by omega, Lib.hid rfl⟩
  case round =>
    obtain ⟨rfl, a, la, f, rfl, rfl, h1, h2, h3, h4, h5, rfl, HI⟩ := hrel
    by_cases hgo : 0 ≤ a ∧ a ≠ tgt
    · obtain ⟨g1, g2⟩ := hgo
      obtain ⟨k, rfl⟩ : ∃ k : Nat, a = k := ⟨a.toNat, by omega⟩
      obtain ⟨f', rfl⟩ : ∃ f', f = f' + 1 := ⟨f - 1, by omega⟩
      have hkl : k < l.length := by rw [HM.out]; omega
      obtain ⟨y, hy⟩ := at_of hkl
      obtain ⟨q1, q2⟩ := HPB.out k y (by omega) hy
      obtain ⟨ad, cap2, o, hv, _, ha, hLi⟩ := HR.out.get (Below.refl _ _) hy
      rw [HM.out] at hv
      injection hv with hv1 hv2 hv3
      injection hv1 with hv1
      subst hv1 hv3
      have hc := hLi.p
      have HI' : Hid (goUp P tgt (n + 1) ((n : Int) - 1) last = goUp P tgt f' y.p (la - 1)) := by
        show _ = _
        have hpk := pr_take (by omega : k < n) hy
        rw [HPD.out] at hpk
        rw [HI.out, goUp, if_pos ⟨g1, g2⟩, Int.toNat_natCast, hpk]
      obtain ⟨p, hp⟩ : ∃ p, y.p = p := ⟨_, rfl⟩
      rw [hp] at q1 q2 hc HI'
      have hkz : (k : Int) < m := by omega
      clear hv2 hLi hy hp HI HD
      go_wp2_with fail
      go_roundg ((p + 1).toNat)
      case measure => omega
      case rel => exact ⟨rfl, p, la - 1, f', by go_num, rfl, q1, by omega, by omega, by omega, by omega, rfl, HI'⟩
    · have HI' : Hid (goUp P tgt (n + 1) ((n : Int) - 1) last = (a, la)) := by
        show _ = _
        rw [HI.out]
        cases f with
        | zero => rfl
        | succ f => rw [goUp, if_neg hgo]
      have HD' : Hid (D = if a = tgt ∧ (a < 0 ↔ n = 0) then la + 1 else -1) := by
        have := HD.out
        rw [HI'.out] at this
        exact this
      clear HD HI HI'
      by_cases g1 : 0 ≤ a
      · have g2 : a = tgt := Classical.byContradiction fun h => hgo ⟨g1, h⟩
        subst g2
        have hn0 : ¬ (n : Int) = 0 := by omega
        have hE : D = la + 1 := by
          rw [HD'.out, if_pos ⟨rfl, by constructor <;> (intro; omega)⟩]
        subst hE
        have d1 : decide (a < 0) = false := decide_eq_false (by omega)
        have d2 : decide ((n : Int) = 0) = false := decide_eq_false (by omega)
        clear HD' hgo
        go_wp2_with fail
        go_ret
        exact ⟨ret1 (by omega), rfl⟩
      · obtain rfl : a = -1 := by omega
        by_cases g2 : -1 = tgt
        · subst g2
          by_cases hn0 : n = 0
          · subst hn0
            have hE : D = la + 1 := by
              rw [HD'.out, if_pos ⟨rfl, by constructor <;> (intro; omega)⟩]
            subst hE
            clear HD' hgo
            go_wp2_with fail
            go_ret
            exact ⟨ret1 (by omega), rfl⟩
          · have hE : D = -1 := by
              rw [HD'.out, if_neg (by intro ⟨_, h⟩; exact hn0 (h.1 (by omega)))]
            subst hE
            have hnz0 : ¬ (n : Int) = 0 := by omega
            have d2 : ((n : Int) == 0) = false := by simpa using hn0
            have d3 : (!((n : Int) == 0)) = true := by rw [d2]; rfl
            clear HD' hgo
            go_wp2_with fail
            go_ret
            exact ⟨rfl, rfl⟩
        · have hE : D = -1 := by
            rw [HD'.out, if_neg (by intro ⟨h, _⟩; exact g2 h)]
          subst hE
          clear HD' hgo
          go_wp2_with fail
          go_ret
          exact ⟨rfl, rfl⟩

set_option maxRecDepth 100000 in
set_option maxHeartbeats 2000000 in
theorem avkind_any (l : List Nod) (v : Value) (n : Nat) (x : Nod) (w : World) (hR : Ns w v l) (hx : l[n]? = some x) (hx0 : 0 ≤ x.k) (hTab : Tab w)
    (hp : 0 < n → 0 ≤ x.p ∧ x.p < n) (hk : 0 < n → 0 ≤ kindAt l x.p ∧ kindAt l x.p ≤ 8) :
    Calls Tryd.prog 59 #[v, .int .i64 (n : Int)] w fun e w' => e = .returned (.bool (vKind (decide (n = 0)) x.k (kindAt l x.p))) ∧ w = w' := by
  have hn : n < l.length := (List.getElem?_eq_some_iff.1 hx).1
  obtain ⟨ad0, cap0, o0, hv0, _, ha0, hLi0⟩ := hR.get (Below.refl _ _) hx
  have hck := hLi0.k
  have hcp := hLi0.p
  by_cases hn0 : n = 0
  · subst hn0
    rw [show vKind (decide (0 = 0)) x.k (kindAt l x.p) = (x.k == 0) from rfl]
    obtain ⟨kx, hkx⟩ : ∃ k, x.k = k := ⟨_, rfl⟩
    rw [hkx] at hck ⊢
    obtain ⟨m, hm⟩ : ∃ m, l.length = m := ⟨_, rfl⟩
    rw [hm] at hv0 hn
    subst hv0
    have hz : ((0 : Nat) : Int) < m := by omega
    clear hR hx hLi0 hkx hm hp hk hTab
    go_enter Tryd.func59, Tryd.ntmps59
    go_wp2_with fail
    go_ret
    exact ⟨rfl, rfl⟩
  · rw [decide_eq_false hn0]
    have hnz : ¬ (n : Int) = 0 := by omega
    obtain ⟨p0, p1⟩ := hp (by omega)
    obtain ⟨pk, hpk⟩ : ∃ pk : Nat, x.p = pk := ⟨x.p.toNat, by omega⟩
    obtain ⟨k0, k8⟩ := hk (by omega)
    have hpl : pk < l.length := by omega
    obtain ⟨y, hy⟩ := at_of hpl
    have hky : kindAt l x.p = y.k := by unfold kindAt; rw [hpk, List.getD_eq_getElem?_getD, Int.toNat_natCast, hy]; rfl
    obtain ⟨ad, cap, o, hv, _, ha, hLi⟩ := hR.get (Below.refl _ _) hy
    have hv' := hv0.symm.trans hv
    injection hv' with hv1 hv2 hv3
    injection hv1 with hv1
    subst hv1 hv3
    have hcq := hLi.k
    rw [hky] at k0 k8 ⊢
    obtain ⟨q, hq⟩ : ∃ q : Nat, y.k = q := ⟨y.k.toNat, by omega⟩
    rw [hq] at hcq k8 ⊢
    rw [hpk] at hcp
    have hq8 : q ≤ 8 := by omega
    have hct := hTab.kids.cell rfl hq8
    obtain ⟨kk, hkk⟩ : ∃ kk : Nat, x.k = kk := ⟨x.k.toNat, by omega⟩
    rw [hkk] at hck ⊢
    obtain ⟨m, hm⟩ : ∃ m, l.length = m := ⟨_, rfl⟩
    rw [hm] at hv0 hn hpl
    have hz1 : (n : Int) < m := by omega
    have hz2 : (pk : Int) < m := by omega
    have hz3 : (q : Int) < 9 := by omega
    have hru := fun h : kk ≤ 8 => hTab.ruby.cell rfl h
    clear hR hx hLi0 hLi hy hky hq hkk hm hp hk hTab hv hv2 k0 hpk p0 p1
    subst hv0
    by_cases hk0 : kk = 0 ∨ 9 ≤ kk
    · have e : vKind false (kk : Int) (q : Int) = false := by
        unfold vKind
        rcases hk0 with rfl | h
        · rfl
        · have : decide (9 ≤ (kk : Int)) = true := decide_eq_true (by omega)
          simp [this]
      rw [e]
      clear hru e
      rcases hk0 with rfl | h
      · go_enter Tryd.func59, Tryd.ntmps59
        go_wp2_with fail
        go_ret
        exact ⟨rfl, rfl⟩
      · have h0 : ¬ (kk : Int) = 0 := by omega
        have h9 : 9 ≤ (kk : Int) := by omega
        go_enter Tryd.func59, Tryd.ntmps59
        go_wp2_with fail
        go_ret
        exact ⟨rfl, rfl⟩
    · have h0 : ¬ (kk : Int) = 0 := by omega
      have h9 : (kk : Int) < 9 := by omega
      have h9' : ¬ 9 ≤ (kk : Int) := by omega
      have hcr := hru (by omega)
      clear hru hk0
      have e : vKind false (kk : Int) (q : Int) = if (tb tRuby (kk : Int) && !((q : Int) == 6)) || ((q : Int) == 5 && !((kk : Int) == 4)) then false else tb tKids (q : Int) := by
        unfold vKind
        rw [if_neg (by simp), if_neg (by simp; omega)]
      rw [e]
      clear e
      obtain ⟨bk, hbk⟩ : ∃ b, tb tKids (q : Int) = b := ⟨_, rfl⟩
      rw [hbk] at hct ⊢
      clear hbk
      obtain ⟨br, hbr⟩ : ∃ b, tb tRuby (kk : Int) = b := ⟨_, rfl⟩
      rw [hbr] at hcr ⊢
      clear hbr
      by_cases q6 : q = 6
      · subst q6
        have e : (if (br && !(((6 : Nat) : Int) == 6)) || (((6 : Nat) : Int) == 5 && !((kk : Int) == 4)) then false else bk) = bk := by simp
        rw [e]
        clear e
        cases br
        all_goals
          go_enter Tryd.func59, Tryd.ntmps59
          go_wp2_with fail
          go_ret
          exact ⟨rfl, rfl⟩
      · have q6z : ¬ (q : Int) = 6 := by omega
        by_cases q5 : q = 5
        · subst q5
          by_cases k4 : kk = 4
          · subst k4
            cases br
            · have e : (if (false && !(((5 : Nat) : Int) == 6)) || (((5 : Nat) : Int) == 5 && !(((4 : Nat) : Int) == 4)) then false else bk) = bk := by simp
              rw [e]
              clear e
              go_enter Tryd.func59, Tryd.ntmps59
              go_wp2_with fail
              go_ret
              exact ⟨rfl, rfl⟩
            · have e : (if (true && !(((5 : Nat) : Int) == 6)) || (((5 : Nat) : Int) == 5 && !(((4 : Nat) : Int) == 4)) then false else bk) = false := by simp
              rw [e]
              clear e
              go_enter Tryd.func59, Tryd.ntmps59
              go_wp2_with fail
              go_ret
              exact ⟨rfl, rfl⟩
          · have k4z : ¬ (kk : Int) = 4 := by omega
            have e : (if (br && !(((5 : Nat) : Int) == 6)) || (((5 : Nat) : Int) == 5 && !((kk : Int) == 4)) then false else bk) = false := by simp [k4z]
            rw [e]
            clear e
            cases br
            all_goals
              go_enter Tryd.func59, Tryd.ntmps59
              go_wp2_with fail
              go_ret
              exact ⟨rfl, rfl⟩
        · have q5z : ¬ (q : Int) = 5 := by omega
          have e : (if (br && !((q : Int) == 6)) || ((q : Int) == 5 && !((kk : Int) == 4)) then false else bk) = if br then false else bk := by
            have : ((q : Int) == 6) = false := beq_eq_false_iff_ne.2 q6z
            have h5 : ((q : Int) == 5) = false := beq_eq_false_iff_ne.2 q5z
            rw [this, h5]
            simp
          rw [e]
          clear e
          cases br
          all_goals
            go_enter Tryd.func59, Tryd.ntmps59
            go_wp2_with fail
            go_ret
            exact ⟨rfl, rfl⟩
end Go.Proofs.YtgpobhnonjdamaaDoor
