/- The walk of WhiteAlone: for every list and every row of styles the law returns true. Conditions: the lists lie where the slices say; class's table lies in memory. -/
import Derived.Test.YtejcfhfmdijimaaDoorWhG
namespace Go.Proofs.YtejcfhfmdijimaaDoor
open Go.ChangeShapes Go.WideShapes Go.ChangeAt Go.RowKit Go.Shelf
open Wh

theorem Lies.d0 {w : World} {g o : Nat} {c : Cr} (h : Lies w ⟨g, o, none⟩ (chA c)) : w.cell? ⟨g, o, none⟩ = some (.int .i32 c.r) := by have := h 0 _ rfl; rwa [Addr.add_lit] at this
theorem Lies.d1 {w : World} {g o : Nat} {c : Cr} (h : Lies w ⟨g, o, none⟩ (chA c)) : w.cell? ⟨g, o + 1, none⟩ = some (.int .i64 c.node) := by have := h 1 _ rfl; rwa [Addr.add_lit] at this
theorem Lies.d4 {w : World} {g o : Nat} {c : Cr} (h : Lies w ⟨g, o, none⟩ (chA c)) : w.cell? ⟨g, o + 4, none⟩ = some (.int .u8 c.kind) := by have := h 4 _ rfl; rwa [Addr.add_lit] at this
theorem may_kindsA {ss : List Sty} {l : List Cr} (h : mayB ss l = true) : ∀ c ∈ l, c.kind = 0 ∨ c.kind = 5 ∨ c.kind = 6 := fun c hc => by
  have := (okC_split.1 (List.all_eq_true.1 h c hc)).1
  simp only [Bool.or_eq_true, decide_eq_true_eq] at this
  omega
theorem made_noA {l : List Cr} (h : madeB l = false) : ∀ c ∈ l, c.kind = 5 → c.r ≠ 10 := fun c hc h5 hr => by
  have := List.any_eq_false.1 h c hc
  rw [h5, hr] at this
  exact this rfl
theorem blank_no {c : Cr} (h : Wh.blank c = false) (h0 : c.kind = 0) : ¬ c.r = 10 ∧ ¬ c.r = 13 ∧ ¬ c.r = 32 ∧ ¬ c.r = 9 := by
  unfold Wh.blank at h
  rw [h0] at h
  simp only [decide_true, Bool.true_and, Bool.or_eq_false_iff, decide_eq_false_iff_not] at h
  exact ⟨h.1.2, h.2, h.1.1.1, h.1.1.2⟩
/-- all of the first i are kept -/
def keptI (ss : List Sty) (l : List Cr) (i : Nat) : Bool := (l.take i).all fun c => !collW (whF ss c.node)
theorem keptI_succ {ss : List Sty} {l : List Cr} {i : Nat} {c : Cr} (h : l[i]? = some c) : keptI ss l (i + 1) = (keptI ss l i && !collW (whF ss c.node)) := by
  unfold keptI
  rw [List.take_add_one, h, List.all_append]
  simp
theorem keptI_all {ss : List Sty} {l : List Cr} {n : Nat} (hn : l.length = n) (h : keptI ss l n = true) : ∀ c ∈ l, collW (whF ss c.node) = false := fun c hc => by
  unfold keptI at h
  rw [← hn, List.take_length] at h
  have := List.all_eq_true.1 h c hc
  simpa using this

set_option maxRecDepth 100000 in
set_option maxHeartbeats 16000000 in
theorem walone_any (l : List Cr) (v : Value) (ss : List Sty) (sv : Value) (w : World) (hR : RwC w v l) (hS : Ss w sv ss) (hT : Tab w) :
    Calls Tryd.prog 5 #[v, sv] w fun e w' => e = .returned (.bool true) ∧ Below w.heap.size w w' := by
  have HT := Lib.hid hT
  have H1 := Lib.hid hR
  have HS := Lib.hid hS
  have HD : Hid (∀ W, Below w.heap.size w W → Calls Tryd.prog 9 #[] W fun e w' => e = .returned (.bool true) ∧ Below w.heap.size w w') := Lib.hid fun W b => (whead_any W (HT.out.below b)).mono fun e w' h => ⟨h.1, b.trans (h.2.mono b.size)⟩
  obtain ⟨A1, c1, hv1⟩ := hR.form
  obtain ⟨A3, c3, hv3⟩ := Ss.form hS
  have G1 := Lib.hid (wgreat_any A1 A3 l.length c1 ss.length c3 w)
  obtain ⟨g1, hg1⟩ : ∃ b, greatB l.length ss.length = b := ⟨_, rfl⟩
  rw [hg1] at G1
  have HG1 := Lib.hid hg1
  rw [← hv1, ← hv3] at G1
  have HV1 := Lib.hid hv1
  have HV3 := Lib.hid hv3
  clear hT hR hS hg1 hv1 hv3
  go_enter Tryd.func5, Tryd.ntmps5
  go_wp2_with fail
  refine G1.out.mono ?_
  rintro e w1 ⟨rfl, rfl⟩
  cases g1 with
  | true =>
    go_wp2_with fail
    refine (HD.out _ (Below.refl _ _)).mono ?_
    rintro e w1 ⟨rfl, b1⟩
    go_wp2_with fail
    go_ret
    exact ⟨rfl, b1⟩
  | false =>
  have hl150 : Hid (l.length ≤ 150) := Lib.hid (by have := HG1.out; unfold greatB at this; simp at this; omega)
  have CT := Lib.hid (wmade_any v l w H1.out (by have := hl150.out; omega))
  obtain ⟨b, hb⟩ : ∃ b, madeB l = b := ⟨_, rfl⟩
  rw [hb] at CT
  have HMD := Lib.hid hb
  clear G1 HG1 hb
  go_wp2_with fail
  refine CT.out.mono ?_
  rintro e w1 ⟨rfl, rfl⟩
  cases b with
  | true =>
    go_wp2_with fail
    refine (HD.out _ (Below.refl _ _)).mono ?_
    rintro e w2 ⟨rfl, b2⟩
    go_wp2_with fail
    go_ret
    exact ⟨rfl, b2⟩
  | false =>
  have CL := Lib.hid (wcollapse_any l v ss sv w H1.out HS.out (by have := hl150.out; omega) HT.out)
  clear CT
  go_wp2_with fail
  refine CL.out.mono ?_
  rintro e w3 h
  rcases h with ⟨hm1, ua, rfl, OA, b3⟩ | ⟨hm1, rfl, b3⟩
  rotate_left
  · have HB3 := Lib.hid b3
    clear hm1 b3 CL
    go_wp2_with fail
    refine (HD.out _ HB3.out).mono ?_
    rintro e w4 ⟨rfl, b4⟩
    go_wp2_with fail
    go_ret
    exact ⟨rfl, b4⟩
  have HB3 := Lib.hid b3
  have HOA := Lib.hid OA.rw_
  have HMAY := Lib.hid hm1
  have HAL := Lib.hid (alone (W := whF ss) (D := wideB) l (may_kindsA hm1) (made_noA HMD.out))
  have HKL := Lib.hid (kept_len (W := whF ss) (D := wideB) l)
  obtain ⟨a, ha⟩ : ∃ a, collapse (whF ss) wideB l = a := ⟨_, rfl⟩
  have ha150 : Hid (a.length ≤ 150) := Lib.hid (by rw [← ha]; exact Nat.le_trans (left_collapse _).len hl150.out)
  rw [ha] at HOA HAL HKL
  have HS3 := Lib.hid (HS.out.below b3)
  have HR3 := Lib.hid (H1.out.below b3)
  obtain ⟨A5, c5, hv5⟩ := HOA.out.form
  have hv1 := HV1.out
  have hv3 := HV3.out
  obtain ⟨n, hn⟩ : ∃ n, l.length = n := ⟨_, rfl⟩
  obtain ⟨p, hp⟩ : ∃ p, a.length = p := ⟨_, rfl⟩
  obtain ⟨q, hq⟩ : ∃ q, ss.length = q := ⟨_, rfl⟩
  rw [hn] at hv1
  rw [hp] at hv5
  rw [hq] at hv3
  subst hv1 hv3 hv5
  have hn150 : n ≤ 150 := by rw [← hn]; exact hl150.out
  have hp150 : p ≤ 150 := by rw [← hp]; exact ha150.out
  have HN := Lib.hid hn
  have HP := Lib.hid hp
  have HQ := Lib.hid hq
  clear hm1 b3 CL OA ha hn hp hq HV1 HV3 HMD hl150 ha150 H1 HS HT
  go_wp2_with fail
  go_loopg [7] p (fun kx s7 wr => ∃ i : Nat, s7 = .int .i64 i ∧ i ≤ p ∧ kx = p - i ∧ w3 = wr)
  case atStart => exact ⟨0, rfl, by omega, by omega, rfl⟩
  case round =>
    obtain ⟨i, rfl, hi, rfl, rfl⟩ := hrel
    by_cases hlt : i < p
    · have hz : (i : Int) < p := by omega
      obtain ⟨y, hy⟩ := atC_of (l := a) (i := i) (by rw [HP.out]; exact hlt)
      have hbl := HAL.out.1 y (List.mem_of_getElem? hy)
      obtain ⟨a2, cap2, o2, hv, _, ha2, hL2⟩ := HOA.out.get (Below.refl _ _) hy
      rw [HP.out] at hv
      injection hv with hv1 hv4 hv3
      subst hv1 hv3
      have p0 := hL2.d0
      have p4 := hL2.d4
      have hb0 : y.kind = 0 → ¬ y.r = 10 ∧ ¬ y.r = 13 ∧ ¬ y.r = 32 ∧ ¬ y.r = 9 := blank_no hbl
      obtain ⟨r, hr⟩ : ∃ z, y.r = z := ⟨_, rfl⟩
      obtain ⟨kd, hkd⟩ : ∃ z, y.kind = z := ⟨_, rfl⟩
      rw [hr, hkd] at hb0
      rw [hr] at p0
      rw [hkd] at p4
      by_cases hi0 : i = 0
      · subst hi0
        clear hv4 hL2 hr hkd hy hbl HAL
        by_cases k0 : kd = 0
        · subst k0
          obtain ⟨n10, n13, n32, n9⟩ := hb0 rfl
          have e10 : (r == 10) = false := by simpa using n10
          have e13 : (r == 13) = false := by simpa using n13
          have e32 : (r == 32) = false := by simpa using n32
          have e9 : (r == 9) = false := by simpa using n9
          clear hb0
          go_wp2_with fail
          go_roundg (p - (0 + 1))
          case measure => omega
          case rel => exact ⟨0 + 1, by go_num, by omega, rfl, rfl⟩
        · have e0 : (kd == 0) = false := by simpa using k0
          by_cases k1 : kd = 1
          · subst k1
            clear hb0
            go_wp2_with fail
            go_roundg (p - (0 + 1))
            case measure => omega
            case rel => exact ⟨0 + 1, by go_num, by omega, rfl, rfl⟩
          · have e1 : (kd == 1) = false := by simpa using k1
            by_cases k5 : kd = 5
            · subst k5
              clear hb0
              go_wp2_with fail
              go_roundg (p - (0 + 1))
              case measure => omega
              case rel => exact ⟨0 + 1, by go_num, by omega, rfl, rfl⟩
            · have e5 : (kd == 5) = false := by simpa using k5
              clear hb0
              go_wp2_with fail
              go_roundg (p - (0 + 1))
              case measure => omega
              case rel => exact ⟨0 + 1, by go_num, by omega, rfl, rfl⟩
      · obtain ⟨q1, rfl⟩ : ∃ q1, i = q1 + 1 := ⟨i - 1, by omega⟩
        obtain ⟨x, hx⟩ := atC_of (l := a) (i := q1) (by rw [HP.out]; omega)
        have hq0 : QA x y := HAL.out.2.at_ q1 x y hx hy
        obtain ⟨a4, cap4, o4, hv, _, ha4, hL4⟩ := HOA.out.get (Below.refl _ _) hx
        rw [HP.out] at hv
        injection hv with hv1 hv5 hv3
        injection hv1 with hv1
        subst hv1
        have x0 := hL4.d0
        have x4 := hL4.d4
        have hzq : (q1 : Int) < p := by omega
        have hpos : (0 : Int) < (q1 : Int) + 1 := by omega
        unfold QA Lk at hq0
        obtain ⟨xr, hxr⟩ : ∃ z, x.r = z := ⟨_, rfl⟩
        obtain ⟨xk, hxk⟩ : ∃ z, x.kind = z := ⟨_, rfl⟩
        rw [hr, hkd, hxr, hxk] at hq0
        rw [hxr] at x0
        rw [hxk] at x4
        clear hv4 hv5 hv3 hL2 hL4 hr hkd hy hbl hxr hxk hx HAL hi0
        by_cases k0 : kd = 0
        · subst k0
          obtain ⟨n10, n13, n32, n9⟩ := hb0 rfl
          have e10 : (r == 10) = false := by simpa using n10
          have e13 : (r == 13) = false := by simpa using n13
          have e32 : (r == 32) = false := by simpa using n32
          have e9 : (r == 9) = false := by simpa using n9
          clear hb0
          by_cases m1 : xk = 1
          · subst m1
            go_wp2_with fail
            go_roundg (p - (q1 + 1 + 1))
            case measure => omega
            case rel => exact ⟨q1 + 1 + 1, by go_num, by omega, rfl, rfl⟩
          · have f1 : (xk == 1) = false := by simpa using m1
            go_wp2_with fail
            go_roundg (p - (q1 + 1 + 1))
            case measure => omega
            case rel => exact ⟨q1 + 1 + 1, by go_num, by omega, rfl, rfl⟩
        · have e0 : (kd == 0) = false := by simpa using k0
          by_cases k1 : kd = 1
          · subst k1
            clear hb0
            have m1 : ¬ xk = 1 := fun h => hq0.1 ⟨rfl, .inl h⟩
            have f1 : (xk == 1) = false := by simpa using m1
            by_cases m5 : xk = 5
            · have m10 : ¬ xr = 10 := fun h => hq0.1 ⟨rfl, .inr ⟨m5, h⟩⟩
              subst m5
              have f10 : (xr == 10) = false := by simpa using m10
              go_wp2_with fail
              go_roundg (p - (q1 + 1 + 1))
              case measure => omega
              case rel => exact ⟨q1 + 1 + 1, by go_num, by omega, rfl, rfl⟩
            · have f5 : (xk == 5) = false := by simpa using m5
              go_wp2_with fail
              go_roundg (p - (q1 + 1 + 1))
              case measure => omega
              case rel => exact ⟨q1 + 1 + 1, by go_num, by omega, rfl, rfl⟩
          · have e1 : (kd == 1) = false := by simpa using k1
            by_cases k5 : kd = 5
            · subst k5
              clear hb0
              by_cases m1 : xk = 1
              · have m10 : ¬ r = 10 := fun h => hq0.2 ⟨m1, rfl, h⟩
                subst m1
                have f10 : (r == 10) = false := by simpa using m10
                go_wp2_with fail
                go_roundg (p - (q1 + 1 + 1))
                case measure => omega
                case rel => exact ⟨q1 + 1 + 1, by go_num, by omega, rfl, rfl⟩
              · have f1 : (xk == 1) = false := by simpa using m1
                go_wp2_with fail
                go_roundg (p - (q1 + 1 + 1))
                case measure => omega
                case rel => exact ⟨q1 + 1 + 1, by go_num, by omega, rfl, rfl⟩
            · have e5 : (kd == 5) = false := by simpa using k5
              clear hb0
              by_cases m1 : xk = 1
              · subst m1
                go_wp2_with fail
                go_roundg (p - (q1 + 1 + 1))
                case measure => omega
                case rel => exact ⟨q1 + 1 + 1, by go_num, by omega, rfl, rfl⟩
              · have f1 : (xk == 1) = false := by simpa using m1
                go_wp2_with fail
                go_roundg (p - (q1 + 1 + 1))
                case measure => omega
                case rel => exact ⟨q1 + 1 + 1, by go_num, by omega, rfl, rfl⟩
    · obtain rfl : p = i := by omega
      clear HAL
      go_wp2_with fail
      go_loopg [8, 9, 10] n (fun kx s8 s9 s10 wr => ∃ (kb : Bool) (t i : Nat), s8 = .bool kb ∧ s9 = .int .i64 t ∧ s10 = .int .i64 i ∧ i ≤ n ∧ t ≤ i ∧ kx = n - i ∧ Below w3.heap.size w3 wr ∧ Hid (keptI ss l i = kb) ∧ Hid (t + tw (pB (fun c => Wh.is c 13) l i) (l.drop i) = twos l))
      case atStart => exact ⟨true, 0, 0, rfl, rfl, rfl, by omega, by omega, by omega, Below.refl _ _, Lib.hid rfl, Lib.hid (by rw [tw_zero, Nat.zero_add])⟩
      case round =>
        obtain ⟨kb, t, i, rfl, rfl, rfl, hi, ht, rfl, bel, HKB, HTW⟩ := hrel
        by_cases hlt : i < n
        · have hz : (i : Int) < n := by omega
          obtain ⟨x, hx⟩ := atC_of (l := l) (i := i) (by rw [HN.out]; exact hlt)
          obtain ⟨j, s, hj, hjs, hws, hs5⟩ := (okC_split.1 (List.all_eq_true.1 HMAY.out x (List.mem_of_getElem? hx))).2
          obtain ⟨a1, cap1, o1, hv, _, ha1, hL1⟩ := HR3.out.get bel hx
          rw [HN.out] at hv
          injection hv with hv1 hv2 hv3
          subst hv1 hv3
          obtain ⟨a3, cap3, o3, hv, _, ha3, hL3⟩ := HS3.out.get bel hjs
          rw [HQ.out] at hv
          injection hv with hv1 hv4 hv3
          subst hv1 hv3
          have hjq : (j : Int) < q := by have := (List.getElem?_eq_some_iff.1 hjs).1; rw [HQ.out] at this; omega
          have q1 := hL1.d1
          rw [hj] at q1
          have HLX := Lib.hid hL1
          have HLS := Lib.hid hL3
          obtain ⟨cw, hcw⟩ : ∃ b, collW s.a0 = b := ⟨_, rfl⟩
          have CC : Hid (∀ W, Calls Tryd.prog 12 #[.agg s.cells] W fun e w' => e = .returned (.bool cw) ∧ Below W.heap.size W w') := Lib.hid fun W => by have := wcolls_any s W; rwa [hcw] at this
          have HKN : Hid (keptI ss l (i + 1) = (kb && !cw)) := Lib.hid (by rw [keptI_succ hx, HKB.out, hws, hcw])
          have HX := Lib.hid hx
          have HT1 : Hid (t + (if pB (fun c => Wh.is c 13) l i && Wh.is x 10 then 1 else 0) + tw (pB (fun c => Wh.is c 13) l (i + 1)) (l.drop (i + 1)) = twos l) := Lib.hid (by
            rw [Nat.add_assoc, ← tw_at hx]
            exact HTW.out)
          clear hv2 hv4 hL1 hL3 hj hjs hws hs5 hcw HKB HTW hx
          cases kb with
          | true =>
            go_wp2_with (first
              | (refine ldSIf (by kernel_rfl) (.tmp 150) rfl _ rfl s (HLS.out) ?_)
              | (refine ldSIf (by kernel_rfl) (.tmp 150) rfl _ rfl s (ha3 ▸ HLS.out) ?_))
            refine (CC.out _).mono ?_
            rintro e w6 ⟨rfl, b6⟩
            have HB6 := Lib.hid (below_seq bel b6)
            have HL6 := Lib.hid (HLX.out.below b6)
            have HKN2 : Hid (keptI ss l (i + 1) = !cw) := Lib.hid (by rw [HKN.out]; rfl)
            clear CC HKN b6 bel HLX HLS q1
            by_cases hi0 : i = 0
            · subst hi0
              have HTN : Hid (t + tw (pB (fun c => Wh.is c 13) l (0 + 1)) (l.drop (0 + 1)) = twos l) := Lib.hid (by have := HT1.out; rw [pB_zero, Bool.false_and] at this; simpa using this)
              clear HT1 HX HL6
              go_wp2_with fail
              go_roundg (n - (0 + 1))
              case measure => omega
              case rel => exact ⟨!cw, t, 0 + 1, rfl, rfl, by go_num, by omega, by omega, rfl, HB6.out, HKN2, HTN⟩
            · obtain ⟨q1, rfl⟩ : ∃ q1, i = q1 + 1 := ⟨i - 1, by omega⟩
              obtain ⟨y, hy⟩ := atC_of (l := l) (i := q1) (by rw [HN.out]; omega)
              have hps := pB_succ (f := fun c => Wh.is c 13) hy
              obtain ⟨a4, cap4, o4, hv, _, ha4, hL4⟩ := HR3.out.get HB6.out hy
              rw [HN.out] at hv
              injection hv with hv1 hv5 hv3
              injection hv1 with hv1
              subst hv1
              have x0 := HL6.out.d0
              have x4 := HL6.out.d4
              have y0 := hL4.d0
              have y4 := hL4.d4
              have hzq : (q1 : Int) < n := by omega
              have hpos : (0 : Int) < (q1 : Int) + 1 := by omega
              have HIF : Hid (t + (if (decide (y.kind = 0) && decide (y.r = 13)) && (decide (x.kind = 0) && decide (x.r = 10)) then 1 else 0) + tw (pB (fun c => Wh.is c 13) l (q1 + 1 + 1)) (l.drop (q1 + 1 + 1)) = twos l) := Lib.hid (by have := HT1.out; rw [hps] at this; exact this)
              obtain ⟨xr, hxr⟩ : ∃ z, x.r = z := ⟨_, rfl⟩
              obtain ⟨xk, hxk⟩ : ∃ z, x.kind = z := ⟨_, rfl⟩
              obtain ⟨yr, hyr⟩ : ∃ z, y.r = z := ⟨_, rfl⟩
              obtain ⟨yk, hyk⟩ : ∃ z, y.kind = z := ⟨_, rfl⟩
              rw [hxr, hxk, hyr, hyk] at HIF
              rw [hxr] at x0
              rw [hxk] at x4
              rw [hyr] at y0
              rw [hyk] at y4
              clear hv5 hv3 hL4 hxr hxk hyr hyk hy hps HT1 HX HL6 hi0
              by_cases k0 : xk = 0
              · subst k0
                by_cases k10 : xr = 10
                · subst k10
                  by_cases m0 : yk = 0
                  · subst m0
                    by_cases m13 : yr = 13
                    · subst m13
                      have HTN : Hid (t + 1 + tw (pB (fun c => Wh.is c 13) l (q1 + 1 + 1)) (l.drop (q1 + 1 + 1)) = twos l) := Lib.hid (by have := HIF.out; rw [if_pos (by rfl)] at this; exact this)
                      clear HIF
                      go_wp2_with fail
                      go_roundg (n - (q1 + 1 + 1))
                      case measure => omega
                      case rel => exact ⟨!cw, t + 1, q1 + 1 + 1, rfl, by go_num, by go_num, by omega, by omega, rfl, HB6.out, HKN2, HTN⟩
                    · have f13 : (yr == 13) = false := by simpa using m13
                      have HTN : Hid (t + tw (pB (fun c => Wh.is c 13) l (q1 + 1 + 1)) (l.drop (q1 + 1 + 1)) = twos l) := Lib.hid (by have := HIF.out; rw [if_neg (by simp [m13])] at this; exact this)
                      clear HIF
                      go_wp2_with fail
                      go_roundg (n - (q1 + 1 + 1))
                      case measure => omega
                      case rel => exact ⟨!cw, t, q1 + 1 + 1, rfl, rfl, by go_num, by omega, by omega, rfl, HB6.out, HKN2, HTN⟩
                  · have f0 : (yk == 0) = false := by simpa using m0
                    have HTN : Hid (t + tw (pB (fun c => Wh.is c 13) l (q1 + 1 + 1)) (l.drop (q1 + 1 + 1)) = twos l) := Lib.hid (by have := HIF.out; rw [if_neg (by simp [m0])] at this; exact this)
                    clear HIF
                    go_wp2_with fail
                    go_roundg (n - (q1 + 1 + 1))
                    case measure => omega
                    case rel => exact ⟨!cw, t, q1 + 1 + 1, rfl, rfl, by go_num, by omega, by omega, rfl, HB6.out, HKN2, HTN⟩
                · have e10 : (xr == 10) = false := by simpa using k10
                  have HTN : Hid (t + tw (pB (fun c => Wh.is c 13) l (q1 + 1 + 1)) (l.drop (q1 + 1 + 1)) = twos l) := Lib.hid (by have := HIF.out; rw [if_neg (by simp [k10])] at this; exact this)
                  clear HIF
                  go_wp2_with fail
                  go_roundg (n - (q1 + 1 + 1))
                  case measure => omega
                  case rel => exact ⟨!cw, t, q1 + 1 + 1, rfl, rfl, by go_num, by omega, by omega, rfl, HB6.out, HKN2, HTN⟩
              · have e0 : (xk == 0) = false := by simpa using k0
                have HTN : Hid (t + tw (pB (fun c => Wh.is c 13) l (q1 + 1 + 1)) (l.drop (q1 + 1 + 1)) = twos l) := Lib.hid (by have := HIF.out; rw [if_neg (by simp [k0])] at this; exact this)
                clear HIF
                go_wp2_with fail
                go_roundg (n - (q1 + 1 + 1))
                case measure => omega
                case rel => exact ⟨!cw, t, q1 + 1 + 1, rfl, rfl, by go_num, by omega, by omega, rfl, HB6.out, HKN2, HTN⟩
          | false =>
            have HB6 := Lib.hid bel
            have HL6 := Lib.hid HLX.out
            have HKN2 : Hid (keptI ss l (i + 1) = false) := Lib.hid (by rw [HKN.out]; rfl)
            clear CC HKN bel HLX HLS q1
            by_cases hi0 : i = 0
            · subst hi0
              have HTN : Hid (t + tw (pB (fun c => Wh.is c 13) l (0 + 1)) (l.drop (0 + 1)) = twos l) := Lib.hid (by have := HT1.out; rw [pB_zero, Bool.false_and] at this; simpa using this)
              clear HT1 HX HL6
              go_wp2_with fail
              go_roundg (n - (0 + 1))
              case measure => omega
              case rel => exact ⟨false, t, 0 + 1, rfl, rfl, by go_num, by omega, by omega, rfl, HB6.out, HKN2, HTN⟩
            · obtain ⟨q1, rfl⟩ : ∃ q1, i = q1 + 1 := ⟨i - 1, by omega⟩
              obtain ⟨y, hy⟩ := atC_of (l := l) (i := q1) (by rw [HN.out]; omega)
              have hps := pB_succ (f := fun c => Wh.is c 13) hy
              obtain ⟨a4, cap4, o4, hv, _, ha4, hL4⟩ := HR3.out.get HB6.out hy
              rw [HN.out] at hv
              injection hv with hv1 hv5 hv3
              injection hv1 with hv1
              subst hv1
              have x0 := HL6.out.d0
              have x4 := HL6.out.d4
              have y0 := hL4.d0
              have y4 := hL4.d4
              have hzq : (q1 : Int) < n := by omega
              have hpos : (0 : Int) < (q1 : Int) + 1 := by omega
              have HIF : Hid (t + (if (decide (y.kind = 0) && decide (y.r = 13)) && (decide (x.kind = 0) && decide (x.r = 10)) then 1 else 0) + tw (pB (fun c => Wh.is c 13) l (q1 + 1 + 1)) (l.drop (q1 + 1 + 1)) = twos l) := Lib.hid (by have := HT1.out; rw [hps] at this; exact this)
              obtain ⟨xr, hxr⟩ : ∃ z, x.r = z := ⟨_, rfl⟩
              obtain ⟨xk, hxk⟩ : ∃ z, x.kind = z := ⟨_, rfl⟩
              obtain ⟨yr, hyr⟩ : ∃ z, y.r = z := ⟨_, rfl⟩
              obtain ⟨yk, hyk⟩ : ∃ z, y.kind = z := ⟨_, rfl⟩
              rw [hxr, hxk, hyr, hyk] at HIF
              rw [hxr] at x0
              rw [hxk] at x4
              rw [hyr] at y0
              rw [hyk] at y4
              clear hv5 hv3 hL4 hxr hxk hyr hyk hy hps HT1 HX HL6 hi0
              by_cases k0 : xk = 0
              · subst k0
                by_cases k10 : xr = 10
                · subst k10
                  by_cases m0 : yk = 0
                  · subst m0
                    by_cases m13 : yr = 13
                    · subst m13
                      have HTN : Hid (t + 1 + tw (pB (fun c => Wh.is c 13) l (q1 + 1 + 1)) (l.drop (q1 + 1 + 1)) = twos l) := Lib.hid (by have := HIF.out; rw [if_pos (by rfl)] at this; exact this)
                      clear HIF
                      go_wp2_with fail
                      go_roundg (n - (q1 + 1 + 1))
                      case measure => omega
                      case rel => exact ⟨false, t + 1, q1 + 1 + 1, rfl, by go_num, by go_num, by omega, by omega, rfl, HB6.out, HKN2, HTN⟩
                    · have f13 : (yr == 13) = false := by simpa using m13
                      have HTN : Hid (t + tw (pB (fun c => Wh.is c 13) l (q1 + 1 + 1)) (l.drop (q1 + 1 + 1)) = twos l) := Lib.hid (by have := HIF.out; rw [if_neg (by simp [m13])] at this; exact this)
                      clear HIF
                      go_wp2_with fail
                      go_roundg (n - (q1 + 1 + 1))
                      case measure => omega
                      case rel => exact ⟨false, t, q1 + 1 + 1, rfl, rfl, by go_num, by omega, by omega, rfl, HB6.out, HKN2, HTN⟩
                  · have f0 : (yk == 0) = false := by simpa using m0
                    have HTN : Hid (t + tw (pB (fun c => Wh.is c 13) l (q1 + 1 + 1)) (l.drop (q1 + 1 + 1)) = twos l) := Lib.hid (by have := HIF.out; rw [if_neg (by simp [m0])] at this; exact this)
                    clear HIF
                    go_wp2_with fail
                    go_roundg (n - (q1 + 1 + 1))
                    case measure => omega
                    case rel => exact ⟨false, t, q1 + 1 + 1, rfl, rfl, by go_num, by omega, by omega, rfl, HB6.out, HKN2, HTN⟩
                · have e10 : (xr == 10) = false := by simpa using k10
                  have HTN : Hid (t + tw (pB (fun c => Wh.is c 13) l (q1 + 1 + 1)) (l.drop (q1 + 1 + 1)) = twos l) := Lib.hid (by have := HIF.out; rw [if_neg (by simp [k10])] at this; exact this)
                  clear HIF
                  go_wp2_with fail
                  go_roundg (n - (q1 + 1 + 1))
                  case measure => omega
                  case rel => exact ⟨false, t, q1 + 1 + 1, rfl, rfl, by go_num, by omega, by omega, rfl, HB6.out, HKN2, HTN⟩
              · have e0 : (xk == 0) = false := by simpa using k0
                have HTN : Hid (t + tw (pB (fun c => Wh.is c 13) l (q1 + 1 + 1)) (l.drop (q1 + 1 + 1)) = twos l) := Lib.hid (by have := HIF.out; rw [if_neg (by simp [k0])] at this; exact this)
                clear HIF
                go_wp2_with fail
                go_roundg (n - (q1 + 1 + 1))
                case measure => omega
                case rel => exact ⟨false, t, q1 + 1 + 1, rfl, rfl, by go_num, by omega, by omega, rfl, HB6.out, HKN2, HTN⟩
        · obtain rfl : i = n := by omega
          have htw := HTW.out
          rw [tw_end (by rw [HN.out]; exact Nat.le_refl _), Nat.add_zero] at htw
          have HB4 := Lib.hid (below_seq HB3.out bel)
          cases kb with
          | true =>
            have hlen := HKL.out (keptI_all HN.out HKB.out)
            rw [HP.out, HN.out, ← htw] at hlen
            have heq : ((p : Int) == (i : Int) - (t : Int)) = true := by simp; omega
            clear htw HKB HTW hlen HKL
            go_wp2_with fail
            refine (HD.out _ HB4.out).mono ?_
            rintro e w7 ⟨rfl, b7⟩
            go_wp2_with fail
            go_ret
            exact ⟨rfl, b7⟩
          | false =>
            clear htw HKB HTW HKL
            go_wp2_with fail
            refine (HD.out _ HB4.out).mono ?_
            rintro e w7 ⟨rfl, b7⟩
            go_wp2_with fail
            go_ret
            exact ⟨rfl, b7⟩

end Go.Proofs.YtejcfhfmdijimaaDoor
