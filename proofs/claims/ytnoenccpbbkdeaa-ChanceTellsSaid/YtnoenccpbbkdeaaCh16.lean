/- The walk of ChanceTells: for every list the law returns true. Conditions: the slices read as the lists. -/
import Derived.Test.YtnoenccpbbkdeaaCh15
namespace Go.Proofs.Ytnoenccpbbkdeaa
open Go.ChangeShapes Go.WideShapes Go.ChangeAt Go.RowKit Go.Shelf
open Wh (Cr)
open Ch

set_option maxRecDepth 100000 in
set_option maxHeartbeats 8000000 in
theorem lawChanceTells_any (l : List Cr) (ss : List Sty) (rs : List Int) (v1 v2 v3 : Value) (w : World) (hR : RwC w v1 l) (hS : Ss w v2 ss) (hI : RI w v3 rs) :
    Calls Try.prog 3 #[.agg #[v1, v2, v3]] w fun e w' => e = .returned (.bool true) ∧ Below w.heap.size w w' := by
  have HR := Lib.hid hR
  have HS := Lib.hid hS
  have HI := Lib.hid hI
  obtain ⟨A1, c1, rfl⟩ := hR.form
  obtain ⟨A2, c2, rfl⟩ := hS.form
  obtain ⟨A3, c3, rfl⟩ := hI.form
  obtain ⟨n, hn⟩ : ∃ n, l.length = n := ⟨_, rfl⟩
  obtain ⟨m, hm⟩ : ∃ n, ss.length = n := ⟨_, rfl⟩
  obtain ⟨q, hq⟩ : ∃ n, rs.length = n := ⟨_, rfl⟩
  have HN := Lib.hid hn
  have HM := Lib.hid hm
  have HQ := Lib.hid hq
  rw [r64_len, hq] at HI ⊢
  rw [hm] at HS ⊢
  rw [hn] at HR ⊢
  clear hR hS hI hn hm hq
  go_enter Try.func3, Try.ntmps3
  go_wp2_with (refine bxLV rfl (.tmp 0) rfl rfl ?_; intro w1 b1 B1; obtain ⟨q1, q2, q3⟩ := (⟨B1.cell 0, B1.cell 1, B1.cell 2⟩ : w1.cell? ⟨w.heap.size, 0, none⟩ = some (.slice A1 n c1) ∧ w1.cell? ⟨w.heap.size, 1, none⟩ = some (.slice A2 m c2) ∧ w1.cell? ⟨w.heap.size, 2, none⟩ = some (.slice A3 q c3)))
  have HX : Hid (Bx w1 w.heap.size A1 A2 A3 n m q c1 c2 c3 l ss rs) := Lib.hid ⟨B1, HR.out.below b1, HS.out.below b1, HI.out.below b1⟩
  have HB1 := Lib.hid b1
  clear B1 HR HS HI b1
  refine (cgreat_any _ _ _ _ _ _ _ _ _ _).mono ?_
  rintro e w2 ⟨rfl, b2⟩
  have HB2 := Lib.hid (below_seq HB1.out b2)
  have HX2 := Lib.hid (HX.out.below b2)
  clear b2 HX q1 q2 q3
  by_cases hg : (decide (100 < n) || decide (40 < m) || decide (150 < q)) = true
  · rw [hg]
    go_wp2_with fail
    refine (chead_any _).mono ?_
    rintro e w3 ⟨rfl, b3⟩
    go_wp2_with fail
    go_ret
    exact ⟨rfl, below_seq HB2.out b3⟩
  have HG := Lib.hid (great_no hg)
  rw [Bool.not_eq_true] at hg
  rw [hg]
  clear hg
  obtain ⟨q1, q2, q3⟩ := HX2.out.q
  go_wp2_with fail
  have hl1 : l.length ≤ 100000 := by rw [HN.out]; have := HG.out.1; omega
  refine (chances_both ss l rs _ _ _ w2 HX2.out.ch HX2.out.st HX2.out.ru hl1).mono ?_
  rintro e w3 ⟨u1, rfl, Ra, b3⟩
  have HB3 := Lib.hid (below_seq HB2.out b3)
  have HX3 := Lib.hid (HX2.out.below b3)
  clear b3 HX2 q1 q2 q3
  obtain ⟨q1, q2, q3⟩ := HX3.out.q
  have HRa := Lib.hid Ra
  clear Ra
  have RC := fun W h1 h2 h3 => rchances_both ss l rs (.slice A1 n c1) (.slice A2 m c2) (.slice A3 q c3) W h1 h2 h3 hl1
  have HLL : Hid ((if mayC l ss.length rs = true then chn ss z0 l rs else []).length ≤ 1048576) := Lib.hid (by
    split
    · rename_i h
      rw [chn_len _ _ _ _ (by rw [(mayC_is h).1])]
      omega
    · simp)
  obtain ⟨LL, hLL⟩ : ∃ L, (if mayC l ss.length rs = true then chn ss z0 l rs else []) = L := ⟨_, rfl⟩
  obtain ⟨er, her⟩ : ∃ L : Int, (if mayC l ss.length rs = true then 0 else 2) = L := ⟨_, rfl⟩
  rw [hLL] at HRa HLL
  rw [her]
  simp only [hLL, her] at RC
  have HRC := Lib.hid RC
  clear RC hLL her hl1
  go_wp2_with fail
  refine (HRC.out w3 HX3.out.ch HX3.out.st HX3.out.ru).mono ?_
  rintro e w4 ⟨u2, rfl, Rb, b4⟩
  have HB4 := Lib.hid (below_seq HB3.out b4)
  have HX4 := Lib.hid (HX3.out.below b4)
  have HRa := Lib.hid (Row.below HRa.out b4)
  have HRb := Lib.hid Rb
  clear b4 HX3 q1 q2 q3 Rb HRC
  go_wp2_with fail
  go_loopg [7] n (fun kx s7 wr => ∃ k : Nat, s7 = .int .i64 (k : Int) ∧ k ≤ n ∧ kx = n - k ∧ Below w4.heap.size w4 wr)
  case atStart => exact ⟨0, rfl, Nat.zero_le _, by first | rfl | omega, Below.refl _ _⟩
  case round =>
    obtain ⟨k, rfl, hk, rfl, bel⟩ := hrel
    have HBE := Lib.hid bel
    have HX5 := Lib.hid (HX4.out.below bel)
    clear bel
    obtain ⟨q1, q2, q3⟩ := HX5.out.q
    by_cases hkn : k < n
    · obtain ⟨c, hc⟩ := at_ (l := l) (k := k) (by rw [HN.out]; exact hkn)
      obtain ⟨a1, cp1, o1, hv1, hab1, ha1, _⟩ := HX5.out.ch.get (Below.refl _ _) hc
      rw [HN.out] at hv1
      obtain ⟨rfl, rfl⟩ : A1 = some a1 ∧ c1 = cp1 := by injection hv1 with h1 _ h2; exact ⟨h1, h2⟩
      have HL5 : Hid (∀ W, Below wr.heap.size wr W → Lies W ⟨a1.block, o1, none⟩ (chA c)) := Lib.hid fun W b => by
        obtain ⟨a1', _, o1', hv1', _, ha1', hL⟩ := HX5.out.ch.get b hc
        injection hv1' with h1 _ _
        injection h1 with h1
        subst h1
        rw [ha1] at ha1'
        injection ha1' with _ h2 _
        subst h2
        exact hL
      have hkz : (k : Int) < n := by omega
      have HA1 := Lib.hid ha1
      clear hv1 hc hab1
      by_cases hz : 0 < m
      · have hmz : (0 : Int) < m := by omega
        go_wp2_with (refine nwS rfl rfl 8 rfl rfl (.tmp 39) rfl rfl Sty.zero (fun _ => rfl) (fun _ => rfl) ?_; intro w5 b5 B5; obtain ⟨p1, p2, p3⟩ := (HX5.out.below b5).q)
        obtain ⟨s, hs⟩ := at_ (l := ss) (k := k % m) (by rw [HM.out]; exact Nat.mod_lt _ hz)
        have hlt := Nat.mod_lt k hz
        have hrem : (k : Int).tmod m = ((k % m : Nat) : Int) := (Int.ofNat_tmod k m).symm
        obtain ⟨j, hj⟩ : ∃ j, k % m = j := ⟨_, rfl⟩
        rw [hj] at hs hlt hrem
        clear hj
        obtain ⟨a2, cp2, o2, hv2, hab2, ha2, _⟩ := HX5.out.st.get (Below.refl _ _) hs
        rw [HM.out] at hv2
        obtain ⟨rfl, rfl⟩ : A2 = some a2 ∧ c2 = cp2 := by injection hv2 with h1 _ h2; exact ⟨h1, h2⟩
        have HL2 : Hid (∀ W, Below wr.heap.size wr W → Lies W ⟨a2.block, o2, none⟩ s.cells) := Lib.hid fun W b => by
          obtain ⟨a2', _, o2', hv2', _, ha2', hL⟩ := HX5.out.st.get b hs
          injection hv2' with h1 _ _
          injection h1 with h1
          subst h1
          rw [ha2] at ha2'
          injection ha2' with _ h2 _
          subst h2
          exact hL
        have HA2 := Lib.hid ha2
        have HRM := Lib.hid hrem
        have HLT : Hid ((j : Int) < m) := Lib.hid (by omega)
        have HB5 := Lib.hid b5
        have HBk := Lib.hid B5
        have HX55 := Lib.hid (HX5.out.below b5)
        have HMZ : Hid (¬ (m : Int) = 0) := Lib.hid (by omega)
        clear hv2 hs hab2 hrem B5 b5 p1 p2 p3 q1 q2 q3 ha1 ha2
        refine region_tail (by kernel_rfl) (fun W => Below w5.heap.size w5 W) (below_drewN (Below.refl _ _) 1) 9 (by rfl) (by kernel_rfl) (by kernel_rfl) (fun R hR => ?_)
        refine AllS.take (i := 0) (v := ?_) (by rw [List.getElem?_toArray]; rfl) (by kernel_rfl) (by kernel_rfl) (by kernel_rfl) (KeepsIf.read (by rfl) ?_) ?_
        rotate_left
        · intro W hSw
          (try dsimp only at hSw)
          go_simp
          (try with_reducible rfl)
        rotate_left
        (try simp only [Act.put, List.setIfInBounds_toArray, List.set_cons_zero, List.set_cons_succ])
        refine AllS.take (i := 1) (v := ?_) (by rw [List.getElem?_toArray]; rfl) (by kernel_rfl) (by kernel_rfl) (by kernel_rfl) (KeepsIf.read (by rfl) ?_) ?_
        rotate_left
        · intro W hSw
          (try dsimp only at hSw)
          obtain ⟨q1, q2, q3⟩ := (HX55.out.below hSw).q
          go_simp
          (try with_reducible rfl)
        rotate_left
        (try simp only [Act.put, List.setIfInBounds_toArray, List.set_cons_zero, List.set_cons_succ])
        refine AllS.take (i := 2) (v := ?_) (by rw [List.getElem?_toArray]; rfl) (by kernel_rfl) (by kernel_rfl) (by kernel_rfl) (KeepsIf.read (by rfl) ?_) ?_
        rotate_left
        · intro W hSw
          (try dsimp only at hSw)
          go_simp
          (try with_reducible rfl)
        rotate_left
        (try simp only [Act.put, List.setIfInBounds_toArray, List.set_cons_zero, List.set_cons_succ])
        refine AllS.take (i := 3) (v := ?_) (by rw [List.getElem?_toArray]; rfl) (by kernel_rfl) (by kernel_rfl) (by kernel_rfl) (KeepsIf.read (by rfl) ?_) ?_
        rotate_left
        · intro W hSw
          (try dsimp only at hSw)
          go_simp
          (try with_reducible rfl)
        rotate_left
        (try simp only [Act.put, List.setIfInBounds_toArray, List.set_cons_zero, List.set_cons_succ])
        refine AllS.take (i := 4) (v := ?_) (by rw [List.getElem?_toArray]; rfl) (by kernel_rfl) (by kernel_rfl) (by kernel_rfl) (KeepsIf.read (by rfl) ?_) ?_
        rotate_left
        · intro W hSw
          (try dsimp only at hSw)
          obtain ⟨q1, q2, q3⟩ := (HX55.out.below hSw).q
          go_simp
          (try with_reducible rfl)
        rotate_left
        (try simp only [Act.put, List.setIfInBounds_toArray, List.set_cons_zero, List.set_cons_succ])
        refine AllS.take (i := 5) (v := ?_) (by rw [List.getElem?_toArray]; rfl) (by kernel_rfl) (by kernel_rfl) (by kernel_rfl) (KeepsIf.read (by rfl) ?_) ?_
        rotate_left
        · intro W hSw
          (try dsimp only at hSw)
          go_simp
          (try with_reducible rfl)
        rotate_left
        (try simp only [Act.put, List.setIfInBounds_toArray, List.set_cons_zero, List.set_cons_succ])
        refine AllS.take (i := 6) (v := .int .i64 (j : Int)) (by rw [List.getElem?_toArray]; rfl) (by kernel_rfl) (by kernel_rfl) (by kernel_rfl) (KeepsIf.read (by rfl) (fun W hSw => ?_)) ?_
        · (try dsimp only at hSw)
          (have hrem := HRM.out; have hm0 := HMZ.out; have hlt := HLT.out; go_simp; (try simp [hrem, hm0]); (try omega))
        (try simp only [Act.put, List.setIfInBounds_toArray, List.set_cons_zero, List.set_cons_succ])
        refine AllS.take (i := 7) (v := ?_) (by rw [List.getElem?_toArray]; rfl) (by kernel_rfl) (by kernel_rfl) (by kernel_rfl) (KeepsIf.read (by rfl) ?_) ?_
        rotate_left
        · intro W hSw
          (try dsimp only at hSw)
          have ha2 := HA2.out; have hlt := HLT.out
          go_simp
          (try with_reducible rfl)
        rotate_left
        (try simp only [Act.put, List.setIfInBounds_toArray, List.set_cons_zero, List.set_cons_succ])
        refine AllS.take (i := 8) (v := .agg s.cells) (by rw [List.getElem?_toArray]; rfl) (by kernel_rfl) (by kernel_rfl) (by kernel_rfl) (KeepsIf.read (by rfl) (fun W hSw => ?_)) ?_
        · (try dsimp only at hSw)
          exact rdS (.tmp 51) rfl _ rfl s (HL2.out W (below_seq HB5.out hSw))
        (try simp only [Act.put, List.setIfInBounds_toArray, List.set_cons_zero, List.set_cons_succ])
        refine AllS.done (by kernel_rfl) (hR.out _ ?_) _
        clear hR R
        intro w7 b7
        refine wpOp_of_wp (by rw [List.getElem?_toArray]; rfl) rfl ?_
        refine wp_storeL 36 (.tmp 8) (.tmp 52) rfl rfl wr.heap.size rfl s.cells rfl 36 Sty.zero.cells (HBk.out.keep (S := fun _ => False) (Mod.of_below b7) id) iS rfl (one23 s) ?_
        intro w6 m6 B6
        have b57 := below_seq HB5.out b7
        have HB6 : Hid (Below wr.heap.size wr w6) := Lib.hid (b57.trans (m6.below b57.size (fun x hx => by omega)))
        have HBk6 := Lib.hid B6
        clear b7 b57 m6 B6 HB5 HBk HX55
        have HX6 := Lib.hid (HX5.out.below HB6.out)
        have HL6 : Hid (∀ W, Below w6.heap.size w6 W → Lies W ⟨a1.block, o1, none⟩ (chA c)) := Lib.hid fun W b => HL5.out W (below_seq HB6.out b)
        go_wp2_with fail
        refine region_any (by kernel_rfl) (fun W => Below w6.heap.size w6 W) (below_drewN (Below.refl _ _) 1) (fun R hR => ?_)
        refine AllS.take (i := 0) (v := ?_) (by rw [List.getElem?_toArray]; rfl) (by kernel_rfl) (by kernel_rfl) (by kernel_rfl) (KeepsIf.read (by rfl) ?_) ?_
        rotate_left
        · intro W hSw
          (try dsimp only at hSw)
          go_simp
          (try with_reducible rfl)
        rotate_left
        (try simp only [Act.put, List.setIfInBounds_toArray, List.set_cons_zero, List.set_cons_succ])
        refine AllS.take (i := 1) (v := ?_) (by rw [List.getElem?_toArray]; rfl) (by kernel_rfl) (by kernel_rfl) (by kernel_rfl) (KeepsIf.read (by rfl) ?_) ?_
        rotate_left
        · intro W hSw
          (try dsimp only at hSw)
          obtain ⟨q1, q2, q3⟩ := (HX6.out.below hSw).q
          go_simp
          (try with_reducible rfl)
        rotate_left
        (try simp only [Act.put, List.setIfInBounds_toArray, List.set_cons_zero, List.set_cons_succ])
        refine AllS.take (i := 2) (v := ?_) (by rw [List.getElem?_toArray]; rfl) (by kernel_rfl) (by kernel_rfl) (by kernel_rfl) (KeepsIf.read (by rfl) ?_) ?_
        rotate_left
        · intro W hSw
          (try dsimp only at hSw)
          go_simp
          (try with_reducible rfl)
        rotate_left
        (try simp only [Act.put, List.setIfInBounds_toArray, List.set_cons_zero, List.set_cons_succ])
        refine AllS.take (i := 3) (v := ?_) (by rw [List.getElem?_toArray]; rfl) (by kernel_rfl) (by kernel_rfl) (by kernel_rfl) (KeepsIf.read (by rfl) ?_) ?_
        rotate_left
        · intro W hSw
          (try dsimp only at hSw)
          have ha1 := HA1.out
          go_simp
          (try with_reducible rfl)
        rotate_left
        (try simp only [Act.put, List.setIfInBounds_toArray, List.set_cons_zero, List.set_cons_succ])
        refine AllS.take (i := 4) (v := .agg (chA c)) (by rw [List.getElem?_toArray]; rfl) (by kernel_rfl) (by kernel_rfl) (by kernel_rfl) (KeepsIf.read (by rfl) (fun W hSw => ?_)) ?_
        · (try dsimp only at hSw)
          exact rdC (.tmp 56) rfl _ rfl c (HL6.out W hSw)
        (try simp only [Act.put, List.setIfInBounds_toArray, List.set_cons_zero, List.set_cons_succ])
        refine AllS.take (i := 5) (v := .agg (s).cells) (by rw [List.getElem?_toArray]; rfl) (by kernel_rfl) (by kernel_rfl) (by kernel_rfl) (KeepsIf.read (by rfl) (fun W hSw => ?_)) ?_
        · (try dsimp only at hSw)
          exact rdS (.tmp 8) rfl _ rfl s ((HBk6.out.keep (S := fun _ => False) (Mod.of_below hSw) id).lies)
        (try simp only [Act.put, List.setIfInBounds_toArray, List.set_cons_zero, List.set_cons_succ])
        refine AllS.take (i := 6) (v := .int .u8 (clsC c (s))) (by rw [List.getElem?_toArray]; rfl) (by kernel_rfl) (by kernel_rfl) (by kernel_rfl) (KeepsIf.call 12 #[.agg (chA c), .agg (s).cells] (by kernel_rfl) (fun W => ?_) (fun W hSw => ?_)) ?_
        · go_simp
        · exact (chclass_any c (s) W).mono fun e w' h => ⟨h.1, below_seq hSw h.2⟩
        (try simp only [Act.put, List.setIfInBounds_toArray, List.set_cons_zero, List.set_cons_succ])
        refine AllS.take (i := 7) (v := ?_) (by rw [List.getElem?_toArray]; rfl) (by kernel_rfl) (by kernel_rfl) (by kernel_rfl) (KeepsIf.read (by rfl) ?_) ?_
        rotate_left
        · intro W hSw
          (try dsimp only at hSw)
          go_simp
          (try with_reducible rfl)
        rotate_left
        (try simp only [Act.put, List.setIfInBounds_toArray, List.set_cons_zero, List.set_cons_succ])
        refine AllS.take (i := 8) (v := ?_) (by rw [List.getElem?_toArray]; rfl) (by kernel_rfl) (by kernel_rfl) (by kernel_rfl) (KeepsIf.read (by rfl) ?_) ?_
        rotate_left
        · intro W hSw
          (try dsimp only at hSw)
          obtain ⟨q1, q2, q3⟩ := (HX6.out.below hSw).q
          go_simp
          (try with_reducible rfl)
        rotate_left
        (try simp only [Act.put, List.setIfInBounds_toArray, List.set_cons_zero, List.set_cons_succ])
        refine AllS.take (i := 9) (v := ?_) (by rw [List.getElem?_toArray]; rfl) (by kernel_rfl) (by kernel_rfl) (by kernel_rfl) (KeepsIf.read (by rfl) ?_) ?_
        rotate_left
        · intro W hSw
          (try dsimp only at hSw)
          go_simp
          (try with_reducible rfl)
        rotate_left
        (try simp only [Act.put, List.setIfInBounds_toArray, List.set_cons_zero, List.set_cons_succ])
        refine AllS.take (i := 10) (v := ?_) (by rw [List.getElem?_toArray]; rfl) (by kernel_rfl) (by kernel_rfl) (by kernel_rfl) (KeepsIf.read (by rfl) ?_) ?_
        rotate_left
        · intro W hSw
          (try dsimp only at hSw)
          have ha1 := HA1.out
          go_simp
          (try with_reducible rfl)
        rotate_left
        (try simp only [Act.put, List.setIfInBounds_toArray, List.set_cons_zero, List.set_cons_succ])
        refine AllS.take (i := 11) (v := .agg (chA c)) (by rw [List.getElem?_toArray]; rfl) (by kernel_rfl) (by kernel_rfl) (by kernel_rfl) (KeepsIf.read (by rfl) (fun W hSw => ?_)) ?_
        · (try dsimp only at hSw)
          exact rdC (.tmp 63) rfl _ rfl c (HL6.out W hSw)
        (try simp only [Act.put, List.setIfInBounds_toArray, List.set_cons_zero, List.set_cons_succ])
        refine AllS.take (i := 12) (v := .agg (s).cells) (by rw [List.getElem?_toArray]; rfl) (by kernel_rfl) (by kernel_rfl) (by kernel_rfl) (KeepsIf.read (by rfl) (fun W hSw => ?_)) ?_
        · (try dsimp only at hSw)
          exact rdS (.tmp 8) rfl _ rfl s ((HBk6.out.keep (S := fun _ => False) (Mod.of_below hSw) id).lies)
        (try simp only [Act.put, List.setIfInBounds_toArray, List.set_cons_zero, List.set_cons_succ])
        refine AllS.take (i := 13) (v := .int .u8 (clsC c (s))) (by rw [List.getElem?_toArray]; rfl) (by kernel_rfl) (by kernel_rfl) (by kernel_rfl) (KeepsIf.call 13 #[.agg (chA c), .agg (s).cells] (by kernel_rfl) (fun W => ?_) (fun W hSw => ?_)) ?_
        · go_simp
        · exact (rclass_any c (s) W).mono fun e w' h => ⟨h.1, below_seq hSw h.2⟩
        (try simp only [Act.put, List.setIfInBounds_toArray, List.set_cons_zero, List.set_cons_succ])
        refine AllS.take (i := 14) (v := .bool false) (by rw [List.getElem?_toArray]; rfl) (by kernel_rfl) (by kernel_rfl) (by kernel_rfl) (KeepsIf.read (by rfl) (fun W hSw => ?_)) ?_
        · (try dsimp only at hSw)
          (go_simp; try simp)
        (try simp only [Act.put, List.setIfInBounds_toArray, List.set_cons_zero, List.set_cons_succ])
        refine AllS.take (i := 15) (v := .bool false) (by rw [List.getElem?_toArray]; rfl) (by kernel_rfl) (by kernel_rfl) (by kernel_rfl) (KeepsIf.read (by rfl) (fun W hSw => ?_)) ?_
        · (try dsimp only at hSw)
          go_simp
        (try simp only [Act.put, List.setIfInBounds_toArray, List.set_cons_zero, List.set_cons_succ])
        refine AllS.take (i := 16) (v := ?_) (by rw [List.getElem?_toArray]; rfl) (by kernel_rfl) (by kernel_rfl) (by kernel_rfl) (KeepsIf.read (by rfl) ?_) ?_
        rotate_left
        · intro W hSw
          (try dsimp only at hSw)
          go_simp
          (try with_reducible rfl)
        rotate_left
        (try simp only [Act.put, List.setIfInBounds_toArray, List.set_cons_zero, List.set_cons_succ])
        refine AllS.take (i := 17) (v := ?_) (by rw [List.getElem?_toArray]; rfl) (by kernel_rfl) (by kernel_rfl) (by kernel_rfl) (KeepsIf.read (by rfl) ?_) ?_
        rotate_left
        · intro W hSw
          (try dsimp only at hSw)
          obtain ⟨q1, q2, q3⟩ := (HX6.out.below hSw).q
          go_simp
          (try with_reducible rfl)
        rotate_left
        (try simp only [Act.put, List.setIfInBounds_toArray, List.set_cons_zero, List.set_cons_succ])
        refine AllS.take (i := 18) (v := ?_) (by rw [List.getElem?_toArray]; rfl) (by kernel_rfl) (by kernel_rfl) (by kernel_rfl) (KeepsIf.read (by rfl) ?_) ?_
        rotate_left
        · intro W hSw
          (try dsimp only at hSw)
          go_simp
          (try with_reducible rfl)
        rotate_left
        (try simp only [Act.put, List.setIfInBounds_toArray, List.set_cons_zero, List.set_cons_succ])
        refine AllS.take (i := 19) (v := ?_) (by rw [List.getElem?_toArray]; rfl) (by kernel_rfl) (by kernel_rfl) (by kernel_rfl) (KeepsIf.read (by rfl) ?_) ?_
        rotate_left
        · intro W hSw
          (try dsimp only at hSw)
          have ha1 := HA1.out
          go_simp
          (try with_reducible rfl)
        rotate_left
        (try simp only [Act.put, List.setIfInBounds_toArray, List.set_cons_zero, List.set_cons_succ])
        refine AllS.take (i := 20) (v := .agg (chA c)) (by rw [List.getElem?_toArray]; rfl) (by kernel_rfl) (by kernel_rfl) (by kernel_rfl) (KeepsIf.read (by rfl) (fun W hSw => ?_)) ?_
        · (try dsimp only at hSw)
          exact rdC (.tmp 72) rfl _ rfl c (HL6.out W hSw)
        (try simp only [Act.put, List.setIfInBounds_toArray, List.set_cons_zero, List.set_cons_succ])
        refine AllS.take (i := 21) (v := .bool (lett c)) (by rw [List.getElem?_toArray]; rfl) (by kernel_rfl) (by kernel_rfl) (by kernel_rfl) (KeepsIf.call 14 #[.agg (chA c)] (by kernel_rfl) (fun W => ?_) (fun W hSw => ?_)) ?_
        · go_simp
        · exact (chletter_any c W).mono fun e w' h => ⟨h.1, below_seq hSw h.2⟩
        (try simp only [Act.put, List.setIfInBounds_toArray, List.set_cons_zero, List.set_cons_succ])
        refine AllS.take (i := 22) (v := ?_) (by rw [List.getElem?_toArray]; rfl) (by kernel_rfl) (by kernel_rfl) (by kernel_rfl) (KeepsIf.read (by rfl) ?_) ?_
        rotate_left
        · intro W hSw
          (try dsimp only at hSw)
          go_simp
          (try with_reducible rfl)
        rotate_left
        (try simp only [Act.put, List.setIfInBounds_toArray, List.set_cons_zero, List.set_cons_succ])
        refine AllS.take (i := 23) (v := ?_) (by rw [List.getElem?_toArray]; rfl) (by kernel_rfl) (by kernel_rfl) (by kernel_rfl) (KeepsIf.read (by rfl) ?_) ?_
        rotate_left
        · intro W hSw
          (try dsimp only at hSw)
          obtain ⟨q1, q2, q3⟩ := (HX6.out.below hSw).q
          go_simp
          (try with_reducible rfl)
        rotate_left
        (try simp only [Act.put, List.setIfInBounds_toArray, List.set_cons_zero, List.set_cons_succ])
        refine AllS.take (i := 24) (v := ?_) (by rw [List.getElem?_toArray]; rfl) (by kernel_rfl) (by kernel_rfl) (by kernel_rfl) (KeepsIf.read (by rfl) ?_) ?_
        rotate_left
        · intro W hSw
          (try dsimp only at hSw)
          go_simp
          (try with_reducible rfl)
        rotate_left
        (try simp only [Act.put, List.setIfInBounds_toArray, List.set_cons_zero, List.set_cons_succ])
        refine AllS.take (i := 25) (v := ?_) (by rw [List.getElem?_toArray]; rfl) (by kernel_rfl) (by kernel_rfl) (by kernel_rfl) (KeepsIf.read (by rfl) ?_) ?_
        rotate_left
        · intro W hSw
          (try dsimp only at hSw)
          have ha1 := HA1.out
          go_simp
          (try with_reducible rfl)
        rotate_left
        (try simp only [Act.put, List.setIfInBounds_toArray, List.set_cons_zero, List.set_cons_succ])
        refine AllS.take (i := 26) (v := .agg (chA c)) (by rw [List.getElem?_toArray]; rfl) (by kernel_rfl) (by kernel_rfl) (by kernel_rfl) (KeepsIf.read (by rfl) (fun W hSw => ?_)) ?_
        · (try dsimp only at hSw)
          exact rdC (.tmp 78) rfl _ rfl c (HL6.out W hSw)
        (try simp only [Act.put, List.setIfInBounds_toArray, List.set_cons_zero, List.set_cons_succ])
        refine AllS.take (i := 27) (v := .bool (lett c)) (by rw [List.getElem?_toArray]; rfl) (by kernel_rfl) (by kernel_rfl) (by kernel_rfl) (KeepsIf.call 15 #[.agg (chA c)] (by kernel_rfl) (fun W => ?_) (fun W hSw => ?_)) ?_
        · go_simp
        · exact (rletter_any c W).mono fun e w' h => ⟨h.1, below_seq hSw h.2⟩
        (try simp only [Act.put, List.setIfInBounds_toArray, List.set_cons_zero, List.set_cons_succ])
        refine AllS.take (i := 28) (v := .bool false) (by rw [List.getElem?_toArray]; rfl) (by kernel_rfl) (by kernel_rfl) (by kernel_rfl) (KeepsIf.read (by rfl) (fun W hSw => ?_)) ?_
        · (try dsimp only at hSw)
          (go_simp; try simp)
        (try simp only [Act.put, List.setIfInBounds_toArray, List.set_cons_zero, List.set_cons_succ])
        refine AllS.take (i := 29) (v := .bool false) (by rw [List.getElem?_toArray]; rfl) (by kernel_rfl) (by kernel_rfl) (by kernel_rfl) (KeepsIf.read (by rfl) (fun W hSw => ?_)) ?_
        · (try dsimp only at hSw)
          go_simp
        (try simp only [Act.put, List.setIfInBounds_toArray, List.set_cons_zero, List.set_cons_succ])
        refine AllS.done (by kernel_rfl) (hR.out _ ?_) _
        clear hR R
        intro w8 b8
        have b9 := HBE.out.trans ((below_seq HB6.out b8).mono HBE.out.size)
        have hn9 := HG.out.1
        go_wp2_with fail
        go_roundg (n - (k + 1))
        case measure => omega
        case rel => exact ⟨k + 1, by go_num, by omega, by first | rfl | trivial, b9⟩
      · obtain rfl : m = 0 := by omega
        go_wp2_with (refine nwS rfl rfl 8 rfl rfl (.tmp 39) rfl rfl Sty.zero (fun _ => rfl) (fun _ => rfl) ?_; intro w6 b6 B6; obtain ⟨p1, p2, p3⟩ := (HX5.out.below b6).q)
        have HB6 := Lib.hid b6
        have HBk6 := Lib.hid B6
        clear b6 B6 p1 p2 p3 q1 q2 q3 ha1
        have HX6 := Lib.hid (HX5.out.below HB6.out)
        have HL6 : Hid (∀ W, Below w6.heap.size w6 W → Lies W ⟨a1.block, o1, none⟩ (chA c)) := Lib.hid fun W b => HL5.out W (below_seq HB6.out b)
        refine region_any (by kernel_rfl) (fun W => Below w6.heap.size w6 W) (below_drewN (Below.refl _ _) 1) (fun R hR => ?_)
        refine AllS.take (i := 0) (v := ?_) (by rw [List.getElem?_toArray]; rfl) (by kernel_rfl) (by kernel_rfl) (by kernel_rfl) (KeepsIf.read (by rfl) ?_) ?_
        rotate_left
        · intro W hSw
          (try dsimp only at hSw)
          go_simp
          (try with_reducible rfl)
        rotate_left
        (try simp only [Act.put, List.setIfInBounds_toArray, List.set_cons_zero, List.set_cons_succ])
        refine AllS.take (i := 1) (v := ?_) (by rw [List.getElem?_toArray]; rfl) (by kernel_rfl) (by kernel_rfl) (by kernel_rfl) (KeepsIf.read (by rfl) ?_) ?_
        rotate_left
        · intro W hSw
          (try dsimp only at hSw)
          obtain ⟨q1, q2, q3⟩ := (HX6.out.below hSw).q
          go_simp
          (try with_reducible rfl)
        rotate_left
        (try simp only [Act.put, List.setIfInBounds_toArray, List.set_cons_zero, List.set_cons_succ])
        refine AllS.take (i := 2) (v := ?_) (by rw [List.getElem?_toArray]; rfl) (by kernel_rfl) (by kernel_rfl) (by kernel_rfl) (KeepsIf.read (by rfl) ?_) ?_
        rotate_left
        · intro W hSw
          (try dsimp only at hSw)
          go_simp
          (try with_reducible rfl)
        rotate_left
        (try simp only [Act.put, List.setIfInBounds_toArray, List.set_cons_zero, List.set_cons_succ])
        refine AllS.take (i := 3) (v := ?_) (by rw [List.getElem?_toArray]; rfl) (by kernel_rfl) (by kernel_rfl) (by kernel_rfl) (KeepsIf.read (by rfl) ?_) ?_
        rotate_left
        · intro W hSw
          (try dsimp only at hSw)
          have ha1 := HA1.out
          go_simp
          (try with_reducible rfl)
        rotate_left
        (try simp only [Act.put, List.setIfInBounds_toArray, List.set_cons_zero, List.set_cons_succ])
        refine AllS.take (i := 4) (v := .agg (chA c)) (by rw [List.getElem?_toArray]; rfl) (by kernel_rfl) (by kernel_rfl) (by kernel_rfl) (KeepsIf.read (by rfl) (fun W hSw => ?_)) ?_
        · (try dsimp only at hSw)
          exact rdC (.tmp 56) rfl _ rfl c (HL6.out W hSw)
        (try simp only [Act.put, List.setIfInBounds_toArray, List.set_cons_zero, List.set_cons_succ])
        refine AllS.take (i := 5) (v := .agg (Sty.zero).cells) (by rw [List.getElem?_toArray]; rfl) (by kernel_rfl) (by kernel_rfl) (by kernel_rfl) (KeepsIf.read (by rfl) (fun W hSw => ?_)) ?_
        · (try dsimp only at hSw)
          exact rdS (.tmp 8) rfl _ rfl Sty.zero ((HBk6.out.keep (S := fun _ => False) (Mod.of_below hSw) id).lies)
        (try simp only [Act.put, List.setIfInBounds_toArray, List.set_cons_zero, List.set_cons_succ])
        refine AllS.take (i := 6) (v := .int .u8 (clsC c (Sty.zero))) (by rw [List.getElem?_toArray]; rfl) (by kernel_rfl) (by kernel_rfl) (by kernel_rfl) (KeepsIf.call 12 #[.agg (chA c), .agg (Sty.zero).cells] (by kernel_rfl) (fun W => ?_) (fun W hSw => ?_)) ?_
        · go_simp
        · exact (chclass_any c (Sty.zero) W).mono fun e w' h => ⟨h.1, below_seq hSw h.2⟩
        (try simp only [Act.put, List.setIfInBounds_toArray, List.set_cons_zero, List.set_cons_succ])
        refine AllS.take (i := 7) (v := ?_) (by rw [List.getElem?_toArray]; rfl) (by kernel_rfl) (by kernel_rfl) (by kernel_rfl) (KeepsIf.read (by rfl) ?_) ?_
        rotate_left
        · intro W hSw
          (try dsimp only at hSw)
          go_simp
          (try with_reducible rfl)
        rotate_left
        (try simp only [Act.put, List.setIfInBounds_toArray, List.set_cons_zero, List.set_cons_succ])
        refine AllS.take (i := 8) (v := ?_) (by rw [List.getElem?_toArray]; rfl) (by kernel_rfl) (by kernel_rfl) (by kernel_rfl) (KeepsIf.read (by rfl) ?_) ?_
        rotate_left
        · intro W hSw
          (try dsimp only at hSw)
          obtain ⟨q1, q2, q3⟩ := (HX6.out.below hSw).q
          go_simp
          (try with_reducible rfl)
        rotate_left
        (try simp only [Act.put, List.setIfInBounds_toArray, List.set_cons_zero, List.set_cons_succ])
        refine AllS.take (i := 9) (v := ?_) (by rw [List.getElem?_toArray]; rfl) (by kernel_rfl) (by kernel_rfl) (by kernel_rfl) (KeepsIf.read (by rfl) ?_) ?_
        rotate_left
        · intro W hSw
          (try dsimp only at hSw)
          go_simp
          (try with_reducible rfl)
        rotate_left
        (try simp only [Act.put, List.setIfInBounds_toArray, List.set_cons_zero, List.set_cons_succ])
        refine AllS.take (i := 10) (v := ?_) (by rw [List.getElem?_toArray]; rfl) (by kernel_rfl) (by kernel_rfl) (by kernel_rfl) (KeepsIf.read (by rfl) ?_) ?_
        rotate_left
        · intro W hSw
          (try dsimp only at hSw)
          have ha1 := HA1.out
          go_simp
          (try with_reducible rfl)
        rotate_left
        (try simp only [Act.put, List.setIfInBounds_toArray, List.set_cons_zero, List.set_cons_succ])
        refine AllS.take (i := 11) (v := .agg (chA c)) (by rw [List.getElem?_toArray]; rfl) (by kernel_rfl) (by kernel_rfl) (by kernel_rfl) (KeepsIf.read (by rfl) (fun W hSw => ?_)) ?_
        · (try dsimp only at hSw)
          exact rdC (.tmp 63) rfl _ rfl c (HL6.out W hSw)
        (try simp only [Act.put, List.setIfInBounds_toArray, List.set_cons_zero, List.set_cons_succ])
        refine AllS.take (i := 12) (v := .agg (Sty.zero).cells) (by rw [List.getElem?_toArray]; rfl) (by kernel_rfl) (by kernel_rfl) (by kernel_rfl) (KeepsIf.read (by rfl) (fun W hSw => ?_)) ?_
        · (try dsimp only at hSw)
          exact rdS (.tmp 8) rfl _ rfl Sty.zero ((HBk6.out.keep (S := fun _ => False) (Mod.of_below hSw) id).lies)
        (try simp only [Act.put, List.setIfInBounds_toArray, List.set_cons_zero, List.set_cons_succ])
        refine AllS.take (i := 13) (v := .int .u8 (clsC c (Sty.zero))) (by rw [List.getElem?_toArray]; rfl) (by kernel_rfl) (by kernel_rfl) (by kernel_rfl) (KeepsIf.call 13 #[.agg (chA c), .agg (Sty.zero).cells] (by kernel_rfl) (fun W => ?_) (fun W hSw => ?_)) ?_
        · go_simp
        · exact (rclass_any c (Sty.zero) W).mono fun e w' h => ⟨h.1, below_seq hSw h.2⟩
        (try simp only [Act.put, List.setIfInBounds_toArray, List.set_cons_zero, List.set_cons_succ])
        refine AllS.take (i := 14) (v := .bool false) (by rw [List.getElem?_toArray]; rfl) (by kernel_rfl) (by kernel_rfl) (by kernel_rfl) (KeepsIf.read (by rfl) (fun W hSw => ?_)) ?_
        · (try dsimp only at hSw)
          (go_simp; try simp)
        (try simp only [Act.put, List.setIfInBounds_toArray, List.set_cons_zero, List.set_cons_succ])
        refine AllS.take (i := 15) (v := .bool false) (by rw [List.getElem?_toArray]; rfl) (by kernel_rfl) (by kernel_rfl) (by kernel_rfl) (KeepsIf.read (by rfl) (fun W hSw => ?_)) ?_
        · (try dsimp only at hSw)
          go_simp
        (try simp only [Act.put, List.setIfInBounds_toArray, List.set_cons_zero, List.set_cons_succ])
        refine AllS.take (i := 16) (v := ?_) (by rw [List.getElem?_toArray]; rfl) (by kernel_rfl) (by kernel_rfl) (by kernel_rfl) (KeepsIf.read (by rfl) ?_) ?_
        rotate_left
        · intro W hSw
          (try dsimp only at hSw)
          go_simp
          (try with_reducible rfl)
        rotate_left
        (try simp only [Act.put, List.setIfInBounds_toArray, List.set_cons_zero, List.set_cons_succ])
        refine AllS.take (i := 17) (v := ?_) (by rw [List.getElem?_toArray]; rfl) (by kernel_rfl) (by kernel_rfl) (by kernel_rfl) (KeepsIf.read (by rfl) ?_) ?_
        rotate_left
        · intro W hSw
          (try dsimp only at hSw)
          obtain ⟨q1, q2, q3⟩ := (HX6.out.below hSw).q
          go_simp
          (try with_reducible rfl)
        rotate_left
        (try simp only [Act.put, List.setIfInBounds_toArray, List.set_cons_zero, List.set_cons_succ])
        refine AllS.take (i := 18) (v := ?_) (by rw [List.getElem?_toArray]; rfl) (by kernel_rfl) (by kernel_rfl) (by kernel_rfl) (KeepsIf.read (by rfl) ?_) ?_
        rotate_left
        · intro W hSw
          (try dsimp only at hSw)
          go_simp
          (try with_reducible rfl)
        rotate_left
        (try simp only [Act.put, List.setIfInBounds_toArray, List.set_cons_zero, List.set_cons_succ])
        refine AllS.take (i := 19) (v := ?_) (by rw [List.getElem?_toArray]; rfl) (by kernel_rfl) (by kernel_rfl) (by kernel_rfl) (KeepsIf.read (by rfl) ?_) ?_
        rotate_left
        · intro W hSw
          (try dsimp only at hSw)
          have ha1 := HA1.out
          go_simp
          (try with_reducible rfl)
        rotate_left
        (try simp only [Act.put, List.setIfInBounds_toArray, List.set_cons_zero, List.set_cons_succ])
        refine AllS.take (i := 20) (v := .agg (chA c)) (by rw [List.getElem?_toArray]; rfl) (by kernel_rfl) (by kernel_rfl) (by kernel_rfl) (KeepsIf.read (by rfl) (fun W hSw => ?_)) ?_
        · (try dsimp only at hSw)
          exact rdC (.tmp 72) rfl _ rfl c (HL6.out W hSw)
        (try simp only [Act.put, List.setIfInBounds_toArray, List.set_cons_zero, List.set_cons_succ])
        refine AllS.take (i := 21) (v := .bool (lett c)) (by rw [List.getElem?_toArray]; rfl) (by kernel_rfl) (by kernel_rfl) (by kernel_rfl) (KeepsIf.call 14 #[.agg (chA c)] (by kernel_rfl) (fun W => ?_) (fun W hSw => ?_)) ?_
        · go_simp
        · exact (chletter_any c W).mono fun e w' h => ⟨h.1, below_seq hSw h.2⟩
        (try simp only [Act.put, List.setIfInBounds_toArray, List.set_cons_zero, List.set_cons_succ])
        refine AllS.take (i := 22) (v := ?_) (by rw [List.getElem?_toArray]; rfl) (by kernel_rfl) (by kernel_rfl) (by kernel_rfl) (KeepsIf.read (by rfl) ?_) ?_
        rotate_left
        · intro W hSw
          (try dsimp only at hSw)
          go_simp
          (try with_reducible rfl)
        rotate_left
        (try simp only [Act.put, List.setIfInBounds_toArray, List.set_cons_zero, List.set_cons_succ])
        refine AllS.take (i := 23) (v := ?_) (by rw [List.getElem?_toArray]; rfl) (by kernel_rfl) (by kernel_rfl) (by kernel_rfl) (KeepsIf.read (by rfl) ?_) ?_
        rotate_left
        · intro W hSw
          (try dsimp only at hSw)
          obtain ⟨q1, q2, q3⟩ := (HX6.out.below hSw).q
          go_simp
          (try with_reducible rfl)
        rotate_left
        (try simp only [Act.put, List.setIfInBounds_toArray, List.set_cons_zero, List.set_cons_succ])
        refine AllS.take (i := 24) (v := ?_) (by rw [List.getElem?_toArray]; rfl) (by kernel_rfl) (by kernel_rfl) (by kernel_rfl) (KeepsIf.read (by rfl) ?_) ?_
        rotate_left
        · intro W hSw
          (try dsimp only at hSw)
          go_simp
          (try with_reducible rfl)
        rotate_left
        (try simp only [Act.put, List.setIfInBounds_toArray, List.set_cons_zero, List.set_cons_succ])
        refine AllS.take (i := 25) (v := ?_) (by rw [List.getElem?_toArray]; rfl) (by kernel_rfl) (by kernel_rfl) (by kernel_rfl) (KeepsIf.read (by rfl) ?_) ?_
        rotate_left
        · intro W hSw
          (try dsimp only at hSw)
          have ha1 := HA1.out
          go_simp
          (try with_reducible rfl)
        rotate_left
        (try simp only [Act.put, List.setIfInBounds_toArray, List.set_cons_zero, List.set_cons_succ])
        refine AllS.take (i := 26) (v := .agg (chA c)) (by rw [List.getElem?_toArray]; rfl) (by kernel_rfl) (by kernel_rfl) (by kernel_rfl) (KeepsIf.read (by rfl) (fun W hSw => ?_)) ?_
        · (try dsimp only at hSw)
          exact rdC (.tmp 78) rfl _ rfl c (HL6.out W hSw)
        (try simp only [Act.put, List.setIfInBounds_toArray, List.set_cons_zero, List.set_cons_succ])
        refine AllS.take (i := 27) (v := .bool (lett c)) (by rw [List.getElem?_toArray]; rfl) (by kernel_rfl) (by kernel_rfl) (by kernel_rfl) (KeepsIf.call 15 #[.agg (chA c)] (by kernel_rfl) (fun W => ?_) (fun W hSw => ?_)) ?_
        · go_simp
        · exact (rletter_any c W).mono fun e w' h => ⟨h.1, below_seq hSw h.2⟩
        (try simp only [Act.put, List.setIfInBounds_toArray, List.set_cons_zero, List.set_cons_succ])
        refine AllS.take (i := 28) (v := .bool false) (by rw [List.getElem?_toArray]; rfl) (by kernel_rfl) (by kernel_rfl) (by kernel_rfl) (KeepsIf.read (by rfl) (fun W hSw => ?_)) ?_
        · (try dsimp only at hSw)
          (go_simp; try simp)
        (try simp only [Act.put, List.setIfInBounds_toArray, List.set_cons_zero, List.set_cons_succ])
        refine AllS.take (i := 29) (v := .bool false) (by rw [List.getElem?_toArray]; rfl) (by kernel_rfl) (by kernel_rfl) (by kernel_rfl) (KeepsIf.read (by rfl) (fun W hSw => ?_)) ?_
        · (try dsimp only at hSw)
          go_simp
        (try simp only [Act.put, List.setIfInBounds_toArray, List.set_cons_zero, List.set_cons_succ])
        refine AllS.done (by kernel_rfl) (hR.out _ ?_) _
        clear hR R
        intro w8 b8
        have b9 := HBE.out.trans ((below_seq HB6.out b8).mono HBE.out.size)
        have hn9 := HG.out.1
        go_wp2_with fail
        go_roundg (n - (k + 1))
        case measure => omega
        case rel => exact ⟨k + 1, by go_num, by omega, by first | rfl | trivial, b9⟩
    · obtain rfl : k = n := by omega
      have b5 := below_seq HB4.out HBE.out
      have HRa2 := Row.below HRa.out HBE.out
      have HRb2 := Row.below HRb.out HBE.out
      have CS := Lib.hid (rsame10 LL _ _ wr HRa2 HRb2 HLL.out)
      have HB5 := Lib.hid b5
      clear HRa2 HRb2 b5
      go_wp2_with fail
      refine CS.out.mono ?_
      rintro e w8 ⟨rfl, b8⟩
      go_wp2_with fail
      refine (chead_any _).mono ?_
      rintro e w9 ⟨rfl, b9⟩
      go_wp2_with fail
      go_ret
      exact ⟨rfl, below_seq (below_seq HB5.out b8) b9⟩
end Go.Proofs.Ytnoenccpbbkdeaa
