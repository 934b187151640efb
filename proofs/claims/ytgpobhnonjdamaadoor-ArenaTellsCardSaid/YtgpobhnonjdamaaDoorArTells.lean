/- The walk of ArenaTells. Conditions: the nodes lie where the slice says, their numbers fit their kinds; the tables lie as the program's text lays them. -/
import Derived.Test.YtgpobhnonjdamaaDoorArGood
import Derived.Test.YtgpobhnonjdamaaDoorRegT
namespace Go.Proofs.YtgpobhnonjdamaaDoor
open Go.ChangeShapes Go.WideShapes Go.ChangeAt Go.RowKit

/-- what Common answers at a node and any number -/
def ComAns (ps : List Int) (n k : Nat) (y c e : Int) : Prop := (∃ q c' : Nat, y = q ∧ q < n ∧ e = 0 ∧ c = c' ∧ Com ps k q c') ∨ ((y < 0 ∨ (n : Int) ≤ y) ∧ e = 7 ∧ c = 0)

set_option maxRecDepth 100000 in
set_option maxHeartbeats 16000000 in
theorem atells_any (l : List Nod) (v : Value) (z y : Int) (w : World) (hR : Ns w v l) (hW : WfL l) (hlen : l.length ≤ 9223372036854775807) (hTab : Tab w) :
    Calls Tryd.prog 3 #[v, .int .i64 z, .int .i64 y] w fun e w' => e = .returned (.bool true) ∧ Below w.heap.size w w' := by
  have hTp := hTab.pos
  have CH : Hid (∀ W, Below w.heap.size w W → Calls Tryd.prog 9 #[] W fun e w' => e = .returned (.bool true) ∧ Below W.heap.size W w') := Lib.hid fun W b => head_any W (hTab.below hTp b)
  have CG := Lib.hid (great_any l v w hR hlen)
  have CN := Lib.hid (anew_any l v w hR hW hTab)
  have HTB := Lib.hid hTab
  have HR := Lib.hid hR
  obtain ⟨A, cap, rfl⟩ := hR.form
  obtain ⟨n, hl⟩ : ∃ n, l.length = n := ⟨_, rfl⟩
  have HL := Lib.hid hl
  rw [hl] at hlen CG CN HR ⊢
  have HW := Lib.hid hW
  clear hR hW hTab hl
  by_cases h60 : 60 < n
  · have h60z : (60 : Int) < n := by omega
    go_enter Tryd.func3, Tryd.ntmps3
    go_wp2_with fail
    refine CG.out.mono ?_
    rintro e w1 ⟨b, rfl, _, rfl⟩
    cases b
    · go_wp2_with fail
      refine (CH.out _ (Below.refl _ _)).mono ?_
      rintro e wh ⟨rfl, bh⟩
      go_wp2_with fail
      go_ret
      exact ⟨rfl, bh⟩
    · go_wp2_with fail
      refine (CH.out _ (Below.refl _ _)).mono ?_
      rintro e wh ⟨rfl, bh⟩
      go_wp2_with fail
      go_ret
      exact ⟨rfl, bh⟩
  have h60z : (n : Int) ≤ 60 := by omega
  go_enter Tryd.func3, Tryd.ntmps3
  go_wp2_with fail
  refine CG.out.mono ?_
  rintro e w0 ⟨b, rfl, _, rfl⟩
  cases b
  rotate_left
  · go_wp2_with fail
    refine (CH.out _ (Below.refl _ _)).mono ?_
    rintro e wh ⟨rfl, bh⟩
    go_wp2_with fail
    go_ret
    exact ⟨rfl, bh⟩
  go_wp2_with fail
  refine CN.out.mono ?_
  rintro e w1 (⟨hg, p, rfl, hTr, b1⟩ | ⟨hne, rfl, b1⟩)
  rotate_left
  · obtain ⟨q, hq⟩ : ∃ q, chkT l = q := ⟨_, rfl⟩
    rw [hq] at hne ⊢
    clear hq
    go_wp2_with fail
    refine (CH.out _ b1).mono ?_
    rintro e wh ⟨rfl, bh⟩
    go_wp2_with fail
    go_ret
    exact ⟨rfl, below_seq b1 bh⟩
  have hG := (good_iff l).1 hg
  have hT := hG.tre
  have hk8 := hG.k8 HW.out
  obtain ⟨g, rfl⟩ : ∃ g, p = .pointer (some ⟨g, 0, none⟩) := by obtain ⟨g, _, _, _, _, h, _⟩ := hTr; exact ⟨g, h⟩
  have T1 := HTB.out.below hTp b1
  have hR1 := HR.out.below b1
  have hpos := hG.pos
  rw [HL.out] at hpos
  clear CG CN hg
  by_cases hz : 0 ≤ z ∧ z < n
  rotate_left
  · have hf : fndE n z = 7 := fndE_out hpos (by omega)
    have hLen := hTr.len
    rw [HL.out] at hLen
    have D1 := Lib.hid fun W (b : Below w1.heap.size w1 W) => anode_no _ n z W (hLen.below b) (by rw [hf]; decide)
    have D2 : Hid (∀ W, Below w1.heap.size w1 W → Calls Tryd.prog 12 #[.pointer (some ⟨g, 0, none⟩), .int .i64 z] W fun e w' => e = .returned (.tuple #[.int .i64 0, .int .i64 (fndE n z)]) ∧ Below W.heap.size W w') := Lib.hid fun W b => (adepth_no _ n z W (hLen.below b) (by rw [hf]; decide)).mono fun e w' ⟨he, hw⟩ => ⟨he, hw ▸ Below.refl _ _⟩
    have D3 : Hid (∀ W, Below w1.heap.size w1 W → Calls Tryd.prog 13 #[.pointer (some ⟨g, 0, none⟩), .int .i64 z] W fun e w' => e = .returned (.tuple #[.int .i64 0, .int .i64 (fndE n z)]) ∧ Below W.heap.size W w') := Lib.hid fun W b => (aend_no _ n z W (hLen.below b) (by rw [hf]; decide)).mono fun e w' ⟨he, hw⟩ => ⟨he, hw ▸ Below.refl _ _⟩
    have D4 : Hid (∀ W, Below w1.heap.size w1 W → Calls Tryd.prog 14 #[.pointer (some ⟨g, 0, none⟩), .int .i64 z] W fun e w' => e = .returned (.tuple #[.slice none 0 0, .int .i64 (fndE n z)]) ∧ Below W.heap.size W w') := Lib.hid fun W b => (akids_no _ n z W (hLen.below b) (by rw [hf]; decide)).mono fun e w' ⟨he, hw⟩ => ⟨he, hw ▸ Below.refl _ _⟩
    have D5 := Lib.hid fun W (b : Below w1.heap.size w1 W) => actx_no _ n z W (hLen.below b) ⟨_, rfl⟩ (by rw [hf]; decide)
    have ho : or2 (fndE n z) (fndE n y) = 7 := by rw [hf]; rfl
    have D6 := Lib.hid fun W (b : Below w1.heap.size w1 W) => acommon_no _ n z y W (hLen.below b) (by rw [ho]; decide)
    rw [hf] at D1 D2 D3 D4 D5
    rw [ho] at D6
    clear hf ho hLen hTr T1 hR1 HR HTB hG hT hk8
    by_cases hzn : z < 0
    all_goals
      have hzz : z < 0 ∨ (n : Int) ≤ z := by omega
      go_wp2_with fail
      refine (D1.out _ (Below.refl _ _)).mono ?_
      rintro e w2 ⟨rfl, b2⟩
      go_wp2_with (refine nwN rfl rfl 9 rfl rfl (.tmp 45) rfl rfl .zero (fun _ => rfl) (fun _ => rfl) ?_; intro w3 b3 B3)
      have ba := below_seq b2 b3
      refine (D2.out _ ba).mono ?_
      rintro e w4 ⟨rfl, b4⟩
      have B4 := B3.keep (S := fun _ => False) (Mod.of_below b4) id
      have bb := below_seq ba b4
      clear ba b4 B3
      go_wp2_with fail
      refine (D3.out _ bb).mono ?_
      rintro e w5 ⟨rfl, b5⟩
      have B5 := B4.keep (S := fun _ => False) (Mod.of_below b5) id
      have bc := below_seq bb b5
      clear bb b5 B4
      go_wp2_with fail
      refine (D4.out _ bc).mono ?_
      rintro e w6 ⟨rfl, b6⟩
      have B6 := B5.keep (S := fun _ => False) (Mod.of_below b6) id
      have bd := below_seq bc b6
      clear bc b6 B5
      go_wp2_with fail
      refine (D5.out _ bd).mono ?_
      rintro e w7 ⟨rfl, b7⟩
      have B7 := B6.keep (S := fun _ => False) (Mod.of_below b7) id
      have be := below_seq bd b7
      clear bd b7 B6
      go_wp2_with fail
      refine (D6.out _ be).mono ?_
      rintro e w8 ⟨rfl, b8⟩
      have B8 := B7.keep (S := fun _ => False) (Mod.of_below b8) id
      have bf := below_seq be b8
      have bw := below_seq b1 bf
      clear be b8 B7 D1 D2 D3 D4 D5 D6
      have hq : ∀ W : World, (binOp .eql 37 (.agg Nod.zero.cells) (.agg #[.int .u8 0, .int .i64 0, .string ⟨#[]⟩, .int .u16 0, .int .u8 0, .int .u8 0, .int .u8 0, .int .u8 0, .int .i64 0, .int .i64 0, .int .i64 0, .int .u8 0, .int .i64 0, .int .u8 0, .int .i64 0, .int .i64 0, .int .i64 0, .int .i64 0, .int .i64 0, .int .i64 0, .int .i64 0, .int .i64 0])).run Tryd.prog W = .ok (.bool true) W := fun W => eqN .zero .zero W true (decide_eq_true rfl)
      go_wp2_with (refine ldNIf (by kernel_rfl) (.tmp 9) rfl _ rfl .zero B8.lies ?_)
      refine (CH.out _ bw).mono ?_
      rintro e wh ⟨rfl, bh⟩
      go_wp2_with fail
      go_ret
      exact ⟨rfl, below_seq bw bh⟩
  obtain ⟨k, rfl⟩ : ∃ k : Nat, z = k := ⟨z.toNat, by omega⟩
  obtain ⟨hz0, hz1⟩ := hz
  have hkn : k < n := by omega
  have hkl : k < l.length := by rw [HL.out]; exact hkn
  obtain ⟨x, hx⟩ := at_of hkl
  obtain ⟨en, hE⟩ := EndOf.exists_ (ps := psOf l) k (by rw [psOf_len]; exact hkl)
  have hl60 : l.length ≤ 60 := by rw [HL.out]; omega
  obtain ⟨ks, hks⟩ : ∃ ks, kidsL (psOf l) k = ks := ⟨_, rfl⟩
  have hksl : ks.length ≤ 1000 := by rw [← hks]; exact Nat.le_trans (kidsL_len _ _) (by rw [psOf_len]; omega)
  obtain ⟨d, hd⟩ : ∃ d, dep (psOf l) k = d := ⟨_, rfl⟩
  obtain ⟨cx, hcx⟩ : ∃ cx, ctx l k = cx := ⟨_, rfl⟩
  have D1 := Lib.hid fun W (b : Below w1.heap.size w1 W) => anode_any _ l k x W (hTr.below b) hx
  have D2 : Hid (∀ W, Below w1.heap.size w1 W → Calls Tryd.prog 12 #[.pointer (some ⟨g, 0, none⟩), .int .i64 (k : Int)] W fun e w' => e = .returned (.tuple #[.int .i64 (d : Nat), .int .i64 0]) ∧ Below W.heap.size W w') := Lib.hid fun W b => by
    have := adepth_any _ l k W (hTr.below b) hT hkl (by omega)
    rwa [hd] at this
  have D3 : Hid (∀ W, Below w1.heap.size w1 W → Calls Tryd.prog 13 #[.pointer (some ⟨g, 0, none⟩), .int .i64 (k : Int)] W fun e w' => e = .returned (.tuple #[.int .i64 (en : Int), .int .i64 0]) ∧ Below W.heap.size W w') := Lib.hid fun W b => (aend_any _ l k en W (hTr.below b) hkl hE).mono fun e w' ⟨he, hw⟩ => ⟨he, hw ▸ Below.refl _ _⟩
  have D4 : Hid (∀ W, Below w1.heap.size w1 W → Calls Tryd.prog 14 #[.pointer (some ⟨g, 0, none⟩), .int .i64 (k : Int)] W fun e w' => ∃ u, e = .returned (.tuple #[u, .int .i64 0]) ∧ Row (fun _ => False) w' u (ks.map iv) ∧ Below W.heap.size W w') := Lib.hid fun W b => by
    have := akids_any _ l k W (hTr.below b) hT hkl (by omega)
    rwa [hks] at this
  have D5 : Hid (∀ W, Below w1.heap.size w1 W → Calls Tryd.prog 15 #[.pointer (some ⟨g, 0, none⟩), .int .i64 (k : Int)] W fun e w' => e = .returned (.tuple #[.int .i64 (cx : Nat), .int .i64 0]) ∧ Below W.heap.size W w') := Lib.hid fun W b => by
    have := actx_any _ l k W (hTr.below b) hT hkl (T1.below T1.pos b) hk8 hG.root
    rwa [hcx] at this
  have R1 : Hid (∀ W, Below w1.heap.size w1 W → Calls Tryd.prog 17 #[.slice A n cap, .int .i64 (k : Int)] W fun e w' => e = .returned (.int .i64 (d : Int)) ∧ Below W.heap.size W w') := Lib.hid fun W b => (rdepth_any l _ k W (hR1.below b) hT (by omega) hkl).mono fun e w' ⟨he, hw⟩ => ⟨by rw [he, hd], hw ▸ Below.refl _ _⟩
  have R2 : Hid (∀ W, Below w1.heap.size w1 W → Calls Tryd.prog 18 #[.slice A n cap, .int .i64 (k : Int)] W fun e w' => e = .returned (.int .i64 (en : Int)) ∧ Below W.heap.size W w') := Lib.hid fun W b => (rend_any l _ k en W (hR1.below b) hT (by omega) hE).mono fun e w' ⟨he, hw⟩ => ⟨he, hw ▸ Below.refl _ _⟩
  have R3 : Hid (∀ W, Below w1.heap.size w1 W → Calls Tryd.prog 20 #[.slice A n cap, .int .i64 (k : Int)] W fun e w' => ∃ u, e = .returned u ∧ Row (fun _ => False) w' u (ks.map iv) ∧ Below W.heap.size W w') := Lib.hid fun W b => by
    have := rkids_any l _ k W (hR1.below b) (by omega)
    rwa [hks] at this
  have R4 : Hid (∀ W, Below w1.heap.size w1 W → Calls Tryd.prog 21 #[.slice A n cap, .int .i64 (k : Int)] W fun e w' => e = .returned (.int .i64 (cx : Int)) ∧ Below W.heap.size W w') := Lib.hid fun W b => (rctx_any l _ k W (hR1.below b) hT (by omega) hkl hk8).mono fun e w' ⟨he, hw⟩ => ⟨by rw [he, hcx], hw ▸ Below.refl _ _⟩
  have HNE := Lib.hid (fun W => neN x x W true (decide_eq_true rfl))
  simp only [Bool.not_true] at HNE
  have hzz : ¬ (k : Int) < 0 ∧ ¬ (n : Int) ≤ k := by omega
  obtain ⟨hzz, hzz2⟩ := hzz
  clear hks hd hcx hE
  have D6 : Hid (∀ W, Below w1.heap.size w1 W → Calls Tryd.prog 16 #[.pointer (some ⟨g, 0, none⟩), .int .i64 (k : Int), .int .i64 y] W fun e w' => ∃ c6 e6 : Int, e = .returned (.tuple #[.int .i64 c6, .int .i64 e6]) ∧ ComAns (psOf l) n k y c6 e6 ∧ Below W.heap.size W w') := Lib.hid fun W b => by
    by_cases hy : 0 ≤ y ∧ y < n
    · obtain ⟨q, rfl⟩ : ∃ q : Nat, y = q := ⟨y.toNat, by omega⟩
      have hqn : q < n := by omega
      have hql : q < l.length := by rw [HL.out]; omega
      exact (acommon_any _ l k q W (hTr.below b) hT hkl hql).mono fun e w' ⟨c, he, hc, hw⟩ => ⟨c, 0, he, .inl ⟨q, c, rfl, hqn, rfl, rfl, hc⟩, hw⟩
    · have hf : fndE n y = 7 := fndE_out hpos (by omega)
      have ho : or2 (fndE n (k : Int)) (fndE n y) = 7 := by rw [fndE_in hkn, hf]; rfl
      have hLen := hTr.len
      rw [HL.out] at hLen
      have := acommon_no _ n (k : Int) y W (hLen.below b) (by rw [ho]; decide)
      rw [ho] at this
      exact this.mono fun e w' ⟨he, hw⟩ => ⟨0, 7, he, .inr ⟨by omega, rfl, rfl⟩, hw⟩
  have R6 : Hid (∀ W (q : Nat), Below w1.heap.size w1 W → q < n → Calls Tryd.prog 22 #[.slice A n cap, .int .i64 (k : Int), .int .i64 (q : Int)] W fun e w' => ∃ c : Nat, e = .returned (.int .i64 (c : Int)) ∧ Com (psOf l) k q c ∧ Below W.heap.size W w') := Lib.hid fun W q b hq => (rcommon_any l _ k q W (hR1.below b) hT (by omega) hkl (by rw [HL.out]; exact hq)).mono fun e w' ⟨c, he, hc, hw⟩ => ⟨c, he, hc, hw ▸ Below.refl _ _⟩
  have HTT2 := Lib.hid hT
  clear hTr T1 hR1 hT hk8 hG HTB HW hkl
  go_wp2_with fail
  refine (D1.out _ (Below.refl _ _)).mono ?_
  rintro e w2 ⟨rfl, b2⟩
  go_wp2_with (refine nwN rfl rfl 9 rfl rfl (.tmp 45) rfl rfl x (fun _ => rfl) (fun _ => rfl) ?_; intro w3 b3 B3)
  have ba := below_seq b2 b3
  refine (D2.out _ ba).mono ?_
  rintro e w4 ⟨rfl, b4⟩
  have B4 := B3.keep (S := fun _ => False) (Mod.of_below b4) id
  have bb := below_seq ba b4
  clear ba b4 B3
  go_wp2_with fail
  refine (D3.out _ bb).mono ?_
  rintro e w5 ⟨rfl, b5⟩
  have B5 := B4.keep (S := fun _ => False) (Mod.of_below b5) id
  have bc := below_seq bb b5
  clear bb b5 B4
  go_wp2_with fail
  refine (D4.out _ bc).mono ?_
  rintro e w6 ⟨u1, rfl, hu1, b6⟩
  have B6 := B5.keep (S := fun _ => False) (Mod.of_below b6) id
  have bd := below_seq bc b6
  have HU1 := Lib.hid hu1
  clear bc b6 B5 hu1
  go_wp2_with fail
  refine (D5.out _ bd).mono ?_
  rintro e w7 ⟨rfl, b7⟩
  have B7 := B6.keep (S := fun _ => False) (Mod.of_below b7) id
  have be := below_seq bd b7
  clear bd B6
  go_wp2_with fail
  refine (D6.out _ be).mono ?_
  rintro e w8 ⟨c6, e6, rfl, hcom, b8⟩
  have HCOM := Lib.hid hcom
  clear hcom
  have B8 := B7.keep (S := fun _ => False) (Mod.of_below b8) id
  have bf := below_seq be b8
  have bw := below_seq b1 bf
  have b68 := below_seq b7 b8
  have R5 : Hid (∀ W u, Below w8.heap.size w8 W → Row (fun _ => False) W u (ks.map iv) → Calls Tryd.prog 19 #[u1, u] W fun e w' => e = .returned (.bool true) ∧ Below W.heap.size W w') := Lib.hid fun W u b hu => rints_any u1 u ks W (HU1.out.below (below_seq b68 b)) hu (by omega)
  obtain ⟨ad, cap2, o, hv, _, ha, hLi⟩ := HR.out.get bw hx
  rw [HL.out] at hv
  injection hv with hv1 hv2 hv3
  subst hv1 hv3
  have HSS : ∀ W W' : World, Below w8.heap.size w8 W → Below W.heap.size W W' → Below w8.heap.size w8 W' := fun _ _ => below_seq
  have HTT : ∀ u : Value, Stb (fun W => Below w8.heap.size w8 W) (fun W => Below w8.heap.size w8 W ∧ Row (fun _ => False) W u (ks.map iv)) := fun u => ⟨fun _ h => h.1, fun _ _ h b => ⟨below_seq h.1 b, h.2.below b⟩⟩
  clear be b8 b7 B7 D1 D2 D3 D4 D5 D6 hv2 HU1
  go_wp2_with fail
  refine region_T (by kernel_rfl) (fun W => Below w8.heap.size w8 W) (fun u W => Below w8.heap.size w8 W ∧ Row (fun _ => False) W u (ks.map iv)) 24 (below_drewN (Below.refl _ _) 1) (fun R hR => ?_)
  refine AllT.take (i := 0) (v := .agg x.cells) HSS HTT (by rw [List.getElem?_toArray]; rfl) (by rfl) (by kernel_rfl) (by kernel_rfl) (by kernel_rfl) (fun X hX => KeepsIf.read (by rfl) (fun W hXw => ?_)) ?_
  · have hSw := hX.sub W hXw
    (try dsimp only at hSw)
    exact rdN (.tmp 9) rfl _ rfl x (B8.keep (S := fun _ => False) (Mod.of_below hSw) id).lies
  (try simp only [Act.put, List.setIfInBounds_toArray, List.set_cons_zero, List.set_cons_succ])
  refine AllT.take (i := 1) (v := ?_) HSS HTT (by rw [List.getElem?_toArray]; rfl) (by rfl) (by kernel_rfl) (by kernel_rfl) (by kernel_rfl) (fun X hX => KeepsIf.read (by rfl) ?_) ?_
  rotate_left
  · intro W hXw
    have hSw := hX.sub W hXw
    (try dsimp only at hSw)
    go_simp
    (try with_reducible rfl)
  rotate_left
  (try simp only [Act.put, List.setIfInBounds_toArray, List.set_cons_zero, List.set_cons_succ])
  refine AllT.take (i := 2) (v := ?_) HSS HTT (by rw [List.getElem?_toArray]; rfl) (by rfl) (by kernel_rfl) (by kernel_rfl) (by kernel_rfl) (fun X hX => KeepsIf.read (by rfl) ?_) ?_
  rotate_left
  · intro W hXw
    have hSw := hX.sub W hXw
    (try dsimp only at hSw)
    go_simp
    (try with_reducible rfl)
  rotate_left
  (try simp only [Act.put, List.setIfInBounds_toArray, List.set_cons_zero, List.set_cons_succ])
  refine AllT.take (i := 3) (v := ?_) HSS HTT (by rw [List.getElem?_toArray]; rfl) (by rfl) (by kernel_rfl) (by kernel_rfl) (by kernel_rfl) (fun X hX => KeepsIf.read (by rfl) ?_) ?_
  rotate_left
  · intro W hXw
    have hSw := hX.sub W hXw
    (try dsimp only at hSw)
    go_simp
    (try with_reducible rfl)
  rotate_left
  (try simp only [Act.put, List.setIfInBounds_toArray, List.set_cons_zero, List.set_cons_succ])
  refine AllT.take (i := 4) (v := .agg x.cells) HSS HTT (by rw [List.getElem?_toArray]; rfl) (by rfl) (by kernel_rfl) (by kernel_rfl) (by kernel_rfl) (fun X hX => KeepsIf.read (by rfl) (fun W hXw => ?_)) ?_
  · have hSw := hX.sub W hXw
    (try dsimp only at hSw)
    exact rdN (.tmp 132) rfl _ rfl x (ha ▸ hLi.below hSw)
  (try simp only [Act.put, List.setIfInBounds_toArray, List.set_cons_zero, List.set_cons_succ])
  refine AllT.take (i := 5) (v := .bool false) HSS HTT (by rw [List.getElem?_toArray]; rfl) (by rfl) (by kernel_rfl) (by kernel_rfl) (by kernel_rfl) (fun X hX => KeepsIf.read (by rfl) (fun W hXw => ?_)) ?_
  · have hSw := hX.sub W hXw
    (try dsimp only at hSw)
    have hq := HNE.out; go_simp
  (try simp only [Act.put, List.setIfInBounds_toArray, List.set_cons_zero, List.set_cons_succ])
  refine AllT.take (i := 6) (v := ?_) HSS HTT (by rw [List.getElem?_toArray]; rfl) (by rfl) (by kernel_rfl) (by kernel_rfl) (by kernel_rfl) (fun X hX => KeepsIf.read (by rfl) ?_) ?_
  rotate_left
  · intro W hXw
    have hSw := hX.sub W hXw
    (try dsimp only at hSw)
    go_simp
    (try with_reducible rfl)
  rotate_left
  (try simp only [Act.put, List.setIfInBounds_toArray, List.set_cons_zero, List.set_cons_succ])
  refine AllT.take (i := 7) (v := ?_) HSS HTT (by rw [List.getElem?_toArray]; rfl) (by rfl) (by kernel_rfl) (by kernel_rfl) (by kernel_rfl) (fun X hX => KeepsIf.read (by rfl) ?_) ?_
  rotate_left
  · intro W hXw
    have hSw := hX.sub W hXw
    (try dsimp only at hSw)
    go_simp
    (try with_reducible rfl)
  rotate_left
  (try simp only [Act.put, List.setIfInBounds_toArray, List.set_cons_zero, List.set_cons_succ])
  refine AllT.take (i := 8) (v := ?_) HSS HTT (by rw [List.getElem?_toArray]; rfl) (by rfl) (by kernel_rfl) (by kernel_rfl) (by kernel_rfl) (fun X hX => KeepsIf.read (by rfl) ?_) ?_
  rotate_left
  · intro W hXw
    have hSw := hX.sub W hXw
    (try dsimp only at hSw)
    go_simp
    (try with_reducible rfl)
  rotate_left
  (try simp only [Act.put, List.setIfInBounds_toArray, List.set_cons_zero, List.set_cons_succ])
  refine AllT.take (i := 9) (v := ?_) HSS HTT (by rw [List.getElem?_toArray]; rfl) (by rfl) (by kernel_rfl) (by kernel_rfl) (by kernel_rfl) (fun X hX => KeepsIf.read (by rfl) ?_) ?_
  rotate_left
  · intro W hXw
    have hSw := hX.sub W hXw
    (try dsimp only at hSw)
    go_simp
    (try with_reducible rfl)
  rotate_left
  (try simp only [Act.put, List.setIfInBounds_toArray, List.set_cons_zero, List.set_cons_succ])
  refine AllT.take (i := 10) (v := .int .i64 (d : Int)) HSS HTT (by rw [List.getElem?_toArray]; rfl) (by rfl) (by kernel_rfl) (by kernel_rfl) (by kernel_rfl) (fun X hX => KeepsIf.call 17 #[.slice (some ad) n cap, .int .i64 (k : Int)] (by kernel_rfl) (fun W => ?_) (fun W hXw => ?_)) ?_
  · go_simp
  · have hSw := hX.sub W hXw
    exact (R1.out W (below_seq bf hSw)).mono (fun e w' h => ⟨h.1, hX.mono W w' hXw h.2⟩)
  (try simp only [Act.put, List.setIfInBounds_toArray, List.set_cons_zero, List.set_cons_succ])
  refine AllT.take (i := 11) (v := ?_) HSS HTT (by rw [List.getElem?_toArray]; rfl) (by rfl) (by kernel_rfl) (by kernel_rfl) (by kernel_rfl) (fun X hX => KeepsIf.read (by rfl) ?_) ?_
  rotate_left
  · intro W hXw
    have hSw := hX.sub W hXw
    (try dsimp only at hSw)
    go_simp
    (try with_reducible rfl)
  rotate_left
  (try simp only [Act.put, List.setIfInBounds_toArray, List.set_cons_zero, List.set_cons_succ])
  refine AllT.take (i := 12) (v := ?_) HSS HTT (by rw [List.getElem?_toArray]; rfl) (by rfl) (by kernel_rfl) (by kernel_rfl) (by kernel_rfl) (fun X hX => KeepsIf.read (by rfl) ?_) ?_
  rotate_left
  · intro W hXw
    have hSw := hX.sub W hXw
    (try dsimp only at hSw)
    go_simp
    (try with_reducible rfl)
  rotate_left
  (try simp only [Act.put, List.setIfInBounds_toArray, List.set_cons_zero, List.set_cons_succ])
  refine AllT.take (i := 13) (v := ?_) HSS HTT (by rw [List.getElem?_toArray]; rfl) (by rfl) (by kernel_rfl) (by kernel_rfl) (by kernel_rfl) (fun X hX => KeepsIf.read (by rfl) ?_) ?_
  rotate_left
  · intro W hXw
    have hSw := hX.sub W hXw
    (try dsimp only at hSw)
    go_simp
    (try with_reducible rfl)
  rotate_left
  (try simp only [Act.put, List.setIfInBounds_toArray, List.set_cons_zero, List.set_cons_succ])
  refine AllT.take (i := 14) (v := ?_) HSS HTT (by rw [List.getElem?_toArray]; rfl) (by rfl) (by kernel_rfl) (by kernel_rfl) (by kernel_rfl) (fun X hX => KeepsIf.read (by rfl) ?_) ?_
  rotate_left
  · intro W hXw
    have hSw := hX.sub W hXw
    (try dsimp only at hSw)
    go_simp
    (try with_reducible rfl)
  rotate_left
  (try simp only [Act.put, List.setIfInBounds_toArray, List.set_cons_zero, List.set_cons_succ])
  refine AllT.take (i := 15) (v := ?_) HSS HTT (by rw [List.getElem?_toArray]; rfl) (by rfl) (by kernel_rfl) (by kernel_rfl) (by kernel_rfl) (fun X hX => KeepsIf.read (by rfl) ?_) ?_
  rotate_left
  · intro W hXw
    have hSw := hX.sub W hXw
    (try dsimp only at hSw)
    go_simp
    (try with_reducible rfl)
  rotate_left
  (try simp only [Act.put, List.setIfInBounds_toArray, List.set_cons_zero, List.set_cons_succ])
  refine AllT.take (i := 16) (v := ?_) HSS HTT (by rw [List.getElem?_toArray]; rfl) (by rfl) (by kernel_rfl) (by kernel_rfl) (by kernel_rfl) (fun X hX => KeepsIf.read (by rfl) ?_) ?_
  rotate_left
  · intro W hXw
    have hSw := hX.sub W hXw
    (try dsimp only at hSw)
    go_simp
    (try with_reducible rfl)
  rotate_left
  (try simp only [Act.put, List.setIfInBounds_toArray, List.set_cons_zero, List.set_cons_succ])
  refine AllT.take (i := 17) (v := .int .i64 (en : Int)) HSS HTT (by rw [List.getElem?_toArray]; rfl) (by rfl) (by kernel_rfl) (by kernel_rfl) (by kernel_rfl) (fun X hX => KeepsIf.call 18 #[.slice (some ad) n cap, .int .i64 (k : Int)] (by kernel_rfl) (fun W => ?_) (fun W hXw => ?_)) ?_
  · go_simp
  · have hSw := hX.sub W hXw
    exact (R2.out W (below_seq bf hSw)).mono (fun e w' h => ⟨h.1, hX.mono W w' hXw h.2⟩)
  (try simp only [Act.put, List.setIfInBounds_toArray, List.set_cons_zero, List.set_cons_succ])
  refine AllT.take (i := 18) (v := ?_) HSS HTT (by rw [List.getElem?_toArray]; rfl) (by rfl) (by kernel_rfl) (by kernel_rfl) (by kernel_rfl) (fun X hX => KeepsIf.read (by rfl) ?_) ?_
  rotate_left
  · intro W hXw
    have hSw := hX.sub W hXw
    (try dsimp only at hSw)
    go_simp
    (try with_reducible rfl)
  rotate_left
  (try simp only [Act.put, List.setIfInBounds_toArray, List.set_cons_zero, List.set_cons_succ])
  refine AllT.take (i := 19) (v := ?_) HSS HTT (by rw [List.getElem?_toArray]; rfl) (by rfl) (by kernel_rfl) (by kernel_rfl) (by kernel_rfl) (fun X hX => KeepsIf.read (by rfl) ?_) ?_
  rotate_left
  · intro W hXw
    have hSw := hX.sub W hXw
    (try dsimp only at hSw)
    go_simp
    (try with_reducible rfl)
  rotate_left
  (try simp only [Act.put, List.setIfInBounds_toArray, List.set_cons_zero, List.set_cons_succ])
  refine AllT.take (i := 20) (v := ?_) HSS HTT (by rw [List.getElem?_toArray]; rfl) (by rfl) (by kernel_rfl) (by kernel_rfl) (by kernel_rfl) (fun X hX => KeepsIf.read (by rfl) ?_) ?_
  rotate_left
  · intro W hXw
    have hSw := hX.sub W hXw
    (try dsimp only at hSw)
    go_simp
    (try with_reducible rfl)
  rotate_left
  (try simp only [Act.put, List.setIfInBounds_toArray, List.set_cons_zero, List.set_cons_succ])
  refine AllT.take (i := 21) (v := ?_) HSS HTT (by rw [List.getElem?_toArray]; rfl) (by rfl) (by kernel_rfl) (by kernel_rfl) (by kernel_rfl) (fun X hX => KeepsIf.read (by rfl) ?_) ?_
  rotate_left
  · intro W hXw
    have hSw := hX.sub W hXw
    (try dsimp only at hSw)
    go_simp
    (try with_reducible rfl)
  rotate_left
  (try simp only [Act.put, List.setIfInBounds_toArray, List.set_cons_zero, List.set_cons_succ])
  refine AllT.take (i := 22) (v := ?_) HSS HTT (by rw [List.getElem?_toArray]; rfl) (by rfl) (by kernel_rfl) (by kernel_rfl) (by kernel_rfl) (fun X hX => KeepsIf.read (by rfl) ?_) ?_
  rotate_left
  · intro W hXw
    have hSw := hX.sub W hXw
    (try dsimp only at hSw)
    go_simp
    (try with_reducible rfl)
  rotate_left
  (try simp only [Act.put, List.setIfInBounds_toArray, List.set_cons_zero, List.set_cons_succ])
  refine AllT.take (i := 23) (v := ?_) HSS HTT (by rw [List.getElem?_toArray]; rfl) (by rfl) (by kernel_rfl) (by kernel_rfl) (by kernel_rfl) (fun X hX => KeepsIf.read (by rfl) ?_) ?_
  rotate_left
  · intro W hXw
    have hSw := hX.sub W hXw
    (try dsimp only at hSw)
    go_simp
    (try with_reducible rfl)
  rotate_left
  (try simp only [Act.put, List.setIfInBounds_toArray, List.set_cons_zero, List.set_cons_succ])
  refine AllT.call (by rw [List.getElem?_toArray]; rfl) (by kernel_rfl) (KeepsEx.mk_ 20 #[.slice (some ad) n cap, .int .i64 (k : Int)] (by kernel_rfl) (fun W => ?_) (fun W hSw => ?_)) (fun u2 => ?_)
  · go_simp
  · exact (R3.out W (below_seq bf hSw)).mono (fun e w' h => by obtain ⟨u, he, hr, hb⟩ := h; exact ⟨u, he, below_seq hSw hb, hr⟩)
  (try simp only [Act.put, List.setIfInBounds_toArray, List.set_cons_zero, List.set_cons_succ])
  refine AllS.take (i := 25) (v := .bool true) (by rw [List.getElem?_toArray]; rfl) (by kernel_rfl) (by kernel_rfl) (by kernel_rfl) (KeepsIf.call 19 #[u1, u2] (by kernel_rfl) (fun W => ?_) (fun W hSw => ?_)) ?_
  · go_simp
  · exact (R5.out W u2 hSw.1 hSw.2).mono (fun e w' h => ⟨h.1, below_seq hSw.1 h.2, hSw.2.below h.2⟩)
  (try simp only [Act.put, List.setIfInBounds_toArray, List.set_cons_zero, List.set_cons_succ])
  refine AllS.take (i := 26) (v := ?_) (by rw [List.getElem?_toArray]; rfl) (by kernel_rfl) (by kernel_rfl) (by kernel_rfl) (KeepsIf.read (by rfl) ?_) ?_
  rotate_left
  · intro W hSw
    (try dsimp only at hSw)
    go_simp
    (try with_reducible rfl)
  rotate_left
  (try simp only [Act.put, List.setIfInBounds_toArray, List.set_cons_zero, List.set_cons_succ])
  refine AllS.take (i := 27) (v := ?_) (by rw [List.getElem?_toArray]; rfl) (by kernel_rfl) (by kernel_rfl) (by kernel_rfl) (KeepsIf.read (by rfl) ?_) ?_
  rotate_left
  · intro W hSw
    (try dsimp only at hSw)
    go_simp
    (try with_reducible rfl)
  rotate_left
  (try simp only [Act.put, List.setIfInBounds_toArray, List.set_cons_zero, List.set_cons_succ])
  refine AllS.take (i := 28) (v := ?_) (by rw [List.getElem?_toArray]; rfl) (by kernel_rfl) (by kernel_rfl) (by kernel_rfl) (KeepsIf.read (by rfl) ?_) ?_
  rotate_left
  · intro W hSw
    (try dsimp only at hSw)
    go_simp
    (try with_reducible rfl)
  rotate_left
  (try simp only [Act.put, List.setIfInBounds_toArray, List.set_cons_zero, List.set_cons_succ])
  refine AllS.take (i := 29) (v := ?_) (by rw [List.getElem?_toArray]; rfl) (by kernel_rfl) (by kernel_rfl) (by kernel_rfl) (KeepsIf.read (by rfl) ?_) ?_
  rotate_left
  · intro W hSw
    (try dsimp only at hSw)
    go_simp
    (try with_reducible rfl)
  rotate_left
  (try simp only [Act.put, List.setIfInBounds_toArray, List.set_cons_zero, List.set_cons_succ])
  refine AllS.take (i := 30) (v := ?_) (by rw [List.getElem?_toArray]; rfl) (by kernel_rfl) (by kernel_rfl) (by kernel_rfl) (KeepsIf.read (by rfl) ?_) ?_
  rotate_left
  · intro W hSw
    (try dsimp only at hSw)
    go_simp
    (try with_reducible rfl)
  rotate_left
  (try simp only [Act.put, List.setIfInBounds_toArray, List.set_cons_zero, List.set_cons_succ])
  refine AllS.take (i := 31) (v := ?_) (by rw [List.getElem?_toArray]; rfl) (by kernel_rfl) (by kernel_rfl) (by kernel_rfl) (KeepsIf.read (by rfl) ?_) ?_
  rotate_left
  · intro W hSw
    (try dsimp only at hSw)
    go_simp
    (try with_reducible rfl)
  rotate_left
  (try simp only [Act.put, List.setIfInBounds_toArray, List.set_cons_zero, List.set_cons_succ])
  refine AllS.take (i := 32) (v := .int .i64 (cx : Int)) (by rw [List.getElem?_toArray]; rfl) (by kernel_rfl) (by kernel_rfl) (by kernel_rfl) (KeepsIf.call 21 #[.slice (some ad) n cap, .int .i64 (k : Int)] (by kernel_rfl) (fun W => ?_) (fun W hSw => ?_)) ?_
  · go_simp
  · exact (R4.out W (below_seq bf hSw.1)).mono (fun e w' h => ⟨h.1, below_seq hSw.1 h.2, hSw.2.below h.2⟩)
  (try simp only [Act.put, List.setIfInBounds_toArray, List.set_cons_zero, List.set_cons_succ])
  refine AllS.take (i := 33) (v := ?_) (by rw [List.getElem?_toArray]; rfl) (by kernel_rfl) (by kernel_rfl) (by kernel_rfl) (KeepsIf.read (by rfl) ?_) ?_
  rotate_left
  · intro W hSw
    (try dsimp only at hSw)
    go_simp
    (try with_reducible rfl)
  rotate_left
  (try simp only [Act.put, List.setIfInBounds_toArray, List.set_cons_zero, List.set_cons_succ])
  refine AllS.take (i := 34) (v := ?_) (by rw [List.getElem?_toArray]; rfl) (by kernel_rfl) (by kernel_rfl) (by kernel_rfl) (KeepsIf.read (by rfl) ?_) ?_
  rotate_left
  · intro W hSw
    (try dsimp only at hSw)
    go_simp
    (try with_reducible rfl)
  rotate_left
  (try simp only [Act.put, List.setIfInBounds_toArray, List.set_cons_zero, List.set_cons_succ])
  refine AllS.take (i := 35) (v := ?_) (by rw [List.getElem?_toArray]; rfl) (by kernel_rfl) (by kernel_rfl) (by kernel_rfl) (KeepsIf.read (by rfl) ?_) ?_
  rotate_left
  · intro W hSw
    (try dsimp only at hSw)
    go_simp
    (try with_reducible rfl)
  rotate_left
  (try simp only [Act.put, List.setIfInBounds_toArray, List.set_cons_zero, List.set_cons_succ])
  refine AllS.take (i := 36) (v := ?_) (by rw [List.getElem?_toArray]; rfl) (by kernel_rfl) (by kernel_rfl) (by kernel_rfl) (KeepsIf.read (by rfl) ?_) ?_
  rotate_left
  · intro W hSw
    (try dsimp only at hSw)
    go_simp
    (try with_reducible rfl)
  rotate_left
  (try simp only [Act.put, List.setIfInBounds_toArray, List.set_cons_zero, List.set_cons_succ])
  refine AllS.take (i := 37) (v := ?_) (by rw [List.getElem?_toArray]; rfl) (by kernel_rfl) (by kernel_rfl) (by kernel_rfl) (KeepsIf.read (by rfl) ?_) ?_
  rotate_left
  · intro W hSw
    (try dsimp only at hSw)
    go_simp
    (try with_reducible rfl)
  rotate_left
  (try simp only [Act.put, List.setIfInBounds_toArray, List.set_cons_zero, List.set_cons_succ])
  refine AllS.take (i := 38) (v := ?_) (by rw [List.getElem?_toArray]; rfl) (by kernel_rfl) (by kernel_rfl) (by kernel_rfl) (KeepsIf.read (by rfl) ?_) ?_
  rotate_left
  · intro W hSw
    (try dsimp only at hSw)
    go_simp
    (try with_reducible rfl)
  rotate_left
  (try simp only [Act.put, List.setIfInBounds_toArray, List.set_cons_zero, List.set_cons_succ])
  refine AllS.take (i := 39) (v := ?_) (by rw [List.getElem?_toArray]; rfl) (by kernel_rfl) (by kernel_rfl) (by kernel_rfl) (KeepsIf.read (by rfl) ?_) ?_
  rotate_left
  · intro W hSw
    (try dsimp only at hSw)
    go_simp
    (try with_reducible rfl)
  rotate_left
  (try simp only [Act.put, List.setIfInBounds_toArray, List.set_cons_zero, List.set_cons_succ])
  refine AllS.take (i := 40) (v := ?_) (by rw [List.getElem?_toArray]; rfl) (by kernel_rfl) (by kernel_rfl) (by kernel_rfl) (KeepsIf.read (by rfl) ?_) ?_
  rotate_left
  · intro W hSw
    (try dsimp only at hSw)
    go_simp
    (try with_reducible rfl)
  rotate_left
  (try simp only [Act.put, List.setIfInBounds_toArray, List.set_cons_zero, List.set_cons_succ])
  refine AllS.take (i := 41) (v := ?_) (by rw [List.getElem?_toArray]; rfl) (by kernel_rfl) (by kernel_rfl) (by kernel_rfl) (KeepsIf.read (by rfl) ?_) ?_
  rotate_left
  · intro W hSw
    (try dsimp only at hSw)
    go_simp
    (try with_reducible rfl)
  rotate_left
  (try simp only [Act.put, List.setIfInBounds_toArray, List.set_cons_zero, List.set_cons_succ])
  refine AllS.take (i := 42) (v := ?_) (by rw [List.getElem?_toArray]; rfl) (by kernel_rfl) (by kernel_rfl) (by kernel_rfl) (KeepsIf.read (by rfl) ?_) ?_
  rotate_left
  · intro W hSw
    (try dsimp only at hSw)
    go_simp
    (try with_reducible rfl)
  rotate_left
  (try simp only [Act.put, List.setIfInBounds_toArray, List.set_cons_zero, List.set_cons_succ])
  refine AllS.take (i := 43) (v := ?_) (by rw [List.getElem?_toArray]; rfl) (by kernel_rfl) (by kernel_rfl) (by kernel_rfl) (KeepsIf.read (by rfl) ?_) ?_
  rotate_left
  · intro W hSw
    (try dsimp only at hSw)
    go_simp
    (try with_reducible rfl)
  rotate_left
  (try simp only [Act.put, List.setIfInBounds_toArray, List.set_cons_zero, List.set_cons_succ])
  refine AllS.take (i := 44) (v := ?_) (by rw [List.getElem?_toArray]; rfl) (by kernel_rfl) (by kernel_rfl) (by kernel_rfl) (KeepsIf.read (by rfl) ?_) ?_
  rotate_left
  · intro W hSw
    (try dsimp only at hSw)
    go_simp
    (try with_reducible rfl)
  rotate_left
  (try simp only [Act.put, List.setIfInBounds_toArray, List.set_cons_zero, List.set_cons_succ])
  refine AllS.take (i := 45) (v := ?_) (by rw [List.getElem?_toArray]; rfl) (by kernel_rfl) (by kernel_rfl) (by kernel_rfl) (KeepsIf.read (by rfl) ?_) ?_
  rotate_left
  · intro W hSw
    (try dsimp only at hSw)
    go_simp
    (try with_reducible rfl)
  rotate_left
  (try simp only [Act.put, List.setIfInBounds_toArray, List.set_cons_zero, List.set_cons_succ])
  refine AllS.take (i := 46) (v := ?_) (by rw [List.getElem?_toArray]; rfl) (by kernel_rfl) (by kernel_rfl) (by kernel_rfl) (KeepsIf.read (by rfl) ?_) ?_
  rotate_left
  · intro W hSw
    (try dsimp only at hSw)
    go_simp
    (try with_reducible rfl)
  rotate_left
  (try simp only [Act.put, List.setIfInBounds_toArray, List.set_cons_zero, List.set_cons_succ])
  refine AllS.take (i := 47) (v := ?_) (by rw [List.getElem?_toArray]; rfl) (by kernel_rfl) (by kernel_rfl) (by kernel_rfl) (KeepsIf.read (by rfl) ?_) ?_
  rotate_left
  · intro W hSw
    (try dsimp only at hSw)
    go_simp
    (try with_reducible rfl)
  rotate_left
  (try simp only [Act.put, List.setIfInBounds_toArray, List.set_cons_zero, List.set_cons_succ])
  refine AllS.take (i := 48) (v := ?_) (by rw [List.getElem?_toArray]; rfl) (by kernel_rfl) (by kernel_rfl) (by kernel_rfl) (KeepsIf.read (by rfl) ?_) ?_
  rotate_left
  · intro W hSw
    (try dsimp only at hSw)
    go_simp
    (try with_reducible rfl)
  rotate_left
  (try simp only [Act.put, List.setIfInBounds_toArray, List.set_cons_zero, List.set_cons_succ])
  refine AllS.take (i := 49) (v := ?_) (by rw [List.getElem?_toArray]; rfl) (by kernel_rfl) (by kernel_rfl) (by kernel_rfl) (KeepsIf.read (by rfl) ?_) ?_
  rotate_left
  · intro W hSw
    (try dsimp only at hSw)
    go_simp
    (try with_reducible rfl)
  rotate_left
  (try simp only [Act.put, List.setIfInBounds_toArray, List.set_cons_zero, List.set_cons_succ])
  refine AllS.take (i := 50) (v := ?_) (by rw [List.getElem?_toArray]; rfl) (by kernel_rfl) (by kernel_rfl) (by kernel_rfl) (KeepsIf.read (by rfl) ?_) ?_
  rotate_left
  · intro W hSw
    (try dsimp only at hSw)
    go_simp
    (try with_reducible rfl)
  rotate_left
  (try simp only [Act.put, List.setIfInBounds_toArray, List.set_cons_zero, List.set_cons_succ])
  refine AllS.take (i := 51) (v := ?_) (by rw [List.getElem?_toArray]; rfl) (by kernel_rfl) (by kernel_rfl) (by kernel_rfl) (KeepsIf.read (by rfl) ?_) ?_
  rotate_left
  · intro W hSw
    (try dsimp only at hSw)
    go_simp
    (try with_reducible rfl)
  rotate_left
  (try simp only [Act.put, List.setIfInBounds_toArray, List.set_cons_zero, List.set_cons_succ])
  refine AllS.take (i := 52) (v := ?_) (by rw [List.getElem?_toArray]; rfl) (by kernel_rfl) (by kernel_rfl) (by kernel_rfl) (KeepsIf.read (by rfl) ?_) ?_
  rotate_left
  · intro W hSw
    (try dsimp only at hSw)
    go_simp
    (try with_reducible rfl)
  rotate_left
  (try simp only [Act.put, List.setIfInBounds_toArray, List.set_cons_zero, List.set_cons_succ])
  refine AllS.take (i := 53) (v := ?_) (by rw [List.getElem?_toArray]; rfl) (by kernel_rfl) (by kernel_rfl) (by kernel_rfl) (KeepsIf.read (by rfl) ?_) ?_
  rotate_left
  · intro W hSw
    (try dsimp only at hSw)
    go_simp
    (try with_reducible rfl)
  rotate_left
  (try simp only [Act.put, List.setIfInBounds_toArray, List.set_cons_zero, List.set_cons_succ])
  refine AllS.take (i := 54) (v := ?_) (by rw [List.getElem?_toArray]; rfl) (by kernel_rfl) (by kernel_rfl) (by kernel_rfl) (KeepsIf.read (by rfl) ?_) ?_
  rotate_left
  · intro W hSw
    (try dsimp only at hSw)
    go_simp
    (try with_reducible rfl)
  rotate_left
  (try simp only [Act.put, List.setIfInBounds_toArray, List.set_cons_zero, List.set_cons_succ])
  refine AllS.done (by kernel_rfl) (hR.out _ _ ?_) _
  clear hR R
  intro w9 ⟨b9, _⟩
  have bx := below_seq bw b9
  rcases HCOM.out with ⟨q, c6, rfl, hq, rfl, rfl, hc6⟩ | ⟨hyy, rfl, rfl⟩
  · have hyy : ¬ (q : Int) < 0 ∧ ¬ (n : Int) ≤ q := by omega
    obtain ⟨hyy, hyy2⟩ := hyy
    have HC6 := Lib.hid hc6
    clear hc6 HCOM
    go_wp2_with fail
    refine (R6.out _ q (below_seq bf b9) hq).mono ?_
    rintro e w10 ⟨c7, rfl, hcom, b10⟩
    obtain rfl := HC6.out.uniq HTT2.out hcom
    have by_ := below_seq bx b10
    clear hcom
    go_wp2_with fail
    refine (CH.out _ by_).mono ?_
    rintro e wh ⟨rfl, bh⟩
    go_wp2_with fail
    go_ret
    exact ⟨rfl, below_seq by_ bh⟩
  · by_cases hyn : y < 0
    all_goals
      go_wp2_with fail
      refine (CH.out _ bx).mono ?_
      rintro e wh ⟨rfl, bh⟩
      go_wp2_with fail
      go_ret
      exact ⟨rfl, below_seq bx bh⟩
end Go.Proofs.YtgpobhnonjdamaaDoor
