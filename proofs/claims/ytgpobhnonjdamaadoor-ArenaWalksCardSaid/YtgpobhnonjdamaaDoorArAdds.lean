/- The walk of ArenaAdds. Conditions: the nodes lie where the slice says, their numbers fit their kinds; the tables lie as the program's text lays them. -/
import Derived.Test.YtgpobhnonjdamaaDoorArGood
import Derived.Test.YtgpobhnonjdamaaDoorApG
namespace Go.Proofs.YtgpobhnonjdamaaDoor
open Go.ChangeShapes Go.WideShapes Go.ChangeAt Go.RowKit

/-! ### one node more -/
theorem kids_more0 (ps : List Int) : kidsL (ps ++ [0]) 0 = kidsL ps 0 ++ [ps.length] := by
  unfold kidsL
  rw [List.length_append, show ([0] : List Int).length = 1 from rfl, List.range_succ, List.filter_append]
  congr 1
  · refine List.filter_congr fun k hk => ?_
    rw [pr_more ps 0 k (by simpa using hk)]
  · rw [List.filter_cons, if_pos (by rw [pr_last]; simp), List.filter_nil]
theorem kids_more (ps : List Int) {a : Nat} (ha : 0 < a) : kidsL (ps ++ [0]) a = kidsL ps a := by
  unfold kidsL
  rw [List.length_append, show ([0] : List Int).length = 1 from rfl, List.range_succ, List.filter_append, List.filter_cons, if_neg (by rw [pr_last]; simp; omega), List.filter_nil, List.append_nil]
  refine List.filter_congr fun k hk => ?_
  rw [pr_more ps 0 k (by simpa using hk)]
theorem dep_more {ps : List Int} (h : Tre ps) : dep (ps ++ [0]) ps.length = 1 := by
  rw [dep_step h.more (by rw [pr_last]; exact Int.le_refl _), pr_last]
  show dep (ps ++ [0]) 0 + 1 = 1
  rw [dep_root h.more]
theorem end_more {ps : List Int} (h : Tre ps) : EndOf (ps ++ [0]) 0 (ps.length + 1) :=
  ⟨by omega, by simp, fun b _ hb => Abv.root h.more b (by simpa using hb), fun hl => absurd hl (by simp)⟩
theorem kindAt_more (l : List Nod) (x : Nod) {u : Nat} (hu : u < l.length) : kindAt (l ++ [x]) (u : Int) = kindAt l (u : Int) := by
  unfold kindAt
  rw [Int.toNat_natCast, List.getD_eq_getElem?_getD, List.getD_eq_getElem?_getD, List.getElem?_append_left hu]
theorem ctx_more {l : List Nod} (h : Tre (psOf l)) (x : Nod) (hx : Tre (psOf l ++ [x.p])) {n : Nat} (hn : n < l.length) : ctx (l ++ [x]) n = ctx l n := by
  have e : psOf (l ++ [x]) = psOf l ++ [x.p] := by simp [psOf]
  unfold ctx ctxF
  rw [e, ups_more h hx n (by rw [psOf_len]; exact hn)]
  congr 1
  have key : ∀ us : List Nat, (∀ u ∈ us, u < l.length) → (us.find? fun (u : Nat) => tb tLines (kindAt (l ++ [x]) (u : Int))) = us.find? fun (u : Nat) => tb tLines (kindAt l (u : Int)) := by
    intro us
    induction us with
    | nil => intro _; rfl
    | cons u us ih =>
      intro hus
      rw [List.find?_cons, List.find?_cons, kindAt_more l x (hus u (List.mem_cons_self ..)), ih (fun u hu => hus u (List.mem_cons_of_mem _ hu))]
  exact key _ fun u hu => by
    have := (ups_lt h n u hu).2
    rwa [psOf_len] at this
theorem flatN_snoc (l : List Nod) (x : Nod) : flatN (l ++ [x]) = flatN l ++ x.cells.toList := by simp [flatN]
theorem own_ns {w : World} {base n : Nat} {v : Value} {l : List Nod} (h : w.ownsRow base 37 22 v n (flatN l)) (hn : l.length = n) : Ns w v l := by
  have h2 : RowN 22 (fun b => b < base) w v (l.map fun s => s.cells.toList) := RowN.of_own h rfl (by rw [List.length_map]; exact hn) (fun x hx => by
    obtain ⟨s, _, rfl⟩ := List.mem_map.1 hx
    rfl)
  exact RowN.mono (T := fun _ => False) h2 fun _ _ h => h.elim
theorem elmN : Elm Tryd.prog 22 37 22 160 := ⟨Tryd.underlying22, ⟨.agg Nod.zero.cells, by kernel_rfl, rfl⟩, by decide, by decide⟩
theorem bsN (x : Nod) (w : World) : (Instr.buildSlice 22 1 #[(0, .agg x.cells)]).run Tryd.prog w = .ok (.slice (some ⟨w.heap.size, 0, none⟩) 1 1) (w.alloc (.cells x.cells 37)) := by kernel_rfl
theorem apN {ops : Array Oper} {Q : Exit → Act → World → Prop} {a : Act} {w : World} {rest : List Oper} {o1 o2 : Oper} (hg1 : o1.guard = none) (x : Operand) (ho1 : o1.op = .buildSlice 22 1 #[(0, x)]) (D : Tmp) (hd1 : o1.dst = some D)
    (hg2 : o2.guard = none) (sl : Operand) (ho2 : o2.op = .call { callee := .builtin .append, args := #[sl, .tmp D], argTypes := #[22, 22] }) (s : Nod) (hx : a.eval x = .agg s.cells)
    (v : Value) (hs : ∀ u, (a.put (some D) u).eval sl = v) (hD : ∀ u, (a.put (some D) u).eval (.tmp D) = u) (base n : Nat) (xs : List Value) (hown : w.ownsRow base 37 22 v n xs) (hn : n < 4194304) (hbase : base ≤ w.heap.size)
    (h : ∀ u v' w', w'.ownsRow base 37 22 v' (n + 1) (xs ++ s.cells.toList) → Below base w w' → wpList Tryd.prog ops Q rest ((a.put (some D) u).put o2.dst v') w') : wpList Tryd.prog ops Q (o1 :: o2 :: rest) a w :=
  apG elmN hg1 x ho1 D hd1 hg2 sl ho2 (.agg s.cells) s.cells hx rfl (oneN s) (bsN s) v hs hD base n xs hown hn hbase h

set_option maxRecDepth 100000 in
set_option maxHeartbeats 16000000 in
theorem aadds_any (l : List Nod) (v : Value) (t : ByteArray) (z : Int) (w : World) (hR : Ns w v l) (hW : WfL l) (hlen : l.length ≤ 9223372036854775807) (hTab : Tab w) :
    Calls Tryd.prog 7 #[v, .string t, .int .i64 z] w fun e w' => e = .returned (.bool true) ∧ Below w.heap.size w w' := by
  have hTp := hTab.pos
  have CH : Hid (∀ W, Below w.heap.size w W → Calls Tryd.prog 9 #[] W fun e w' => e = .returned (.bool true) ∧ Below W.heap.size W w') := Lib.hid fun W b => head_any W (hTab.below hTp b)
  have CG := Lib.hid (great_any l v w hR hlen)
  have CN := Lib.hid (anew_any l v w hR hW hTab)
  have HTB := Lib.hid hTab
  have HR := Lib.hid hR
  have HW := Lib.hid hW
  obtain ⟨A, cap, rfl⟩ := hR.form
  obtain ⟨n, hl⟩ : ∃ n, l.length = n := ⟨_, rfl⟩
  have HL := Lib.hid hl
  rw [hl] at hlen CG CN HR ⊢
  clear hR hW hTab hl
  go_enter Tryd.func7, Tryd.ntmps7
  go_wp2_with fail
  refine CG.out.mono ?_
  rintro e w0 ⟨b, rfl, hgr, rfl⟩
  have HGR := Lib.hid hgr
  have b0 := Below.refl w.heap.size w
  clear hgr
  cases b
  rotate_left
  · clear CG CN HTB HGR
    go_wp2_with fail
    refine (CH.out _ b0).mono ?_
    rintro e wh ⟨rfl, bh⟩
    go_wp2_with fail
    go_ret
    exact ⟨rfl, below_seq b0 bh⟩
  by_cases h0 : 60 < n
  · have h0z : (60 : Int) < n := by omega
    clear CG CN HTB HGR
    go_wp2_with fail
    refine (CH.out _ b0).mono ?_
    rintro e wh ⟨rfl, bh⟩
    go_wp2_with fail
    go_ret
    exact ⟨rfl, below_seq b0 bh⟩
  have h0z : (n : Int) ≤ 60 := by omega
  obtain ⟨sz, hsz⟩ : ∃ sz, t.size = sz := ⟨_, rfl⟩
  have HSZ := Lib.hid hsz
  by_cases h1 : (300 : Int) < sz
  · clear CG CN HTB HGR
    go_wp2_with fail
    refine (CH.out _ b0).mono ?_
    rintro e wh ⟨rfl, bh⟩
    go_wp2_with fail
    go_ret
    exact ⟨rfl, below_seq b0 bh⟩
  go_wp2_with fail
  refine CN.out.mono ?_
  rintro e w1 (⟨hg, p, rfl, hTr, b1⟩ | ⟨hne, rfl, b1⟩)
  rotate_left
  · obtain ⟨q, hq⟩ : ∃ q, chkT l = q := ⟨_, rfl⟩
    rw [hq] at hne ⊢
    clear hq
    go_wp2_with fail
    refine (CH.out _ b1).mono ?_
    rintro e wh ⟨rfl, bh⟩
    go_wp2_with fail
    go_ret
    exact ⟨rfl, below_seq b1 bh⟩
  have hG := (good_iff l).1 hg
  have hT := hG.tre
  have hk8 := hG.k8 HW.out
  obtain ⟨g, rfl⟩ : ∃ g, p = .pointer (some ⟨g, 0, none⟩) := by obtain ⟨g, _, _, _, _, h, _⟩ := hTr; exact ⟨g, h⟩
  have T1 := HTB.out.below hTp b1
  have hR1 := HR.out.below b1
  have hpos := hG.pos
  rw [HL.out] at hpos
  have hsum : sumT l + t.size ≤ 1048576 := by
    have := (show l.length ≤ 150 ∧ (sumT l ≤ 1048576 → sumT l ≤ 5000) from by first | exact HGR.out rfl | exact HGR.out trivial).2 hG.sum
    rw [HSZ.out]
    omega
  have hl60 : l.length ≤ 60 := by rw [HL.out]; omega
  have hG2 := hG.more t (by omega) hsum
  have hps : psOf (l ++ [txt1 t]) = psOf l ++ [0] := by simp [psOf, txt1, Nod.zero]
  have hT2 := hG2.tre
  have hW2 : WfL (l ++ [txt1 t]) := fun i x hx => by
    rcases Nat.lt_or_ge i l.length with h | h
    · rw [List.getElem?_append_left h] at hx
      exact HW.out i x hx
    · rw [List.getElem?_append_right h] at hx
      obtain rfl : txt1 t = x := by
        cases hq : i - l.length with
        | zero => rw [hq] at hx; simpa using hx
        | succ q => rw [hq] at hx; simp at hx
      exact ⟨by show (0 : Int) ≤ 1; decide, by show (1 : Int) ≤ 255; decide, by show (0 : Nat) < 65536; decide, by show t.size ≤ _; omega, by show (0 : Int) ≤ 0; decide⟩
  have CN2 : Hid (∀ (W : World) (v : Value), Below w1.heap.size w1 W → Ns W v (l ++ [txt1 t]) → Calls Tryd.prog 10 #[v] W (NewPost W (l ++ [txt1 t]))) := Lib.hid fun W v b h => anew_any _ v W h hW2 (T1.below T1.pos b)
  have hc2 := (good_iff _).2 hG2
  have HC2 := Lib.hid hc2
  have HG1 := Lib.hid hG
  have HG2 := Lib.hid hG2
  have HT1 := Lib.hid hT
  have HT2 := Lib.hid hT2
  have HW2 := Lib.hid hW2
  have HPS := Lib.hid hps
  have HTr := Lib.hid hTr
  have HTA := Lib.hid T1
  have HK8 := Lib.hid hk8
  rcases hR1 with ⟨h, h2⟩ | ⟨ad, cap', hv, hb, hcc⟩
  · have : l.length = 0 := by
      have := congrArg List.length h2
      simpa using this
    have := HL.out
    omega
  injection hv with hv1 hv2 hv3
  subst hv1 hv3
  have hfl := flatN_len l
  rw [HL.out] at hfl
  obtain ⟨i0, hi, hz0, hz1, hz2⟩ := info_agg infoN
  have hbs := bsN0
  have hlen2 : (l ++ [txt1 t]).length = n + 1 := by rw [List.length_append, HL.out]; rfl
  have HLN := Lib.hid hlen2
  clear CG CN HTB hTr T1 hk8 hG hg HW hT hT2 hG2 hW2 hps hc2 hsum hb hcc hv2 hl60 hlen2 HGR
  go_wp2_with (first
    | (refine wpList_append_own _ rfl (.tmp 55) (.tmp 56) 22 rfl w1.heap.size 37 i0 (.agg Nod.zero.cells) 22 160 Tryd.underlying22 hi hz0 hz1 hz2 rfl (by decide) _ 0 [] rfl (own_emptyN w1 w1.heap.size (Nat.le_refl _)) ad n cap (flatN l) rfl hfl (fun j u hu => ((HR.out.below b1).below (below_alloc w1 _)).flat j u hu) (flatN_one l) (by unfold maxLen; omega) (by omega) (by simp) ?_; intro v3 w3 own3 grow3 _; have b3 : Below w1.heap.size w1 w3 := (below_alloc w1 _).trans (below_grown grow3 (by simp) (fun g hg => by cases hg; exact Nat.le_refl _)))
    | (refine apN rfl (.tmp 59) rfl 60 rfl rfl (.tmp 57) rfl (txt1 t) rfl v3 (fun _ => rfl) (fun _ => rfl) w1.heap.size (0 + n) _ own3 (by omega) b3.size ?_; intro uu v4 w4 own4 b4))
  have hN4 : Ns w4 v4 (l ++ [txt1 t]) := own_ns (by rw [flatN_snoc]; simpa using own4) (by rw [HLN.out])
  have b14 := b3.trans b4
  clear own3 own4 grow3 hi hz0 hz1 hz2 hbs hfl b3 b4
  refine (CN2.out w4 v4 b14 hN4).mono ?_
  rintro e w5 (⟨_, p2, rfl, hTr2, b5⟩ | ⟨hne, _⟩)
  rotate_left
  · exact absurd HC2.out hne
  obtain ⟨g2, rfl⟩ : ∃ g, p2 = .pointer (some ⟨g, 0, none⟩) := by obtain ⟨g, _, _, _, _, h, _⟩ := hTr2; exact ⟨g, h⟩
  have b15 := below_seq b14 b5
  have HTr1 := Lib.hid (HTr.out.below b15)
  have HTr2 := Lib.hid hTr2
  have T5 := Lib.hid (HTA.out.below HTA.out.pos b15)
  have E1 : Hid (∀ W, Below w5.heap.size w5 W → Calls Tryd.prog 31 #[.pointer (some ⟨g, 0, none⟩)] W fun e w' => e = .returned (.int .i64 (n : Int)) ∧ Below W.heap.size W w') := Lib.hid fun W b => (alen_any _ _ W (HTr1.out.below b).len).mono fun e w' ⟨he, hw⟩ => ⟨by rw [he, HL.out], hw ▸ Below.refl _ _⟩
  have E2 : Hid (∀ W, Below w5.heap.size w5 W → Calls Tryd.prog 31 #[.pointer (some ⟨g2, 0, none⟩)] W fun e w' => e = .returned (.int .i64 ((n + 1 : Nat) : Int)) ∧ Below W.heap.size W w') := Lib.hid fun W b => (alen_any _ _ W (HTr2.out.below b).len).mono fun e w' ⟨he, hw⟩ => ⟨by rw [he, HLN.out], hw ▸ Below.refl _ _⟩
  have hm60 : (kidsL (psOf l) 0).length ≤ 60 := Nat.le_trans (kidsL_len _ _) (by rw [psOf_len, HL.out]; omega)
  have K0 : Hid (∀ W, Below w5.heap.size w5 W → Calls Tryd.prog 14 #[.pointer (some ⟨g2, 0, none⟩), .int .i64 0] W fun e w' => ∃ u, e = .returned (.tuple #[u, .int .i64 0]) ∧ Row (fun _ => False) w' u ((kidsL (psOf l) 0 ++ [n]).map iv) ∧ Below W.heap.size W w') := Lib.hid fun W b => by
    have := akids_any _ _ 0 W (HTr2.out.below b) HT2.out (by rw [HLN.out]; omega) (by rw [HLN.out]; omega)
    rw [HPS.out, kids_more0, psOf_len, HL.out] at this
    exact this
  have DP : Hid (∀ W, Below w5.heap.size w5 W → Calls Tryd.prog 12 #[.pointer (some ⟨g2, 0, none⟩), .int .i64 (n : Int)] W fun e w' => e = .returned (.tuple #[.int .i64 1, .int .i64 0]) ∧ Below W.heap.size W w') := Lib.hid fun W b => by
    have := adepth_any _ _ n W (HTr2.out.below b) HT2.out (by rw [HLN.out]; omega) (by rw [HLN.out]; omega)
    have e1 := dep_more HT1.out
    rw [psOf_len, HL.out] at e1
    rw [HPS.out, e1] at this
    exact this
  have EN0 : Hid (∀ W, Below w5.heap.size w5 W → Calls Tryd.prog 13 #[.pointer (some ⟨g2, 0, none⟩), .int .i64 0] W fun e w' => e = .returned (.tuple #[.int .i64 ((n + 1 : Nat) : Int), .int .i64 0]) ∧ Below W.heap.size W w') := Lib.hid fun W b => by
    have hE := end_more HT1.out
    rw [psOf_len, HL.out] at hE
    exact (aend_any _ _ 0 (n + 1) W (HTr2.out.below b) (by rw [HLN.out]; omega) (by rw [HPS.out]; exact hE)).mono fun e w' ⟨he, hw⟩ => ⟨he, hw ▸ Below.refl _ _⟩
  have b05 := below_seq b1 b15
  have NX : Hid (∀ k : Nat, 0 < k → k < n → ∃ (en cx : Nat) (ks : List Nat), ks.length ≤ 60 ∧ ∀ (g' : Nat) W, (g' = g ∨ g' = g2) → Below w5.heap.size w5 W →
      Calls Tryd.prog 13 #[.pointer (some ⟨g', 0, none⟩), .int .i64 (k : Int)] W (fun e w' => e = .returned (.tuple #[.int .i64 (en : Int), .int .i64 0]) ∧ Below W.heap.size W w') ∧
      Calls Tryd.prog 14 #[.pointer (some ⟨g', 0, none⟩), .int .i64 (k : Int)] W (fun e w' => ∃ u, e = .returned (.tuple #[u, .int .i64 0]) ∧ Row (fun _ => False) w' u (ks.map iv) ∧ Below W.heap.size W w') ∧
      Calls Tryd.prog 15 #[.pointer (some ⟨g', 0, none⟩), .int .i64 (k : Int)] W (fun e w' => e = .returned (.tuple #[.int .i64 (cx : Int), .int .i64 0]) ∧ Below W.heap.size W w')) := Lib.hid fun k hk0 hkn => by
    have hkl : k < l.length := by rw [HL.out]; exact hkn
    obtain ⟨en, hE⟩ := EndOf.exists_ (ps := psOf l) k (by rw [psOf_len]; exact hkl)
    refine ⟨en, ctx l k, kidsL (psOf l) k, Nat.le_trans (kidsL_len _ _) (by rw [psOf_len, HL.out]; omega), ?_⟩
    rintro g' W (rfl | rfl) b
    · have T := HTr1.out.below b
      have tb_ := T5.out.below T5.out.pos b
      exact ⟨(aend_any _ l k en W T hkl hE).mono fun e w' ⟨he, hw⟩ => ⟨he, hw ▸ Below.refl _ _⟩, akids_any _ l k W T HT1.out hkl (by rw [HL.out]; omega), actx_any _ l k W T HT1.out hkl tb_ HK8.out HG1.out.root⟩
    · have T := HTr2.out.below b
      have tb_ := T5.out.below T5.out.pos b
      have hkl2 : k < (l ++ [txt1 t]).length := by rw [HLN.out]; omega
      refine ⟨(aend_any _ _ k en W T hkl2 (by rw [HPS.out]; exact hE.more HT1.out hk0)).mono fun e w' ⟨he, hw⟩ => ⟨he, hw ▸ Below.refl _ _⟩, ?_, ?_⟩
      · have := akids_any _ _ k W T HT2.out hkl2 (by rw [HLN.out]; omega)
        rw [HPS.out, kids_more _ hk0] at this
        exact this
      · have := actx_any _ _ k W T HT2.out hkl2 tb_ (HG2.out.k8 HW2.out) HG2.out.root
        rw [ctx_more HT1.out (txt1 t) (by have := HT2.out; rw [HPS.out] at this; exact this) hkl] at this
        exact this
  clear hN4 hTr2 b5 b14 b15 CN2 HC2 HG1 HG2 HT1 HT2 HW2 HPS HTr HTA HK8 HTr1 HTr2 T5 HR
  obtain ⟨ks0, hks0⟩ : ∃ ks, kidsL (psOf l) 0 = ks := ⟨_, rfl⟩
  rw [hks0] at K0 hm60
  clear hks0
  go_wp2_with fail
  refine (E2.out _ (Below.refl _ _)).mono ?_
  rintro e w6 ⟨rfl, b6⟩
  go_wp2_with fail
  refine (E1.out _ b6).mono ?_
  rintro e w7 ⟨rfl, b7⟩
  have b57 := below_seq b6 b7
  clear b6 b7 E1 E2
  go_wp2_with fail
  refine (K0.out _ b57).mono ?_
  rintro e w8 ⟨u, rfl, hu, b8⟩
  have b58 := below_seq b57 b8
  have HU := Lib.hid hu
  obtain ⟨B, cap2, rfl⟩ := hu.form
  rw [List.length_map, List.length_append] at HU ⊢
  obtain ⟨m, hm⟩ : ∃ m, ks0.length = m := ⟨_, rfl⟩
  have HM := Lib.hid hm
  rw [hm] at hm60 HU ⊢
  simp only [List.length_cons, List.length_nil, Nat.zero_add] at HU ⊢
  clear hu hm b57 b8 K0
  go_wp2_with fail
  refine (DP.out _ b58).mono ?_
  rintro e w9 ⟨rfl, b9⟩
  have b59 := below_seq b58 b9
  go_wp2_with fail
  refine (EN0.out _ b59).mono ?_
  rintro e w10 ⟨rfl, b10⟩
  have b5a := below_seq b59 b10
  have b8a := below_seq b9 b10
  have b0a := below_seq b05 b5a
  obtain ⟨ad2, cap3, hv, hab, _, hcell⟩ := HU.out.at_ (by simp)
  rw [List.length_map, List.length_append, HM.out] at hv
  injection hv with hv1 hv2 hv3
  subst hv1 hv3
  have hc8 : w8.cell? (ad2.add m) = some (iv n) := hcell m _ (by rw [List.getElem?_map, List.getElem?_append_right (by rw [HM.out]; exact Nat.le_refl _), HM.out, Nat.sub_self]; rfl)
  have hc10 : w10.cell? (ad2.add m) = some (.int .i64 (n : Int)) := (b8a.cell (by rw [block_of_add]; exact hab)).trans hc8
  have hmz : ((m + 1 : Nat) : Int) ≠ 0 := by omega
  clear hv2 hcell hc8 hab b58 b59 b9 b10 DP EN0 b8a
  by_cases hz : 1 ≤ z ∧ z < n
  rotate_left
  · by_cases hz1 : z < 1
    all_goals
      have hzz : z < 1 ∨ (n : Int) ≤ z := by omega
      go_wp2_with fail
      refine (CH.out _ b0a).mono ?_
      rintro e wh ⟨rfl, bh⟩
      go_wp2_with fail
      go_ret
      exact ⟨rfl, below_seq b0a bh⟩
  obtain ⟨k, rfl⟩ : ∃ k : Nat, z = k := ⟨z.toNat, by omega⟩
  obtain ⟨hz1, hz2⟩ := hz
  obtain ⟨en, cx, ks, hks, hNX⟩ := NX.out k (by omega) (by omega)
  have N1 := Lib.hid fun W b => hNX g W (.inl rfl) b
  have N2 := Lib.hid fun W b => hNX g2 W (.inr rfl) b
  have hzz : ¬ (k : Int) < 1 ∧ ¬ (n : Int) ≤ k := by omega
  obtain ⟨hzz, hzz2⟩ := hzz
  clear hNX NX hz1 hz2
  go_wp2_with fail
  refine (N1.out _ b5a).1.mono ?_
  rintro e w11 ⟨rfl, b11⟩
  have c1 := below_seq b5a b11
  go_wp2_with fail
  refine (N2.out _ c1).1.mono ?_
  rintro e w12 ⟨rfl, b12⟩
  have c2 := below_seq c1 b12
  go_wp2_with fail
  refine (N1.out _ c2).2.1.mono ?_
  rintro e w13 ⟨u1, rfl, hu1, b13⟩
  have HU1 := Lib.hid hu1
  have c3 := below_seq c2 b13
  clear hu1
  go_wp2_with fail
  refine (N2.out _ c3).2.1.mono ?_
  rintro e w14 ⟨u2, rfl, hu2, b14⟩
  have HU2 := Lib.hid hu2
  have c4 := below_seq c3 b14
  clear hu2
  go_wp2_with fail
  refine (N1.out _ c4).2.2.mono ?_
  rintro e w15 ⟨rfl, b15⟩
  have c5 := below_seq c4 b15
  go_wp2_with fail
  refine (N2.out _ c5).2.2.mono ?_
  rintro e w16 ⟨rfl, b16⟩
  have c6 := below_seq c5 b16
  have d3 := below_seq b14 (below_seq b15 b16)
  have d4 := below_seq b15 b16
  have b0g := below_seq b05 c6
  clear N1 N2 b11 b12 b13 b14 b15 b16 c1 c2 c3 c4 c5 c6
  go_wp2_with fail
  refine (rints_any u1 u2 ks _ (HU1.out.below d3) (HU2.out.below d4) (by omega)).mono ?_
  rintro e w17 ⟨rfl, b17⟩
  have b0h := below_seq b0g b17
  go_wp2_with fail
  refine (CH.out _ b0h).mono ?_
  rintro e wh ⟨rfl, bh⟩
  go_wp2_with fail
  go_ret
  exact ⟨rfl, below_seq b0h bh⟩
end Go.Proofs.YtgpobhnonjdamaaDoor
