/- Contracts of the document's answers for layer 3 (package stickfulref03): TakeNums, TakeInts, TakeTexts. -/
import Derived.Test.YtfhceblmjahgjaaPkT3
namespace Go.Proofs.Ytfhceblmjahgjaa
open Go.ChangeShapes Go.WideShapes Go.ChangeAt Go.RowKit

/-- bytes left, and one more: none if nothing is fine -/
def room : Pk.Left → Nat
  | none => 0
  | some l => l.length + 1

theorem rest_start {α : Type} (f : Pk.Left → α × Pk.Left) (q : Pk.Left) : Rest f (Pk.rNum q).1 (Pk.rNum q).2 [] (Pk.rList f q).1 (Pk.rList f q).2 := by
  unfold Rest Pk.rList
  cases (Pk.rMany f (Pk.rNum q).1 (Pk.rNum q).2).2 with
  | none => rfl
  | some t => simp

/-- what is read takes a byte at least -/
theorem room_lt {α : Type} {ok : α → Prop} {e : α → List Nat} {f : Pk.Left → α × Pk.Left} {z : α} (W : Pk.Way ok e f z) (l : List Nat) (hl : ∀ b ∈ l, b < 256) : room (f (some l)).2 < room (some l) := by
  cases hq : (f (some l)).2 with
  | none => simp [room]
  | some t =>
    have := W.same l (f (some l)).1 t hl (by rw [← hq])
    have hp := List.length_pos_iff.2 (W.ne _ this.2)
    have h2 := congrArg List.length this.1
    rw [List.length_append] at h2
    simp only [room]
    omega
theorem room_num (q : Pk.Left) (s : ByteArray) (hq : rdCells q s) : room (Pk.rNum q).2 ≤ s.size := by
  cases q with
  | none => simp [Pk.rNum, room]
  | some l =>
    have e : bs s = l := hq
    have h := room_lt Pk.wayNum l (by rw [← e]; exact bs_lt s)
    have h2 : room (some l) = s.size + 1 := by rw [← e]; simp [room, bs_len]
    omega

theorem adv {w wr w4 : World} {G : Nat} {E : TypeId} {v : Value} {m : Nat} {xs : List Value} {a b c d x y : Value} (o : Obj) (hg : w.heap.size + 1 < G) (ho : wr.ownsRow (G + 1) E 1 v m xs) (hr : Blk wr (w.heap.size + 1) 39 #[x, y]) (hb : Below w.heap.size w wr)
    (hG : Blk wr G 39 #[c, d]) (b4 : Below wr.heap.size wr w4) :
    (((w4.setCell ⟨G, 0, none⟩ a).setCell ⟨G, 1, none⟩ b).alloc o).ownsRow (G + 1) E 1 v m xs ∧ Blk (((w4.setCell ⟨G, 0, none⟩ a).setCell ⟨G, 1, none⟩ b).alloc o) (w.heap.size + 1) 39 #[x, y] ∧ Below w.heap.size w (((w4.setCell ⟨G, 0, none⟩ a).setCell ⟨G, 1, none⟩ b).alloc o) ∧
      Blk (((w4.setCell ⟨G, 0, none⟩ a).setCell ⟨G, 1, none⟩ b).alloc o) G 39 #[a, b] ∧ (((w4.setCell ⟨G, 0, none⟩ a).setCell ⟨G, 1, none⟩ b).alloc o).heap.size = w4.heap.size + 1 := by
  have m0 : Mod (At G) wr (((w4.setCell ⟨G, 0, none⟩ a).setCell ⟨G, 1, none⟩ b).alloc o) := (mod_at (mod_at (Mod.of_below b4) 0 a) 1 b).alloc o
  refine ⟨own_keep ho m0 (fun k hk => by have := (ho.lt k hk).1; show ¬ k = G; omega), hr.keep m0 (by show ¬ w.heap.size + 1 = G; omega), ?_, ?_, by simp [World.setCell]⟩
  · exact hb.trans (m0.below hb.size (fun k hk => by have : k = G := hk; omega))
  · exact (two_set (hG.keep (S := fun _ => False) (Mod.of_below b4) id)).alloc o
/-- behind the append onto the slice that is made -/
theorem adv2 {w W w5 : World} {G : Nat} {E : TypeId} {v v' : Value} {m m' : Nat} {xs xs' : List Value} {a b x y : Value} {o : Obj} (hg : w.heap.size + 1 < G) (ho : W.ownsRow (G + 1) E 1 v m xs) (hr : Blk W (w.heap.size + 1) 39 #[x, y]) (hb : Below w.heap.size w W)
    (hG : Blk W G 39 #[a, b]) (h5 : (W.alloc o).grownBy w5 v.ownBlock) (ho5 : w5.ownsRow (G + 1) E 1 v' m' xs') :
    w5.ownsRow (G + 1) E 1 v' m' xs' ∧ Blk w5 (w.heap.size + 1) 39 #[x, y] ∧ Below w.heap.size w w5 ∧ Blk w5 G 39 #[a, b] := by
  have m0 : Mod (fun k => G + 1 ≤ k) W w5 := ((Mod.refl _ _).alloc o).grown h5 (fun k hk => .inl (ho.lt k hk).1)
  exact ⟨ho5, hr.keep m0 (by omega), hb.trans (m0.below hb.size (fun k hk => by omega)), hG.keep m0 (by omega)⟩

/-- a slice of new things and a row are returned -/
def TlPost_num (w : World) (l : List Nat) (q : Pk.Left) (e : Ending) (w' : World) : Prop :=
  (∃ (v : Value) (ys : List Nat) (s' : ByteArray), e = .returned (.tuple #[v, rowV q s']) ∧ w'.ownsRow w.heap.size 28 1 v ys.length (ys.map fN) ∧ ys.map (fun x => x) = l ∧ ys.length ≤ 1000000001 ∧ rdCells q s' ∧ s'.size ≤ 1000000000) ∧ Below w.heap.size w w'

set_option maxRecDepth 100000 in
set_option maxHeartbeats 4000000 in
theorem takeNums_any (q : Pk.Left) (s : ByteArray) (w : World) (hs : s.size ≤ 1000000000) (hq : rdCells q s) :
    Calls Try.prog 49 #[rowV q s] w (TlPost_num w (Pk.rList Pk.rNum q).1 (Pk.rList Pk.rNum q).2) := by
  obtain ⟨i0, hi, hz0, hz1, hz2⟩ := info_parts Try.info_num
  have HI := Lib.hid (And.intro hi (And.intro hz0 (And.intro hz1 hz2)))
  clear hi hz0 hz1 hz2
  have C := Lib.hid (fun w => takeNum_any q s w hs hq)
  have CB := Lib.hid (fun w => bad_any w)
  have hn := num_small q s hq
  have hroom := room_num q s hq
  have hst := rest_start Pk.rNum q
  generalize Pk.rList Pk.rNum q = R0 at *
  generalize Pk.rNum q = r at *
  obtain ⟨n, t⟩ := r
  obtain ⟨ys0, q0⟩ := R0
  simp only at hn C hst hroom ⊢
  have HL := Lib.hid (fun w3 => @left2 w w3 q s)
  have HST := Lib.hid hst
  clear hq hst
  go_enter Try.func49, Try.ntmps49
  go_wp2_with fail
  refine (C.out _).mono ?_
  rintro e w3 ⟨⟨s3, rfl, hq3, hl3⟩, b3⟩
  obtain ⟨hR, hB, hsz⟩ := HL.out w3 b3
  obtain ⟨G, hG⟩ : ∃ G, w3.heap.size = G := ⟨_, rfl⟩
  have T3 : Hid (Blk (w3.alloc (.cells #[.string s3, .bool t.isSome] 39)) (w.heap.size + 1) 39 #[.string ⟨#[]⟩, .bool false] ∧ Below w.heap.size w (w3.alloc (.cells #[.string s3, .bool t.isSome] 39)) ∧ Blk (w3.alloc (.cells #[.string s3, .bool t.isSome] 39)) G 39 #[.string s3, .bool t.isSome]) := ⟨hR.alloc _, hB.alloc hB.size _, by rw [← hG]; exact Blk.new _ _ _⟩
  have hwG : w.heap.size + 1 < G := by omega
  have HQ3 := Lib.hid (And.intro hq3 hl3)
  go_wp2_with fail
  have HG := Lib.hid hG
  clear hG hR hB b3 hq3 hl3
  go_loopg [6, 7] (room t) (fun g s6 s7 wx => ∃ (i : Nat) (ys : List Nat) (q1 : Pk.Left) (s1 : ByteArray), s7 = .int .u64 i ∧ i ≤ n ∧ ys.length = i ∧ i + g ≤ 1000000001 ∧ g = room q1 ∧ Hid (wx.ownsRow (G + 1) 28 1 s6 ys.length (ys.map fN) ∧ Blk wx (w.heap.size + 1) 39 #[.string ⟨#[]⟩, .bool false] ∧ Below w.heap.size w wx ∧ Blk wx G 39 #[.string s1, .bool q1.isSome] ∧ rdCells q1 s1 ∧ s1.size ≤ 1000000000 ∧ Rest Pk.rNum (n - i) q1 (ys.map (fun x => x)) ys0 q0))
  case atStart =>
    exact ⟨0, [], t, s3, rfl, by omega, rfl, by omega, rfl, World.ownsRow_nil _ _ _ _, T3.out.1, T3.out.2.1, T3.out.2.2, HQ3.out.1, HQ3.out.2, HST.out⟩
  case round =>
    obtain ⟨i, ys, q1, s1, rfl, hin, hyk, hig, hgk, HT⟩ := hrel
    have HYK := Lib.hid hyk
    have HGK := Lib.hid hgk
    have c0 : wr.cell? ⟨G, 0, none⟩ = some (.string s1) := HT.out.2.2.2.1.cell 0
    have c1 : wr.cell? ⟨G, 1, none⟩ = some (.bool q1.isSome) := HT.out.2.2.2.1.cell 1
    have hGz : G < wr.heap.size := HT.out.2.2.2.1.lt
    clear T3 hyk hgk
    by_cases hlt : i < n
    · have hltz : (i : Int) < (n : Int) := by omega
      cases q1 with
      | none =>
        have R0 := Lib.hid HT.out.2.2.2.2.2.2.none
        go_wp2_with fail
        refine (CB.out _).mono ?_
        rintro e w6 ⟨rfl, b6⟩
        have HR6 : Hid (Blk w6 (w.heap.size + 1) 39 #[.string ⟨#[]⟩, .bool false]) := HT.out.2.1.keep (S := fun _ => False) (Mod.of_below b6) id
        have B6 : Hid (Below w.heap.size w w6) := below_seq HT.out.2.2.1 b6
        have p0 : w6.cell? ⟨w.heap.size + 1, 0, none⟩ = some (.string ⟨#[]⟩) := HR6.out.cell 0
        have p1 : w6.cell? ⟨w.heap.size + 1, 1, none⟩ = some (.bool false) := HR6.out.cell 1
        have f0 := HR6.out.frozen 0
        have f1 := HR6.out.frozen 1
        go_wp2_with fail
        (try simp only [Exit.inBlock, Exit.then])
        refine ⟨rfl, _, res_row rfl _ _ (w.heap.size + 1) _ _ rfl (two_set HR6.out), ?_⟩
        obtain ⟨rfl, rfl⟩ := R0.out
        exact ⟨⟨.slice none 0 0, [], ByteArray.empty, rfl, World.ownsRow_nil _ _ _ _, rfl, by simp, rfl, by decide⟩, below_two B6.out (by omega)⟩
      | some l1 =>
        have hl1 : bs s1 = l1 := HT.out.2.2.2.2.1
        subst hl1
        have C2 := Lib.hid (takeNum_any (some (bs s1)) s1 wr HT.out.2.2.2.2.2.1 rfl)
        have hstep : Rest Pk.rNum (n - (i + 1)) (Pk.rNum (some (bs s1))).2 (ys.map (fun x => x) ++ [(Pk.rNum (some (bs s1))).1]) ys0 q0 := by
          have := HT.out.2.2.2.2.2.2
          rw [show n - i = (n - (i + 1)) + 1 by omega] at this
          exact this.step
        have hroom1 := room_lt Pk.wayNum (bs s1) (bs_lt s1)
        generalize Pk.rNum (some (bs s1)) = X at *
        obtain ⟨x0, q2⟩ := X
        simp only at hstep C2 hroom1
        have HSTEP := Lib.hid hstep
        have HRM := Lib.hid hroom1
        clear hstep hroom1
        go_wp2_with fail
        refine C2.out.mono ?_
        rintro e w4 ⟨⟨s4, rfl, hq4, hl4⟩, b4⟩
        have HQ4 := Lib.hid (And.intro hq4 hl4)
        have HB4 := Lib.hid (HT.out.2.2.2.1.keep (S := fun _ => False) (Mod.of_below b4) id)
        have d0 : w4.cell? ⟨G, 0, none⟩ = some (.string s1) := HB4.out.cell 0
        have d1 : w4.cell? ⟨G, 1, none⟩ = some (.bool true) := HB4.out.cell 1
        have f0 := HB4.out.frozen 0
        have f1 := HB4.out.frozen 1
        have hGz4 : G < w4.heap.size := HB4.out.lt
        have AD := Lib.hid (adv (a := .string s4) (b := .bool q2.isSome) (.cells #[.string s4, .bool q2.isSome] 39) hwG HT.out.1 HT.out.2.1 HT.out.2.2.1 HT.out.2.2.2.1 b4)
        clear hq4 hl4
        go_wp2_with (at_builtin; refine wpList_append_own _ rfl _ _ 29 rfl (G + 1) 28 i0 (.int .u64 0) 1 8 Try.underlying29 HI.out.1 HI.out.2.1 HI.out.2.2.1 HI.out.2.2.2 rfl (by decide) _ ys.length (ys.map fN) rfl ?co ⟨_, 0, none⟩ 1 1 [fN x0] rfl rfl ?c1 ?c2 ?c3 ?c4 ?c5 ?_)
        case co => exact AD.out.1.alloc _
        case c1 =>
          intro j u hj
          have := cell_one_new (((w4.setCell ⟨G, 0, none⟩ (.string s4)).setCell ⟨G, 1, none⟩ (.bool q2.isSome)).alloc (.cells #[.string s4, .bool q2.isSome] 39)) (fN x0) 28 j u hj
          rw [AD.out.2.2.2.2] at this
          exact this
        case c2 => intro u hu; simp at hu; subst hu; rfl
        case c3 => unfold maxLen; have := HYK.out; omega
        case c4 => have := HYK.out; omega
        case c5 => simp; omega
        intro v' w5 hown5 hgrow _
        have AD2 := Lib.hid (adv2 hwG AD.out.1 AD.out.2.1 AD.out.2.2.1 AD.out.2.2.2.1 hgrow hown5)
        clear hown5 hgrow d0 d1 f0 f1 c0 c1
        go_wp2_with fail
        have hm1 := HRM.out
        have hm2 := HGK.out
        go_roundg (room q2)
        case measure => omega
        case rel =>
          refine ⟨i + 1, ys ++ [x0], q2, s4, by go_num, by omega, by rw [List.length_append, HYK.out]; rfl, by omega, rfl, ?_, AD2.out.2.1, AD2.out.2.2.1, AD2.out.2.2.2, HQ4.out.1, HQ4.out.2, ?_⟩
          · rw [List.length_append, List.map_append]
            exact AD2.out.1
          · have := HSTEP.out
            rw [List.map_append]
            exact this
    · obtain rfl : i = n := by omega
      have hltz : ¬ (i : Int) < (i : Int) := by omega
      have hR := HT.out.2.2.2.2.2.2
      rw [Nat.sub_self] at hR
      have HRF := Lib.hid hR
      clear hR
      cases q1 with
      | none =>
        have R0 := Lib.hid HRF.out.none
        go_wp2_with fail
        refine (CB.out _).mono ?_
        rintro e w6 ⟨rfl, b6⟩
        have HR6 : Hid (Blk w6 (w.heap.size + 1) 39 #[.string ⟨#[]⟩, .bool false]) := HT.out.2.1.keep (S := fun _ => False) (Mod.of_below b6) id
        have B6 : Hid (Below w.heap.size w w6) := below_seq HT.out.2.2.1 b6
        have p0 : w6.cell? ⟨w.heap.size + 1, 0, none⟩ = some (.string ⟨#[]⟩) := HR6.out.cell 0
        have p1 : w6.cell? ⟨w.heap.size + 1, 1, none⟩ = some (.bool false) := HR6.out.cell 1
        have f0 := HR6.out.frozen 0
        have f1 := HR6.out.frozen 1
        go_wp2_with fail
        (try simp only [Exit.inBlock, Exit.then])
        refine ⟨rfl, _, res_row rfl _ _ (w.heap.size + 1) _ _ rfl (two_set HR6.out), ?_⟩
        obtain ⟨rfl, rfl⟩ := R0.out
        exact ⟨⟨.slice none 0 0, [], ByteArray.empty, rfl, World.ownsRow_nil _ _ _ _, rfl, by simp, rfl, by decide⟩, below_two B6.out (by omega)⟩
      | some l1 =>
        have R1 := Lib.hid HRF.out.done
        have p0 : wr.cell? ⟨w.heap.size + 1, 0, none⟩ = some (.string ⟨#[]⟩) := HT.out.2.1.cell 0
        have p1 : wr.cell? ⟨w.heap.size + 1, 1, none⟩ = some (.bool false) := HT.out.2.1.cell 1
        have f0 := HT.out.2.1.frozen 0
        have f1 := HT.out.2.1.frozen 1
        go_wp2_with fail
        go_region
        all_goals
          go_wp2_with fail
          (try simp only [Exit.inBlock, Exit.then])
          refine ⟨rfl, _, res_row rfl _ _ (w.heap.size + 1) (.string s1) (.bool true) rfl ?_, ?_⟩
          · first | exact two_set (HT.out.2.1.drewN 1) | exact (two_set HT.out.2.1).drewN 1
          · obtain ⟨rfl, rfl⟩ := R1.out
            have m0 : Mod (At (w.heap.size + 1)) wr (((wr.setCell ⟨w.heap.size + 1, 0, none⟩ (.string s1)).setCell ⟨w.heap.size + 1, 1, none⟩ (.bool true)).drew) := (mod_at (mod_at (Mod.refl _ _) 0 _) 1 _).drew
            exact ⟨⟨_, ys, s1, rfl, own_base (own_keep HT.out.1 m0 (fun k hk => by have := (HT.out.1.lt k hk).1; show ¬ k = w.heap.size + 1; omega)) (by omega), rfl, by have := HYK.out; omega, HT.out.2.2.2.2.1, HT.out.2.2.2.2.2.1⟩, HT.out.2.2.1.trans (m0.below HT.out.2.2.1.size (fun k hk => by have : k = w.heap.size + 1 := hk; omega))⟩

/-- a slice of new things and a row are returned -/
def TlPost_int (w : World) (l : List Int) (q : Pk.Left) (e : Ending) (w' : World) : Prop :=
  (∃ (v : Value) (ys : List Int) (s' : ByteArray), e = .returned (.tuple #[v, rowV q s']) ∧ w'.ownsRow w.heap.size 2 1 v ys.length (ys.map fI) ∧ ys.map (fun x => x) = l ∧ ys.length ≤ 1000000001 ∧ rdCells q s' ∧ s'.size ≤ 1000000000) ∧ Below w.heap.size w w'

set_option maxRecDepth 100000 in
set_option maxHeartbeats 4000000 in
theorem takeInts_any (q : Pk.Left) (s : ByteArray) (w : World) (hs : s.size ≤ 1000000000) (hq : rdCells q s) :
    Calls Try.prog 51 #[rowV q s] w (TlPost_int w (Pk.rList Pk.rInt q).1 (Pk.rList Pk.rInt q).2) := by
  obtain ⟨i0, hi, hz0, hz1, hz2⟩ := info_parts Try.info_int
  have HI := Lib.hid (And.intro hi (And.intro hz0 (And.intro hz1 hz2)))
  clear hi hz0 hz1 hz2
  have C := Lib.hid (fun w => takeNum_any q s w hs hq)
  have CB := Lib.hid (fun w => bad_any w)
  have hn := num_small q s hq
  have hroom := room_num q s hq
  have hst := rest_start Pk.rInt q
  generalize Pk.rList Pk.rInt q = R0 at *
  generalize Pk.rNum q = r at *
  obtain ⟨n, t⟩ := r
  obtain ⟨ys0, q0⟩ := R0
  simp only at hn C hst hroom ⊢
  have HL := Lib.hid (fun w3 => @left2 w w3 q s)
  have HST := Lib.hid hst
  clear hq hst
  go_enter Try.func51, Try.ntmps51
  go_wp2_with fail
  refine (C.out _).mono ?_
  rintro e w3 ⟨⟨s3, rfl, hq3, hl3⟩, b3⟩
  obtain ⟨hR, hB, hsz⟩ := HL.out w3 b3
  obtain ⟨G, hG⟩ : ∃ G, w3.heap.size = G := ⟨_, rfl⟩
  have T3 : Hid (Blk (w3.alloc (.cells #[.string s3, .bool t.isSome] 39)) (w.heap.size + 1) 39 #[.string ⟨#[]⟩, .bool false] ∧ Below w.heap.size w (w3.alloc (.cells #[.string s3, .bool t.isSome] 39)) ∧ Blk (w3.alloc (.cells #[.string s3, .bool t.isSome] 39)) G 39 #[.string s3, .bool t.isSome]) := ⟨hR.alloc _, hB.alloc hB.size _, by rw [← hG]; exact Blk.new _ _ _⟩
  have hwG : w.heap.size + 1 < G := by omega
  have HQ3 := Lib.hid (And.intro hq3 hl3)
  go_wp2_with fail
  have HG := Lib.hid hG
  clear hG hR hB b3 hq3 hl3
  go_loopg [6, 7] (room t) (fun g s6 s7 wx => ∃ (i : Nat) (ys : List Int) (q1 : Pk.Left) (s1 : ByteArray), s7 = .int .u64 i ∧ i ≤ n ∧ ys.length = i ∧ i + g ≤ 1000000001 ∧ g = room q1 ∧ Hid (wx.ownsRow (G + 1) 2 1 s6 ys.length (ys.map fI) ∧ Blk wx (w.heap.size + 1) 39 #[.string ⟨#[]⟩, .bool false] ∧ Below w.heap.size w wx ∧ Blk wx G 39 #[.string s1, .bool q1.isSome] ∧ rdCells q1 s1 ∧ s1.size ≤ 1000000000 ∧ Rest Pk.rInt (n - i) q1 (ys.map (fun x => x)) ys0 q0))
  case atStart =>
    exact ⟨0, [], t, s3, rfl, by omega, rfl, by omega, rfl, World.ownsRow_nil _ _ _ _, T3.out.1, T3.out.2.1, T3.out.2.2, HQ3.out.1, HQ3.out.2, HST.out⟩
  case round =>
    obtain ⟨i, ys, q1, s1, rfl, hin, hyk, hig, hgk, HT⟩ := hrel
    have HYK := Lib.hid hyk
    have HGK := Lib.hid hgk
    have c0 : wr.cell? ⟨G, 0, none⟩ = some (.string s1) := HT.out.2.2.2.1.cell 0
    have c1 : wr.cell? ⟨G, 1, none⟩ = some (.bool q1.isSome) := HT.out.2.2.2.1.cell 1
    have hGz : G < wr.heap.size := HT.out.2.2.2.1.lt
    clear T3 hyk hgk
    by_cases hlt : i < n
    · have hltz : (i : Int) < (n : Int) := by omega
      cases q1 with
      | none =>
        have R0 := Lib.hid HT.out.2.2.2.2.2.2.none
        go_wp2_with fail
        refine (CB.out _).mono ?_
        rintro e w6 ⟨rfl, b6⟩
        have HR6 : Hid (Blk w6 (w.heap.size + 1) 39 #[.string ⟨#[]⟩, .bool false]) := HT.out.2.1.keep (S := fun _ => False) (Mod.of_below b6) id
        have B6 : Hid (Below w.heap.size w w6) := below_seq HT.out.2.2.1 b6
        have p0 : w6.cell? ⟨w.heap.size + 1, 0, none⟩ = some (.string ⟨#[]⟩) := HR6.out.cell 0
        have p1 : w6.cell? ⟨w.heap.size + 1, 1, none⟩ = some (.bool false) := HR6.out.cell 1
        have f0 := HR6.out.frozen 0
        have f1 := HR6.out.frozen 1
        go_wp2_with fail
        (try simp only [Exit.inBlock, Exit.then])
        refine ⟨rfl, _, res_row rfl _ _ (w.heap.size + 1) _ _ rfl (two_set HR6.out), ?_⟩
        obtain ⟨rfl, rfl⟩ := R0.out
        exact ⟨⟨.slice none 0 0, [], ByteArray.empty, rfl, World.ownsRow_nil _ _ _ _, rfl, by simp, rfl, by decide⟩, below_two B6.out (by omega)⟩
      | some l1 =>
        have hl1 : bs s1 = l1 := HT.out.2.2.2.2.1
        subst hl1
        have C2 := Lib.hid (takeInt_any (some (bs s1)) s1 wr HT.out.2.2.2.2.2.1 rfl)
        have hstep : Rest Pk.rInt (n - (i + 1)) (Pk.rInt (some (bs s1))).2 (ys.map (fun x => x) ++ [(Pk.rInt (some (bs s1))).1]) ys0 q0 := by
          have := HT.out.2.2.2.2.2.2
          rw [show n - i = (n - (i + 1)) + 1 by omega] at this
          exact this.step
        have hroom1 := room_lt Pk.wayInt (bs s1) (bs_lt s1)
        generalize Pk.rInt (some (bs s1)) = X at *
        obtain ⟨x0, q2⟩ := X
        simp only at hstep C2 hroom1
        have HSTEP := Lib.hid hstep
        have HRM := Lib.hid hroom1
        clear hstep hroom1
        go_wp2_with fail
        refine C2.out.mono ?_
        rintro e w4 ⟨⟨s4, rfl, hq4, hl4⟩, b4⟩
        have HQ4 := Lib.hid (And.intro hq4 hl4)
        have HB4 := Lib.hid (HT.out.2.2.2.1.keep (S := fun _ => False) (Mod.of_below b4) id)
        have d0 : w4.cell? ⟨G, 0, none⟩ = some (.string s1) := HB4.out.cell 0
        have d1 : w4.cell? ⟨G, 1, none⟩ = some (.bool true) := HB4.out.cell 1
        have f0 := HB4.out.frozen 0
        have f1 := HB4.out.frozen 1
        have hGz4 : G < w4.heap.size := HB4.out.lt
        have AD := Lib.hid (adv (a := .string s4) (b := .bool q2.isSome) (.cells #[.string s4, .bool q2.isSome] 39) hwG HT.out.1 HT.out.2.1 HT.out.2.2.1 HT.out.2.2.2.1 b4)
        clear hq4 hl4
        go_wp2_with (at_builtin; refine wpList_append_own _ rfl _ _ 30 rfl (G + 1) 2 i0 (.int .i64 0) 1 8 Try.underlying30 HI.out.1 HI.out.2.1 HI.out.2.2.1 HI.out.2.2.2 rfl (by decide) _ ys.length (ys.map fI) rfl ?co ⟨_, 0, none⟩ 1 1 [fI x0] rfl rfl ?c1 ?c2 ?c3 ?c4 ?c5 ?_)
        case co => exact AD.out.1.alloc _
        case c1 =>
          intro j u hj
          have := cell_one_new (((w4.setCell ⟨G, 0, none⟩ (.string s4)).setCell ⟨G, 1, none⟩ (.bool q2.isSome)).alloc (.cells #[.string s4, .bool q2.isSome] 39)) (fI x0) 2 j u hj
          rw [AD.out.2.2.2.2] at this
          exact this
        case c2 => intro u hu; simp at hu; subst hu; rfl
        case c3 => unfold maxLen; have := HYK.out; omega
        case c4 => have := HYK.out; omega
        case c5 => simp; omega
        intro v' w5 hown5 hgrow _
        have AD2 := Lib.hid (adv2 hwG AD.out.1 AD.out.2.1 AD.out.2.2.1 AD.out.2.2.2.1 hgrow hown5)
        clear hown5 hgrow d0 d1 f0 f1 c0 c1
        go_wp2_with fail
        have hm1 := HRM.out
        have hm2 := HGK.out
        go_roundg (room q2)
        case measure => omega
        case rel =>
          refine ⟨i + 1, ys ++ [x0], q2, s4, by go_num, by omega, by rw [List.length_append, HYK.out]; rfl, by omega, rfl, ?_, AD2.out.2.1, AD2.out.2.2.1, AD2.out.2.2.2, HQ4.out.1, HQ4.out.2, ?_⟩
          · rw [List.length_append, List.map_append]
            exact AD2.out.1
          · have := HSTEP.out
            rw [List.map_append]
            exact this
    · obtain rfl : i = n := by omega
      have hltz : ¬ (i : Int) < (i : Int) := by omega
      have hR := HT.out.2.2.2.2.2.2
      rw [Nat.sub_self] at hR
      have HRF := Lib.hid hR
      clear hR
      cases q1 with
      | none =>
        have R0 := Lib.hid HRF.out.none
        go_wp2_with fail
        refine (CB.out _).mono ?_
        rintro e w6 ⟨rfl, b6⟩
        have HR6 : Hid (Blk w6 (w.heap.size + 1) 39 #[.string ⟨#[]⟩, .bool false]) := HT.out.2.1.keep (S := fun _ => False) (Mod.of_below b6) id
        have B6 : Hid (Below w.heap.size w w6) := below_seq HT.out.2.2.1 b6
        have p0 : w6.cell? ⟨w.heap.size + 1, 0, none⟩ = some (.string ⟨#[]⟩) := HR6.out.cell 0
        have p1 : w6.cell? ⟨w.heap.size + 1, 1, none⟩ = some (.bool false) := HR6.out.cell 1
        have f0 := HR6.out.frozen 0
        have f1 := HR6.out.frozen 1
        go_wp2_with fail
        (try simp only [Exit.inBlock, Exit.then])
        refine ⟨rfl, _, res_row rfl _ _ (w.heap.size + 1) _ _ rfl (two_set HR6.out), ?_⟩
        obtain ⟨rfl, rfl⟩ := R0.out
        exact ⟨⟨.slice none 0 0, [], ByteArray.empty, rfl, World.ownsRow_nil _ _ _ _, rfl, by simp, rfl, by decide⟩, below_two B6.out (by omega)⟩
      | some l1 =>
        have R1 := Lib.hid HRF.out.done
        have p0 : wr.cell? ⟨w.heap.size + 1, 0, none⟩ = some (.string ⟨#[]⟩) := HT.out.2.1.cell 0
        have p1 : wr.cell? ⟨w.heap.size + 1, 1, none⟩ = some (.bool false) := HT.out.2.1.cell 1
        have f0 := HT.out.2.1.frozen 0
        have f1 := HT.out.2.1.frozen 1
        go_wp2_with fail
        go_region
        all_goals
          go_wp2_with fail
          (try simp only [Exit.inBlock, Exit.then])
          refine ⟨rfl, _, res_row rfl _ _ (w.heap.size + 1) (.string s1) (.bool true) rfl ?_, ?_⟩
          · first | exact two_set (HT.out.2.1.drewN 1) | exact (two_set HT.out.2.1).drewN 1
          · obtain ⟨rfl, rfl⟩ := R1.out
            have m0 : Mod (At (w.heap.size + 1)) wr (((wr.setCell ⟨w.heap.size + 1, 0, none⟩ (.string s1)).setCell ⟨w.heap.size + 1, 1, none⟩ (.bool true)).drew) := (mod_at (mod_at (Mod.refl _ _) 0 _) 1 _).drew
            exact ⟨⟨_, ys, s1, rfl, own_base (own_keep HT.out.1 m0 (fun k hk => by have := (HT.out.1.lt k hk).1; show ¬ k = w.heap.size + 1; omega)) (by omega), rfl, by have := HYK.out; omega, HT.out.2.2.2.2.1, HT.out.2.2.2.2.2.1⟩, HT.out.2.2.1.trans (m0.below HT.out.2.2.1.size (fun k hk => by have : k = w.heap.size + 1 := hk; omega))⟩

/-- a slice of new things and a row are returned -/
def TlPost_text (w : World) (l : List (List Nat)) (q : Pk.Left) (e : Ending) (w' : World) : Prop :=
  (∃ (v : Value) (ys : List ByteArray) (s' : ByteArray), e = .returned (.tuple #[v, rowV q s']) ∧ w'.ownsRow w.heap.size 9 1 v ys.length (ys.map fS) ∧ ys.map bs = l ∧ ys.length ≤ 1000000001 ∧ rdCells q s' ∧ s'.size ≤ 1000000000) ∧ Below w.heap.size w w'

set_option maxRecDepth 100000 in
set_option maxHeartbeats 4000000 in
theorem takeTexts_any (q : Pk.Left) (s : ByteArray) (w : World) (hs : s.size ≤ 1000000000) (hq : rdCells q s) :
    Calls Try.prog 53 #[rowV q s] w (TlPost_text w (Pk.rList Pk.rText q).1 (Pk.rList Pk.rText q).2) := by
  obtain ⟨i0, hi, hz0, hz1, hz2⟩ := info_parts Try.info_text
  have HI := Lib.hid (And.intro hi (And.intro hz0 (And.intro hz1 hz2)))
  clear hi hz0 hz1 hz2
  have C := Lib.hid (fun w => takeNum_any q s w hs hq)
  have CB := Lib.hid (fun w => bad_any w)
  have hn := num_small q s hq
  have hroom := room_num q s hq
  have hst := rest_start Pk.rText q
  generalize Pk.rList Pk.rText q = R0 at *
  generalize Pk.rNum q = r at *
  obtain ⟨n, t⟩ := r
  obtain ⟨ys0, q0⟩ := R0
  simp only at hn C hst hroom ⊢
  have HL := Lib.hid (fun w3 => @left2 w w3 q s)
  have HST := Lib.hid hst
  clear hq hst
  go_enter Try.func53, Try.ntmps53
  go_wp2_with fail
  refine (C.out _).mono ?_
  rintro e w3 ⟨⟨s3, rfl, hq3, hl3⟩, b3⟩
  obtain ⟨hR, hB, hsz⟩ := HL.out w3 b3
  obtain ⟨G, hG⟩ : ∃ G, w3.heap.size = G := ⟨_, rfl⟩
  have T3 : Hid (Blk (w3.alloc (.cells #[.string s3, .bool t.isSome] 39)) (w.heap.size + 1) 39 #[.string ⟨#[]⟩, .bool false] ∧ Below w.heap.size w (w3.alloc (.cells #[.string s3, .bool t.isSome] 39)) ∧ Blk (w3.alloc (.cells #[.string s3, .bool t.isSome] 39)) G 39 #[.string s3, .bool t.isSome]) := ⟨hR.alloc _, hB.alloc hB.size _, by rw [← hG]; exact Blk.new _ _ _⟩
  have hwG : w.heap.size + 1 < G := by omega
  have HQ3 := Lib.hid (And.intro hq3 hl3)
  go_wp2_with fail
  have HG := Lib.hid hG
  clear hG hR hB b3 hq3 hl3
  go_loopg [6, 7] (room t) (fun g s6 s7 wx => ∃ (i : Nat) (ys : List ByteArray) (q1 : Pk.Left) (s1 : ByteArray), s7 = .int .u64 i ∧ i ≤ n ∧ ys.length = i ∧ i + g ≤ 1000000001 ∧ g = room q1 ∧ Hid (wx.ownsRow (G + 1) 9 1 s6 ys.length (ys.map fS) ∧ Blk wx (w.heap.size + 1) 39 #[.string ⟨#[]⟩, .bool false] ∧ Below w.heap.size w wx ∧ Blk wx G 39 #[.string s1, .bool q1.isSome] ∧ rdCells q1 s1 ∧ s1.size ≤ 1000000000 ∧ Rest Pk.rText (n - i) q1 (ys.map bs) ys0 q0))
  case atStart =>
    exact ⟨0, [], t, s3, rfl, by omega, rfl, by omega, rfl, World.ownsRow_nil _ _ _ _, T3.out.1, T3.out.2.1, T3.out.2.2, HQ3.out.1, HQ3.out.2, HST.out⟩
  case round =>
    obtain ⟨i, ys, q1, s1, rfl, hin, hyk, hig, hgk, HT⟩ := hrel
    have HYK := Lib.hid hyk
    have HGK := Lib.hid hgk
    have c0 : wr.cell? ⟨G, 0, none⟩ = some (.string s1) := HT.out.2.2.2.1.cell 0
    have c1 : wr.cell? ⟨G, 1, none⟩ = some (.bool q1.isSome) := HT.out.2.2.2.1.cell 1
    have hGz : G < wr.heap.size := HT.out.2.2.2.1.lt
    clear T3 hyk hgk
    by_cases hlt : i < n
    · have hltz : (i : Int) < (n : Int) := by omega
      cases q1 with
      | none =>
        have R0 := Lib.hid HT.out.2.2.2.2.2.2.none
        go_wp2_with fail
        refine (CB.out _).mono ?_
        rintro e w6 ⟨rfl, b6⟩
        have HR6 : Hid (Blk w6 (w.heap.size + 1) 39 #[.string ⟨#[]⟩, .bool false]) := HT.out.2.1.keep (S := fun _ => False) (Mod.of_below b6) id
        have B6 : Hid (Below w.heap.size w w6) := below_seq HT.out.2.2.1 b6
        have p0 : w6.cell? ⟨w.heap.size + 1, 0, none⟩ = some (.string ⟨#[]⟩) := HR6.out.cell 0
        have p1 : w6.cell? ⟨w.heap.size + 1, 1, none⟩ = some (.bool false) := HR6.out.cell 1
        have f0 := HR6.out.frozen 0
        have f1 := HR6.out.frozen 1
        go_wp2_with fail
        (try simp only [Exit.inBlock, Exit.then])
        refine ⟨rfl, _, res_row rfl _ _ (w.heap.size + 1) _ _ rfl (two_set HR6.out), ?_⟩
        obtain ⟨rfl, rfl⟩ := R0.out
        exact ⟨⟨.slice none 0 0, [], ByteArray.empty, rfl, World.ownsRow_nil _ _ _ _, rfl, by simp, rfl, by decide⟩, below_two B6.out (by omega)⟩
      | some l1 =>
        have hl1 : bs s1 = l1 := HT.out.2.2.2.2.1
        subst hl1
        have C2 := Lib.hid (takeText_any (some (bs s1)) s1 wr HT.out.2.2.2.2.2.1 rfl)
        have hstep : Rest Pk.rText (n - (i + 1)) (Pk.rText (some (bs s1))).2 (ys.map bs ++ [(Pk.rText (some (bs s1))).1]) ys0 q0 := by
          have := HT.out.2.2.2.2.2.2
          rw [show n - i = (n - (i + 1)) + 1 by omega] at this
          exact this.step
        have hroom1 := room_lt Pk.wayText (bs s1) (bs_lt s1)
        generalize Pk.rText (some (bs s1)) = X at *
        obtain ⟨x0, q2⟩ := X
        simp only at hstep C2 hroom1
        have HSTEP := Lib.hid hstep
        have HRM := Lib.hid hroom1
        clear hstep hroom1
        go_wp2_with fail
        refine C2.out.mono ?_
        rintro e w4 ⟨⟨sx, s4, rfl, hsx, hsl, hq4, hl4⟩, b4⟩
        have HSX := Lib.hid hsx
        clear hsx
        have HQ4 := Lib.hid (And.intro hq4 hl4)
        have HB4 := Lib.hid (HT.out.2.2.2.1.keep (S := fun _ => False) (Mod.of_below b4) id)
        have d0 : w4.cell? ⟨G, 0, none⟩ = some (.string s1) := HB4.out.cell 0
        have d1 : w4.cell? ⟨G, 1, none⟩ = some (.bool true) := HB4.out.cell 1
        have f0 := HB4.out.frozen 0
        have f1 := HB4.out.frozen 1
        have hGz4 : G < w4.heap.size := HB4.out.lt
        have AD := Lib.hid (adv (a := .string s4) (b := .bool q2.isSome) (.cells #[.string s4, .bool q2.isSome] 39) hwG HT.out.1 HT.out.2.1 HT.out.2.2.1 HT.out.2.2.2.1 b4)
        clear hq4 hl4
        go_wp2_with (at_builtin; refine wpList_append_own _ rfl _ _ 31 rfl (G + 1) 9 i0 (.string ByteArray.empty) 1 16 Try.underlying31 HI.out.1 HI.out.2.1 HI.out.2.2.1 HI.out.2.2.2 rfl (by decide) _ ys.length (ys.map fS) rfl ?co ⟨_, 0, none⟩ 1 1 [fS sx] rfl rfl ?c1 ?c2 ?c3 ?c4 ?c5 ?_)
        case co => exact AD.out.1.alloc _
        case c1 =>
          intro j u hj
          have := cell_one_new (((w4.setCell ⟨G, 0, none⟩ (.string s4)).setCell ⟨G, 1, none⟩ (.bool q2.isSome)).alloc (.cells #[.string s4, .bool q2.isSome] 39)) (fS sx) 9 j u hj
          rw [AD.out.2.2.2.2] at this
          exact this
        case c2 => intro u hu; simp at hu; subst hu; rfl
        case c3 => unfold maxLen; have := HYK.out; omega
        case c4 => have := HYK.out; omega
        case c5 => simp; omega
        intro v' w5 hown5 hgrow _
        have AD2 := Lib.hid (adv2 hwG AD.out.1 AD.out.2.1 AD.out.2.2.1 AD.out.2.2.2.1 hgrow hown5)
        clear hown5 hgrow d0 d1 f0 f1 c0 c1
        go_wp2_with fail
        have hm1 := HRM.out
        have hm2 := HGK.out
        go_roundg (room q2)
        case measure => omega
        case rel =>
          refine ⟨i + 1, ys ++ [sx], q2, s4, by go_num, by omega, by rw [List.length_append, HYK.out]; rfl, by omega, rfl, ?_, AD2.out.2.1, AD2.out.2.2.1, AD2.out.2.2.2, HQ4.out.1, HQ4.out.2, ?_⟩
          · rw [List.length_append, List.map_append]
            exact AD2.out.1
          · have := HSTEP.out
            rw [List.map_append]
            rw [List.map_singleton, HSX.out]
            exact this
    · obtain rfl : i = n := by omega
      have hltz : ¬ (i : Int) < (i : Int) := by omega
      have hR := HT.out.2.2.2.2.2.2
      rw [Nat.sub_self] at hR
      have HRF := Lib.hid hR
      clear hR
      cases q1 with
      | none =>
        have R0 := Lib.hid HRF.out.none
        go_wp2_with fail
        refine (CB.out _).mono ?_
        rintro e w6 ⟨rfl, b6⟩
        have HR6 : Hid (Blk w6 (w.heap.size + 1) 39 #[.string ⟨#[]⟩, .bool false]) := HT.out.2.1.keep (S := fun _ => False) (Mod.of_below b6) id
        have B6 : Hid (Below w.heap.size w w6) := below_seq HT.out.2.2.1 b6
        have p0 : w6.cell? ⟨w.heap.size + 1, 0, none⟩ = some (.string ⟨#[]⟩) := HR6.out.cell 0
        have p1 : w6.cell? ⟨w.heap.size + 1, 1, none⟩ = some (.bool false) := HR6.out.cell 1
        have f0 := HR6.out.frozen 0
        have f1 := HR6.out.frozen 1
        go_wp2_with fail
        (try simp only [Exit.inBlock, Exit.then])
        refine ⟨rfl, _, res_row rfl _ _ (w.heap.size + 1) _ _ rfl (two_set HR6.out), ?_⟩
        obtain ⟨rfl, rfl⟩ := R0.out
        exact ⟨⟨.slice none 0 0, [], ByteArray.empty, rfl, World.ownsRow_nil _ _ _ _, rfl, by simp, rfl, by decide⟩, below_two B6.out (by omega)⟩
      | some l1 =>
        have R1 := Lib.hid HRF.out.done
        have p0 : wr.cell? ⟨w.heap.size + 1, 0, none⟩ = some (.string ⟨#[]⟩) := HT.out.2.1.cell 0
        have p1 : wr.cell? ⟨w.heap.size + 1, 1, none⟩ = some (.bool false) := HT.out.2.1.cell 1
        have f0 := HT.out.2.1.frozen 0
        have f1 := HT.out.2.1.frozen 1
        go_wp2_with fail
        go_region
        all_goals
          go_wp2_with fail
          (try simp only [Exit.inBlock, Exit.then])
          refine ⟨rfl, _, res_row rfl _ _ (w.heap.size + 1) (.string s1) (.bool true) rfl ?_, ?_⟩
          · first | exact two_set (HT.out.2.1.drewN 1) | exact (two_set HT.out.2.1).drewN 1
          · obtain ⟨rfl, rfl⟩ := R1.out
            have m0 : Mod (At (w.heap.size + 1)) wr (((wr.setCell ⟨w.heap.size + 1, 0, none⟩ (.string s1)).setCell ⟨w.heap.size + 1, 1, none⟩ (.bool true)).drew) := (mod_at (mod_at (Mod.refl _ _) 0 _) 1 _).drew
            exact ⟨⟨_, ys, s1, rfl, own_base (own_keep HT.out.1 m0 (fun k hk => by have := (HT.out.1.lt k hk).1; show ¬ k = w.heap.size + 1; omega)) (by omega), rfl, by have := HYK.out; omega, HT.out.2.2.2.2.1, HT.out.2.2.2.2.2.1⟩, HT.out.2.2.1.trans (m0.below HT.out.2.2.1.size (fun k hk => by have : k = w.heap.size + 1 := hk; omega))⟩
end Go.Proofs.Ytfhceblmjahgjaa
