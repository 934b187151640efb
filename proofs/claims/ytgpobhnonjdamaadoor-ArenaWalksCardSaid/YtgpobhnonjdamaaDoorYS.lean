/- Contract of style.Styles. Conditions: the lists lie where the slices say, at most 1000 elements each; bits are 16-bit numbers. -/
import Derived.Test.YtgpobhnonjdamaaDoorYV
namespace Go.Proofs.YtgpobhnonjdamaaDoor
open Go.ChangeShapes Go.WideShapes Go.ChangeAt Go.RowKit

/-- make of a row of aggregates, the size a variable -/
theorem run_make_aggs {P : Program} (t e : TypeId) (i : TypeInfo) (z : Value) (ht : P.underlying t = some (.slice e)) (hi : P.info? e = some i) (hz : i.zero = some z)
    (kl kc : IntKind) (n c : Nat) (hnc : n ≤ c) (hbytes : i.bytes * c ≤ 281474976710656) (h63 : c ≤ 9223372036854775807) (w : World) :
    (Instr.makeSlice t (.int kl (n : Int)) (.int kc (c : Int))).run P w = .ok (.slice (some ⟨w.heap.size, 0, none⟩) n c) (w.alloc (.cells (madeCells z.cells (c * i.size)) e)) := by
  have hb : (i.bytes : Int) * (c : Int) ≤ 281474976710656 := by
    have h : ((i.bytes * c : Nat) : Int) ≤ 281474976710656 := by omega
    rwa [Int.natCast_mul] at h
  have hr := run_make (P := P) w t e i z ht hi hz kl kc n c (by omega) (by omega) hb (by omega)
  simp only [Int.toNat_natCast] at hr
  exact hr

theorem infoS : (Tryd.prog.info? 31).map (fun i => (i.zero, i.size, i.bytes)) = some (some (.agg Sty.zero.cells), 9, 48) := by kernel_rfl
theorem info_agg {P : Program} {t : TypeId} {z : Value} {s b : Nat} (h : (P.info? t).map (fun i => (i.zero, i.size, i.bytes)) = some (some z, s, b)) : ∃ i, P.info? t = some i ∧ i.zero = some z ∧ i.size = s ∧ i.bytes = b := by
  cases hq : P.info? t with
  | none => rw [hq] at h; cases h
  | some i =>
    rw [hq] at h
    injection h with h
    injection h with h1 h2
    injection h2 with h2 h3
    exact ⟨i, rfl, h1, h2, h3⟩
theorem mkS (n : Nat) (hn : n ≤ 1000) (w : World) :
    (Instr.makeSlice 51 (.int .i64 (n : Int)) (.int .i64 (n : Int))).run Tryd.prog w = .ok (.slice (some ⟨w.heap.size, 0, none⟩) n n) (w.alloc (.cells (madeCells Sty.zero.cells (n * 9)) 31)) := by
  obtain ⟨i0, hi, hz0, hz1, hz2⟩ := info_agg infoS
  have := run_make_aggs (P := Tryd.prog) 51 31 i0 (.agg Sty.zero.cells) Tryd.underlying51 hi hz0 .i64 .i64 n n (Nat.le_refl _) (by rw [hz2]; omega) (by omega) w
  rw [hz1] at this
  exact this
theorem made_get (z : Array Value) (k n i j : Nat) (hk : z.size = k) (hi : i < n) (hj : j < k) : (madeCells z (n * k))[i * k + j]? = z[j]? := by
  have h1 : i * k + j < n * k := by have := row_le (k := k) hi; omega
  unfold madeCells
  have hm : (i * k + j) % z.size = j := by rw [hk, Nat.mul_comm, Nat.mul_add_mod]; exact Nat.mod_eq_of_lt hj
  rw [Array.getElem?_map, Array.getElem?_range, if_pos h1]
  simp only [Option.map_some, hm]
  rw [getElem!_pos z j (by omega), Array.getElem?_eq_getElem (by omega)]
theorem strs_made (w : World) (n : Nat) : Strs (w.alloc (.cells (madeCells Sty.zero.cells (n * 9)) 31)) w.heap.size 31 9 ((List.replicate n Sty.zero).map Sty.cells) := by
  refine ⟨_, Blk.new _ _ _, by simp [size_madeCells], fun i x hi => ?_⟩
  rw [List.getElem?_map] at hi
  have hin : i < n := by
    cases h : (List.replicate n Sty.zero)[i]? with
    | none => rw [h] at hi; cases hi
    | some y => have := (List.getElem?_eq_some_iff.1 h).1; simpa using this
  rw [List.getElem?_eq_getElem (by simpa using hin), List.getElem_replicate] at hi
  injection hi with hi
  subst hi
  refine ⟨rfl, fun j v hv => ?_⟩
  have hj : j < 9 := (Array.getElem?_eq_some_iff.1 hv).1
  rw [made_get _ 9 n i j rfl hin hj]
  exact hv

/-- what Styles says -/
def StyRes (base : Sty) (ps : List Int) (ds : List Dcl) (z : Int) (l : List Sty) : Prop :=
  (¬ (ps.length = ds.length ∧ okP ps) ∧ z = 2 ∧ l = []) ∨ ((ps.length = ds.length ∧ okP ps) ∧ ¬ (vld base = true ∧ okD ds) ∧ z = 60 ∧ l = []) ∨
    ((ps.length = ds.length ∧ okP ps) ∧ (vld base = true ∧ okD ds) ∧ z = 0 ∧ l = styK base ps ds ds.length)
theorem StyRes.uniq {base : Sty} {ps : List Int} {ds : List Dcl} {z z' : Int} {l l' : List Sty} (h : StyRes base ps ds z l) (h' : StyRes base ps ds z' l') : z = z' ∧ l = l' := by
  rcases h with ⟨h1, rfl, rfl⟩ | ⟨h1, h2, rfl, rfl⟩ | ⟨h1, h2, rfl, rfl⟩ <;> rcases h' with ⟨h3, rfl, rfl⟩ | ⟨h3, h4, rfl, rfl⟩ | ⟨h3, h4, rfl, rfl⟩ <;>
    first
      | exact ⟨rfl, rfl⟩
      | exact absurd h3 h1
      | exact absurd h1 h3
      | exact absurd h4 h2
      | exact absurd h2 h4
def StyPost (w : World) (base : Sty) (ps : List Int) (ds : List Dcl) (e : Ending) (w' : World) : Prop :=
  ∃ v z l, e = .returned (.tuple #[v, .int .i64 z]) ∧ StyRes base ps ds z l ∧ Ss w' v l ∧ Below w.heap.size w w'
theorem StyPost.bad {w w' : World} {base : Sty} {ps : List Int} {ds : List Dcl} {z : Int} (h : StyRes base ps ds z []) (b : Below w.heap.size w w') : StyPost w base ps ds (.returned (.tuple #[.slice none 0 0, .int .i64 z])) w' :=
  ⟨_, z, [], rfl, h, .inl ⟨rfl, rfl⟩, b⟩
theorem Strs.ss {w : World} {g n c : Nat} {l : List Sty} (h : Strs w g 31 9 (l.map Sty.cells)) (hn : l.length = n) : Ss w (.slice (some ⟨g, 0, none⟩) n c) l := by
  have h2 : RowN 9 _ w (.slice (some ⟨g, 0, none⟩) n c) ((l.map Sty.cells).map Array.toList) := h.row (by rw [List.length_map]; exact hn)
  rw [List.map_map] at h2
  exact RowN.mono (S := fun b => b < g) (T := fun _ => False) h2 fun _ _ h => h.elim

set_option maxRecDepth 100000 in
set_option maxHeartbeats 8000000 in
theorem ystyles_any (base : Sty) (pv lv : Value) (ps : List Int) (ds : List Dcl) (w : World) (hP : Row (fun _ => False) w pv (ps.map (Value.int .i64))) (hD : Ds w lv ds) (h16 : Wf16 ds) (hn1 : ps.length ≤ 1000) (hn2 : ds.length ≤ 1000) :
    Calls Tryd.prog 40 #[.agg base.cells, pv, lv] w (StyPost w base ps ds) := by
  have HP := Lib.hid hP
  have HD := Lib.hid hD
  have H16 := Lib.hid h16
  have CC := Lib.hid (fun w => ycheck_any base w)
  have CP : Hid (∀ (b : Bool) (W : World), Below w.heap.size w W → (b = true ↔ okP ps) → Calls Tryd.prog 49 #[pv] W fun e w' => e = .returned (.bool b) ∧ W = w') := fun b W hW hb => yvp_any pv ps b W (hP.below hW) hn1 hb
  have CD : Hid (∀ (b : Bool) (W : World), Below w.heap.size w W → (b = true ↔ okD ds) → Calls Tryd.prog 51 #[lv] W fun e w' => e = .returned (.bool b) ∧ Below W.heap.size W w') := fun b W hW hb => yvd_any lv ds b W (hD.below hW) h16 hn2 hb
  obtain ⟨A, c, rfl⟩ := hP.form
  obtain ⟨B, c2, rfl⟩ := hD.form
  rw [List.length_map] at HP CP ⊢
  have R0 : Hid (¬ (ps.length = ds.length ∧ okP ps) → StyRes base ps ds 2 []) := fun h => .inl ⟨h, rfl, rfl⟩
  have R1 : Hid (ps.length = ds.length → okP ps → ¬ (vld base = true ∧ okD ds) → StyRes base ps ds 60 []) := fun h1 h2 h => .inr (.inl ⟨⟨h1, h2⟩, h, rfl, rfl⟩)
  have R2 : Hid (ps.length = ds.length → okP ps → vld base = true → okD ds → StyRes base ps ds 0 (styK base ps ds ds.length)) := fun h1 h2 h3 h4 => .inr (.inr ⟨⟨h1, h2⟩, ⟨h3, h4⟩, rfl, rfl⟩)
  have HS := Lib.hid (styK_at base ps ds)
  obtain ⟨n, hl⟩ : ∃ n, ds.length = n := ⟨_, rfl⟩
  obtain ⟨m, hm⟩ : ∃ m, ps.length = m := ⟨_, rfl⟩
  have HL := Lib.hid hl
  have HM := Lib.hid hm
  rw [hl] at hn2 HD CD R0 R1 R2 ⊢
  rw [hm] at hn1 HP CP R0 R1 R2 ⊢
  clear hP hD h16 hl hm
  by_cases hnm : n = m
  · subst hnm
    by_cases hok : okP ps
    · have CP2 := Lib.hid (fun W hW => CP.out true W hW ⟨fun _ => hok, fun _ => rfl⟩)
      have HOK := Lib.hid hok
      rcases chk_cases base with ⟨hv, hc⟩ | ⟨hv, hc⟩
      · by_cases hod : okD ds
        · have CD2 := Lib.hid (fun W hW => CD.out true W hW ⟨fun _ => hod, fun _ => rfl⟩)
          have RR := Lib.hid (R2.out rfl hok hv hod)
          rw [hc] at CC
          clear hv hc R0 R1 R2 CP CD hok hod
          go_enter Tryd.func40, Tryd.ntmps40
          go_wp2_with (refine bxSV rfl (.tmp 0) rfl base rfl ?_; intro w1 b1 B1)
          refine (CP2.out _ b1).mono ?_
          rintro e w2 ⟨rfl, rfl⟩
          go_wp2_with (refine ldS rfl (.tmp 3) rfl _ rfl base B1.lies ?_)
          refine (CC.out _).mono ?_
          rintro e w2 ⟨rfl, b2⟩
          go_wp2_with fail
          refine (CD2.out _ (below_seq b1 b2)).mono ?_
          rintro e w3 ⟨rfl, b3⟩
          have hmk := mkS n hn2
          go_wp2_with fail
          have hl0 := B1.lt
          have hg1 : w.heap.size < w1.heap.size := hl0
          have b13 := below_seq (below_seq b1 b2) b3
          have B3 := (B1.keep (S := fun _ => False) (Mod.of_below b2) id).keep (S := fun _ => False) (Mod.of_below b3) id
          have ST := strs_made w3 n
          have hG : w.heap.size < w3.heap.size := Nat.lt_of_lt_of_le hg1 (Nat.le_trans b2.size b3.size)
          clear hmk b1 B1 b2 b3 hl0 hg1 CC CP2 CD2
          obtain ⟨G, hGG⟩ : ∃ g, w3.heap.size = g := ⟨_, rfl⟩
          rw [hGG] at hG ST ⊢
          go_loopg [35] n (fun kx s35 wr => ∃ k : Nat, s35 = .int .i64 k ∧ k ≤ n ∧ kx = n - k ∧ Below w.heap.size w wr ∧ Blk wr w.heap.size 31 base.cells ∧ Strs wr G 31 9 ((styZ base ps ds n k).map Sty.cells))
          case atStart => exact ⟨0, rfl, by omega, rfl, b13.alloc b13.size _, B3.alloc _, by rw [styZ_zero]; exact ST⟩
          case round =>
            obtain ⟨k, rfl, hk, rfl, bel, hB, hS⟩ := hrel
            clear ST B3 b13 hGG
            by_cases hlt : k < n
            · have hkl : k < ds.length := by rw [HL.out]; exact hlt
              have hkp : k < ps.length := by rw [HM.out]; exact hlt
              have hz : (k : Int) < n := by omega
              obtain ⟨d, hd⟩ : ∃ d, ds.getD k .zero = d := ⟨_, rfl⟩
              have hdk := getD_of Dcl.zero hkl
              have hd16 := H16.out k hkl
              obtain ⟨p, hp⟩ : ∃ p, ps.getD k 0 = p := ⟨_, rfl⟩
              have hpk := getD_of (0 : Int) hkp
              have hpr := HOK.out k hkp
              have hset := styZ_set base ps ds n k hlt
              rw [hd] at hdk hd16 hset
              rw [hp] at hpk hpr hset
              obtain ⟨q1, q2⟩ := hpr
              obtain ⟨a2, cap2, o, hv, hab, ha, hL⟩ := HD.out.get bel hdk
              injection hv with hv1 hv2 hv3
              subst hv1 hv3
              obtain ⟨a1, cap1, hv, hab1, _, hcell⟩ := HP.out.at_ (by simp; omega)
              injection hv with hv1 hv4 hv3
              subst hv1 hv3
              have hc0 : w.cell? (a1.add k) = some (.int .i64 p) := hcell k _ (by rw [List.getElem?_map, hpk]; rfl)
              have hab1' : (a1.add k).block < w.heap.size := by rw [block_of_add]; exact hab1
              have HC0 := Lib.hid hc0
              have HSET := Lib.hid hset
              have hrs := bel.size
              have hlen := styZ_len base ps ds n k hk
              clear hv2 hv4 hcell hdk hpk hkl hkp hd hp hset hc0 RR HS
              by_cases h0 : 0 ≤ p
              · obtain ⟨q, rfl⟩ : ∃ q : Nat, p = q := ⟨p.toNat, by omega⟩
                have hqk : q < k := by omega
                have hqn : q < n := by omega
                have hqz : (q : Int) < n := by omega
                obtain ⟨u, hu⟩ : ∃ u, (styK base ps ds k).getD q .zero = u := ⟨_, rfl⟩
                have hup : upV base (styK base ps ds k) (q : Int) = u := by unfold upV; rw [if_pos h0, Int.toNat_natCast]; exact hu
                have hget := styZ_get base ps ds n k q hqk
                rw [hu] at hget
                rw [hup] at HSET
                have hSl : ∀ W, Below wr.heap.size wr W → Lies W ⟨G, q * 9, none⟩ u.cells := fun W hW => (hS.below hW).lies (by rw [List.getElem?_map, hget]; rfl)
                have HSL := Lib.hid hSl
                have CA := Lib.hid (fun w => yapply_any u d w hd16)
                clear hu hup hget hSl q1 q2 hd16
                go_wp2_with (first
                  | (refine ldD rfl (.tmp 38) rfl _ rfl d (ha ▸ hL) ?_)
                  | (refine alDV (o := ⟨some 10, _, _, _, _, _⟩) rfl rfl ?_; intro w5 b5 B5)
                  | (refine stD rfl (.tmp 10) (.tmp 39) rfl rfl _ rfl d rfl .zero B5 ?_; intro w6 m6 B6; have bA : Below wr.heap.size wr w6 := b5.trans (m6.below b5.size (fun k hk => by omega)); have A6 := hB.keep (S := fun _ => False) (Mod.of_below bA) id)
                  | (refine ldS rfl (.tmp 3) rfl _ rfl base A6.lies ?_)
                  | (refine nwS rfl rfl 11 rfl rfl (.tmp 40) rfl rfl base (fun _ => rfl) (fun _ => rfl) ?_; intro w7 b7 B7; have D7 := B6.keep (S := fun _ => False) (Mod.of_below b7) id; have cp : w7.cell? (a1.add k) = some (.int .i64 (q : Int)) := (((bel.trans (bA.mono hrs)).trans (b7.mono (Nat.le_trans hrs bA.size))).cell hab1').trans HC0.out; have hl6 : wr.heap.size < w6.heap.size := B6.lt)
                  | (refine ldS rfl (.tmp 51) rfl _ rfl u (HSL.out _ (below_seq bA b7)) ?_)
                  | (refine stS rfl (.tmp 11) (.tmp 52) rfl rfl _ rfl u rfl base B7 ?_; intro w8 m8 B8; have D8 := D7.keep m8 (by omega))
                  | (refine ldS rfl (.tmp 11) rfl _ rfl u B8.lies ?_)
                  | (refine ldD rfl (.tmp 10) rfl _ rfl d D8.lies ?_))
                refine (CA.out _).mono ?_
                rintro e w9 ⟨rfl, b9⟩
                have bB : Below wr.heap.size wr w9 := ((below_seq bA b7).trans (m8.below (below_seq bA b7).size (fun k hk => by have := bA.size; omega))).trans (b9.mono (Nat.le_trans (below_seq bA b7).size m8.size))
                have S9 := hS.below bB
                obtain ⟨cur, C9, hsz, hat⟩ := S9
                have hfit : k * 9 + 9 ≤ cur.size := by rw [hsz, List.length_map, hlen]; exact row_le hlt
                have HAT := Lib.hid hat
                have HSZ := Lib.hid hsz
                clear hat hsz
                obtain ⟨r, hr⟩ : ∃ r, over u d = r := ⟨_, rfl⟩
                rw [hr] at HSET ⊢
                clear hr
                go_wp2_with (refine wpList_storeO rfl 31 (.tmp 58) (.tmp 57) rfl rfl G (k * 9) rfl r.cells rfl 31 cur C9 iS hfit (one23 r) ?_; intro w10 m10 B10)
                go_roundg (n - (k + 1))
                case measure => omega
                case rel =>
                  have E := Strs.set_ HSZ.out HAT.out (i := k) (by rw [List.length_map, hlen]; exact hlt) (x := r.cells) rfl B10
                  rw [← List.map_set, HSET.out] at E
                  exact ⟨k + 1, by go_num, by omega, rfl, bel.trans ((bB.mono hrs).trans (m10.below (Nat.le_trans hrs bB.size) (fun k hk => by omega))), (hB.keep (S := fun _ => False) (Mod.of_below bB) id).keep m10 (by omega), E⟩
              · obtain rfl : p = -1 := by omega
                have hup : upV base (styK base ps ds k) (-1) = base := by unfold upV; rw [if_neg (by omega)]
                rw [hup] at HSET
                have CA := Lib.hid (fun w => yapply_any base d w hd16)
                clear hup q1 q2 hd16 h0
                go_wp2_with (first
                  | (refine ldD rfl (.tmp 38) rfl _ rfl d (ha ▸ hL) ?_)
                  | (refine alDV (o := ⟨some 10, _, _, _, _, _⟩) rfl rfl ?_; intro w5 b5 B5)
                  | (refine stD rfl (.tmp 10) (.tmp 39) rfl rfl _ rfl d rfl .zero B5 ?_; intro w6 m6 B6; have bA : Below wr.heap.size wr w6 := b5.trans (m6.below b5.size (fun k hk => by omega)); have A6 := hB.keep (S := fun _ => False) (Mod.of_below bA) id)
                  | (refine ldS rfl (.tmp 3) rfl _ rfl base A6.lies ?_)
                  | (refine nwS rfl rfl 11 rfl rfl (.tmp 40) rfl rfl base (fun _ => rfl) (fun _ => rfl) ?_; intro w7 b7 B7; have D7 := B6.keep (S := fun _ => False) (Mod.of_below b7) id; have cp : w7.cell? (a1.add k) = some (.int .i64 (-1)) := (((bel.trans (bA.mono hrs)).trans (b7.mono (Nat.le_trans hrs bA.size))).cell hab1').trans HC0.out; have hl6 : wr.heap.size < w6.heap.size := B6.lt)
                  | (refine ldS rfl (.tmp 11) rfl _ rfl base B7.lies ?_)
                  | (refine ldD rfl (.tmp 10) rfl _ rfl d D7.lies ?_))
                refine (CA.out _).mono ?_
                rintro e w9 ⟨rfl, b9⟩
                have bB : Below wr.heap.size wr w9 := (below_seq bA b7).trans (b9.mono (below_seq bA b7).size)
                have S9 := hS.below bB
                obtain ⟨cur, C9, hsz, hat⟩ := S9
                have hfit : k * 9 + 9 ≤ cur.size := by rw [hsz, List.length_map, hlen]; exact row_le hlt
                have HAT := Lib.hid hat
                have HSZ := Lib.hid hsz
                clear hat hsz
                obtain ⟨r, hr⟩ : ∃ r, over base d = r := ⟨_, rfl⟩
                rw [hr] at HSET ⊢
                clear hr
                go_wp2_with (refine wpList_storeO rfl 31 (.tmp 58) (.tmp 57) rfl rfl G (k * 9) rfl r.cells rfl 31 cur C9 iS hfit (one23 r) ?_; intro w10 m10 B10)
                go_roundg (n - (k + 1))
                case measure => omega
                case rel =>
                  have E := Strs.set_ HSZ.out HAT.out (i := k) (by rw [List.length_map, hlen]; exact hlt) (x := r.cells) rfl B10
                  rw [← List.map_set, HSET.out] at E
                  exact ⟨k + 1, by go_num, by omega, rfl, bel.trans ((bB.mono hrs).trans (m10.below (Nat.le_trans hrs bB.size) (fun k hk => by omega))), (hB.keep (S := fun _ => False) (Mod.of_below bB) id).keep m10 (by omega), E⟩
            · obtain rfl : k = n := by omega
              have hS2 := hS
              rw [styZ_full] at hS2
              go_wp2_with fail
              go_ret2
              exact ⟨_, 0, _, rfl, RR.out, hS2.ss (styK_len _ _ _ _), bel⟩
        · have CD2 := Lib.hid (fun W hW => CD.out false W hW ⟨fun h => (by cases h), fun h => absurd h hod⟩)
          have RR := Lib.hid (R1.out rfl hok (fun h => hod h.2))
          rw [hc] at CC
          clear hv hc R0 R1 R2 CP CD hok hod
          go_enter Tryd.func40, Tryd.ntmps40
          go_wp2_with (refine bxSV rfl (.tmp 0) rfl base rfl ?_; intro w1 b1 B1)
          refine (CP2.out _ b1).mono ?_
          rintro e w2 ⟨rfl, rfl⟩
          go_wp2_with (refine ldS rfl (.tmp 3) rfl _ rfl base B1.lies ?_)
          refine (CC.out _).mono ?_
          rintro e w2 ⟨rfl, b2⟩
          go_wp2_with fail
          refine (CD2.out _ (below_seq b1 b2)).mono ?_
          rintro e w3 ⟨rfl, b3⟩
          go_wp2_with fail
          go_ret2
          exact StyPost.bad RR.out (below_seq (below_seq b1 b2) b3)
      · have RR := Lib.hid (R1.out rfl hok (fun h => by rw [hv] at h; cases h.1))
        rw [hc] at CC
        clear hv hc R0 R1 R2 CP CD hok
        go_enter Tryd.func40, Tryd.ntmps40
        go_wp2_with (refine bxSV rfl (.tmp 0) rfl base rfl ?_; intro w1 b1 B1)
        refine (CP2.out _ b1).mono ?_
        rintro e w2 ⟨rfl, rfl⟩
        go_wp2_with (refine ldS rfl (.tmp 3) rfl _ rfl base B1.lies ?_)
        refine (CC.out _).mono ?_
        rintro e w2 ⟨rfl, b2⟩
        go_wp2_with fail
        go_ret2
        exact StyPost.bad RR.out (below_seq b1 b2)
    · have CP2 := Lib.hid (fun W hW => CP.out false W hW ⟨fun h => (by cases h), fun h => absurd h hok⟩)
      have RR := Lib.hid (R0.out (fun h => hok h.2))
      clear R0 R1 R2 CP CD hok
      go_enter Tryd.func40, Tryd.ntmps40
      go_wp2_with (refine bxSV rfl (.tmp 0) rfl base rfl ?_; intro w1 b1 B1)
      refine (CP2.out _ b1).mono ?_
      rintro e w2 ⟨rfl, rfl⟩
      go_wp2_with fail
      go_ret2
      exact StyPost.bad RR.out b1
  · have h1 : ((n : Int) == (m : Int)) = false := by simp; omega
    have h2 : ((n : Int) != (m : Int)) = true := by simp; omega
    have RR := Lib.hid (R0.out (fun h => hnm h.1.symm))
    clear R0 R1 R2 CP CD hnm
    go_enter Tryd.func40, Tryd.ntmps40
    go_wp2_with (refine bxSV rfl (.tmp 0) rfl base rfl ?_; intro w1 b1 B1)
    go_ret2
    exact StyPost.bad RR.out b1
end Go.Proofs.YtgpobhnonjdamaaDoor
