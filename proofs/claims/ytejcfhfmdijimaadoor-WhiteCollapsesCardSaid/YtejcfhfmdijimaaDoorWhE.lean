/- Contracts of white's read, and of Collapse. Conditions: the characters and the styles lie where the slices say, at most 1048576 of them; numbers fit their kinds; class's table lies in memory. -/
import Derived.Test.YtejcfhfmdijimaaDoorWhD
namespace Go.Proofs.YtejcfhfmdijimaaDoor
open Go.ChangeShapes Go.WideShapes Go.ChangeAt Go.RowKit Go.Shelf
open Wh

/-- the White of a node -/
def whF (ss : List Sty) (x : Int) : Int := (ss.getD x.toNat .zero).a0
/-- may this character be? -/
def okC (ss : List Sty) (c : Cr) : Bool := (decide (c.kind = 0) || decide (c.kind = 6) || decide (c.kind = 5)) && (!decide (c.node < 0) && (!decide ((ss.length : Int) ≤ c.node) && !decide (5 < whF ss c.node)))
def mayB (ss : List Sty) (l : List Cr) : Bool := l.all (okC ss)
theorem okC_split {ss : List Sty} {c : Cr} : okC ss c = true ↔ (decide (c.kind = 0) || decide (c.kind = 6) || decide (c.kind = 5)) = true ∧ ∃ (j : Nat) (s : Sty), c.node = j ∧ ss[j]? = some s ∧ whF ss c.node = s.a0 ∧ s.a0 ≤ 5 := by
  unfold okC
  constructor
  · intro h
    simp only [Bool.and_eq_true, Bool.not_eq_true', decide_eq_false_iff_not] at h
    obtain ⟨h1, h2, h3, h4⟩ := h
    obtain ⟨j, hj⟩ : ∃ j : Nat, c.node = j := ⟨c.node.toNat, by omega⟩
    have hjl : j < ss.length := by omega
    have hs : ss[j]? = some (ss[j]'hjl) := List.getElem?_eq_getElem _
    refine ⟨h1, j, _, hj, hs, ?_, ?_⟩
    · unfold whF
      rw [hj, Int.toNat_natCast, List.getD_eq_getElem?_getD, hs]
      rfl
    · have : whF ss c.node = (ss[j]'hjl).a0 := by
        unfold whF
        rw [hj, Int.toNat_natCast, List.getD_eq_getElem?_getD, hs]
        rfl
      omega
  · rintro ⟨h1, j, s, hj, hs, hw, h5⟩
    have hjl := (List.getElem?_eq_some_iff.1 hs).1
    have e1 : decide (c.node < 0) = false := decide_eq_false (by omega)
    have e2 : decide ((ss.length : Int) ≤ c.node) = false := decide_eq_false (by omega)
    have e3 : decide (5 < whF ss c.node) = false := decide_eq_false (by omega)
    rw [h1, e1, e2, e3]
    rfl
theorem whF_at {ss : List Sty} {j : Nat} {s : Sty} (h : ss[j]? = some s) : whF ss (j : Int) = s.a0 := by
  unfold whF
  rw [Int.toNat_natCast, List.getD_eq_getElem?_getD, h]
  rfl
theorem may_take {ss : List Sty} {l : List Cr} {k : Nat} {c : Cr} (hc : l[k]? = some c) (ho : okC ss c = false) : mayB ss l = false := by
  cases h : mayB ss l with
  | false => rfl
  | true =>
    have := List.all_eq_true.1 h c (List.mem_of_getElem? hc)
    rw [ho] at this
    cases this
/-- what read says -/
def ReadPost (w : World) (ss : List Sty) (l : List Cr) (e : Ending) (w' : World) : Prop :=
  (mayB ss l = true ∧ ∃ u, e = .returned (.tuple #[u, .int .i64 0]) ∧ OwW w.heap.size w' u (l.map (emb (whF ss))) ∧ Below w.heap.size w w') ∨
  (mayB ss l = false ∧ e = .returned (.tuple #[.slice none 0 0, .int .i64 2]) ∧ Below w.heap.size w w')

set_option maxRecDepth 100000 in
set_option maxHeartbeats 8000000 in
theorem wread_any (l : List Cr) (v : Value) (ss : List Sty) (sv : Value) (w : World) (hR : RwC w v l) (hS : Ss w sv ss) (hlen : l.length ≤ 1048576) :
    Calls Tryd.prog 22 #[v, sv] w (ReadPost w ss l) := by
  have HR := Lib.hid hR
  have HS := Lib.hid hS
  obtain ⟨A, cap, rfl⟩ := hR.form
  obtain ⟨B, cap2, rfl⟩ := hS.form
  obtain ⟨m, hm⟩ : ∃ m, l.length = m := ⟨_, rfl⟩
  have HM := Lib.hid hm
  obtain ⟨sn, hsn⟩ : ∃ m, ss.length = m := ⟨_, rfl⟩
  have HSN := Lib.hid hsn
  have hmk := makeW m (by omega)
  rw [hm] at hlen HR ⊢
  rw [hsn] at HS ⊢
  obtain ⟨em, hem⟩ : ∃ f, emb (whF ss) = f := ⟨_, rfl⟩
  have HEM := Lib.hid hem
  have FIN : Hid (∀ e w', (mayB ss l = true ∧ ∃ u, e = .returned (.tuple #[u, .int .i64 0]) ∧ OwW w.heap.size w' u (l.map em) ∧ Below w.heap.size w w') ∨ (mayB ss l = false ∧ e = .returned (.tuple #[.slice none 0 0, .int .i64 2]) ∧ Below w.heap.size w w') → ReadPost w ss l e w') := Lib.hid fun e w' h => by
    unfold ReadPost
    rw [hem]
    exact h
  clear hR hS hm hsn hem
  obtain ⟨Q, hQ⟩ : ∃ Q, ReadPost w ss l = Q := ⟨_, rfl⟩
  rw [hQ] at FIN ⊢
  clear hQ
  go_enter Tryd.func22, Tryd.ntmps22
  go_wp2_with fail
  have O0 := own_fullW m hlen w
  have b0 := below_alloc w (.cells (madeCells (cwA zCw) (m * 6)) 57)
  obtain ⟨w0, hw0⟩ : ∃ w0, w.alloc (.cells (madeCells (cwA zCw) (m * 6)) 57) = w0 := ⟨_, rfl⟩
  rw [hw0] at O0 b0 ⊢
  clear hw0 hmk
  have O0 : OwW w.heap.size w0 (.slice (some ⟨w.heap.size, 0, none⟩) m m) (rd em zCw l 0) := by rw [rd_zero, HM.out]; exact O0
  go_loopg [14] m (fun kx s14 wr => ∃ k : Nat, s14 = .int .i64 k ∧ k ≤ m ∧ kx = m - k ∧ OwW w.heap.size wr (.slice (some ⟨w.heap.size, 0, none⟩) m m) (rd em zCw l k) ∧ Below w.heap.size w wr ∧ Hid (∀ i c, i < k → l[i]? = some c → okC ss c = true))
  case atStart => exact ⟨0, rfl, by omega, by omega, O0, b0, Lib.hid fun i c h => by omega⟩
  case round =>
    clear O0 b0
    obtain ⟨k, rfl, hk, rfl, O, b, HOK⟩ := hrel
    by_cases hkm : k < m
    · obtain ⟨c, hc⟩ : ∃ c, l[k]? = some c := ⟨_, List.getElem?_eq_getElem (by rw [HM.out]; exact hkm)⟩
      obtain ⟨a2, cap3, o, hv, hab, ha, hLi⟩ := HR.out.get b hc
      rw [HM.out] at hv
      injection hv with hv1 hv2 hv3
      subst hv1 hv3
      have HO := Lib.hid O
      have HB := Lib.hid b
      have HC := Lib.hid hc
      have hbs := b.size
      have hkz : (k : Int) < m := by omega
      clear hv2 O b hc
      go_wp2_with (first
        | (refine ldC rfl (.tmp 17) rfl _ rfl c (ha ▸ hLi) ?_)
        | (refine alCV rfl rfl ?_; intro w1 b1 B1)
        | (refine stC rfl (.tmp 8) (.tmp 18) rfl rfl _ rfl c rfl zCr B1 ?_; intro w2 m2 B2; refine Mk.out ?_))
      constructor
      have b2 : Below wr.heap.size wr w2 := b1.trans (m2.below b1.size fun k hk => by omega)
      have hb2 := HB.out.trans (b2.mono hbs)
      have O2 := HO.out.below b2
      have H2 := Lib.hid hb2
      have HO2 := Lib.hid O2
      have q4 : w2.cell? ⟨wr.heap.size, 4, none⟩ = some (.int .u8 c.kind) := B2.cell 4
      have q1 : w2.cell? ⟨wr.heap.size, 1, none⟩ = some (.int .i64 c.node) := B2.cell 1
      obtain ⟨kd, hkd⟩ : ∃ x, c.kind = x := ⟨_, rfl⟩
      obtain ⟨nd, hnd⟩ : ∃ x, c.node = x := ⟨_, rfl⟩
      rw [hkd] at q4
      rw [hnd] at q1
      have HB2 := Lib.hid B2
      obtain ⟨vb, hvb⟩ : ∃ x, (decide (kd = 0) || decide (kd = 6) || decide (kd = 5)) = x := ⟨_, rfl⟩
      have CV : Hid (∀ w, Calls Tryd.prog 34 #[.int .u8 kd] w fun e w' => e = .returned (.bool vb) ∧ w = w') := Lib.hid fun w => by have := vkind_any kd w; rw [hvb] at this; exact this
      have NO : Hid (vb = false ∨ nd < 0 ∨ (sn : Int) ≤ nd ∨ (∃ (j : Nat) (s : Sty), nd = j ∧ ss[j]? = some s ∧ 5 < s.a0) → mayB ss l = false) := Lib.hid fun h => by
        refine may_take HC.out ?_
        cases hok : okC ss c with
        | false => rfl
        | true =>
          obtain ⟨h1, j, s, h2, h3, h4, h5⟩ := okC_split.1 hok
          rw [hkd, hvb] at h1
          rw [hnd] at h2
          have hjl := (List.getElem?_eq_some_iff.1 h3).1
          rw [HSN.out] at hjl
          rcases h with h | h | h | ⟨j2, s2, h6, h7, h8⟩
          · rw [h1] at h; cases h
          · omega
          · omega
          · obtain rfl : j = j2 := by omega
            rw [h3] at h7
            cases h7
            omega
      have YES : Hid (∀ (j : Nat) (s : Sty), vb = true → nd = j → ss[j]? = some s → s.a0 ≤ 5 → okC ss c = true ∧ em c = ⟨c, s.a0⟩) := Lib.hid fun j s h1 h2 h3 h5 => by
        refine ⟨okC_split.2 ⟨by rw [hkd, hvb]; exact h1, j, s, by rw [hnd]; exact h2, h3, ?_, h5⟩, ?_⟩
        · rw [hnd, h2]; exact whF_at h3
        · rw [← HEM.out]
          unfold emb
          rw [hnd, h2, whF_at h3]
      clear b1 B1 m2 B2 b2 hb2 O2 hvb hkd hnd
      go_wp2_with fail
      refine (CV.out w2).mono ?_
      rintro e w3 ⟨rfl, rfl⟩
      cases vb
      · go_wp2_with fail
        exact FIN.out (.returned (.tuple #[.slice none 0 0, .int .i64 2])) _ (.inr ⟨NO.out (.inl (by trivial)), rfl, H2.out⟩)
      · by_cases h0 : nd < 0
        · go_wp2_with fail
          exact FIN.out (.returned (.tuple #[.slice none 0 0, .int .i64 2])) _ (.inr ⟨NO.out (.inr (.inl h0)), rfl, H2.out⟩)
        · obtain ⟨j, rfl⟩ : ∃ j : Nat, nd = j := ⟨nd.toNat, by omega⟩
          have h0' : 0 ≤ (j : Int) := by omega
          clear h0
          by_cases hj : j < sn
          · have hjz : (j : Int) < sn := by omega
            obtain ⟨s, hs⟩ : ∃ s, ss[j]? = some s := ⟨_, List.getElem?_eq_getElem (by rw [HSN.out]; exact hj)⟩
            obtain ⟨a3, cap4, o3, hv, hab3, ha3, hLi3⟩ := HS.out.get H2.out hs
            rw [HSN.out] at hv
            injection hv with hv1 hv2 hv3
            subst hv1 hv3
            have q5 : w2.cell? ⟨a3.block, o3, none⟩ = some (.int .u8 s.a0) := by
              have := hLi3 0 (.int .u8 s.a0) rfl
              rwa [Addr.add_lit] at this
            have HSS := Lib.hid hs
            clear hv2 hs
            by_cases h5 : 5 < s.a0
            · have YN := NO.out (.inr (.inr (.inr ⟨j, s, rfl, HSS.out, h5⟩)))
              have HYN := Lib.hid YN
              obtain ⟨z, hz⟩ : ∃ z, s.a0 = z := ⟨_, rfl⟩
              rw [hz] at q5 h5
              clear YN hz hLi3
              go_wp2_with fail
              exact FIN.out (.returned (.tuple #[.slice none 0 0, .int .i64 2])) _ (.inr ⟨HYN.out, rfl, H2.out⟩)
            · obtain ⟨Y1, Y2⟩ := YES.out j s rfl rfl HSS.out (by omega)
              have HY1 := Lib.hid Y1
              have HY2 := Lib.hid Y2
              obtain ⟨z, hz⟩ : ∃ z, s.a0 = z := ⟨_, rfl⟩
              rw [hz] at q5 h5 HY2
              have hdz : decide (5 < z) = false := decide_eq_false h5
              have CC : Hid (∀ W, Below w2.heap.size w2 W → W.cell? ⟨wr.heap.size, 1, none⟩ = some (.int .i64 (j : Int)) ∧ W.cell? ⟨a3.block, o3, none⟩ = some (.int .u8 z) ∧ Lies W ⟨wr.heap.size, 0, none⟩ (chA c)) := Lib.hid fun W h => by
                have hB := HB2.out.keep (S := fun _ => False) (Mod.of_below h) id
                exact ⟨(h.cell (p := ⟨wr.heap.size, 1, none⟩) HB2.out.lt).trans q1, (h.cell (p := ⟨a3.block, o3, none⟩) (World.block_lt_of_cell? _ _ q5)).trans q5, hB.lies⟩
              have hao : (⟨w.heap.size, 0, none⟩ : Addr).add (k * 6) = ⟨w.heap.size, k * 6, none⟩ := by rw [Addr.add_lit, Nat.zero_add]
              clear Y1 Y2 hz hLi3 NO YES
              go_wp2_with fail

              refine region_tail (by kernel_rfl) (fun W => Below w2.heap.size w2 W) (below_drewN (Below.refl _ _) 1) 11 (by rfl) (by kernel_rfl) (by kernel_rfl) (fun R hR => ?_)
              refine AllS.take (i := 0) (v := ?_) (by rw [List.getElem?_toArray]; rfl) (by kernel_rfl) (by kernel_rfl) (by kernel_rfl) (KeepsIf.read (by rfl) ?_) ?_
              rotate_left
              · intro W hSw
                (try dsimp only at hSw)
                obtain ⟨q1', q5', q0'⟩ := CC.out W hSw
                go_simp
                (try with_reducible rfl)
              rotate_left
              (try simp only [Act.put, List.setIfInBounds_toArray, List.set_cons_zero, List.set_cons_succ])
              refine AllS.take (i := 1) (v := ?_) (by rw [List.getElem?_toArray]; rfl) (by kernel_rfl) (by kernel_rfl) (by kernel_rfl) (KeepsIf.read (by rfl) ?_) ?_
              rotate_left
              · intro W hSw
                (try dsimp only at hSw)
                obtain ⟨q1', q5', q0'⟩ := CC.out W hSw
                go_simp
                (try with_reducible rfl)
              rotate_left
              (try simp only [Act.put, List.setIfInBounds_toArray, List.set_cons_zero, List.set_cons_succ])
              refine AllS.take (i := 2) (v := .agg (chA c)) (by rw [List.getElem?_toArray]; rfl) (by kernel_rfl) (by kernel_rfl) (by kernel_rfl) (KeepsIf.read (by rfl) (fun W hSw => ?_)) ?_
              · (try dsimp only at hSw)
                obtain ⟨q1', q5', q0'⟩ := CC.out W hSw
                exact rdC (.tmp 8) rfl _ rfl c q0'
              (try simp only [Act.put, List.setIfInBounds_toArray, List.set_cons_zero, List.set_cons_succ])
              refine AllS.take (i := 3) (v := ?_) (by rw [List.getElem?_toArray]; rfl) (by kernel_rfl) (by kernel_rfl) (by kernel_rfl) (KeepsIf.read (by rfl) ?_) ?_
              rotate_left
              · intro W hSw
                (try dsimp only at hSw)
                obtain ⟨q1', q5', q0'⟩ := CC.out W hSw
                go_simp
                (try with_reducible rfl)
              rotate_left
              (try simp only [Act.put, List.setIfInBounds_toArray, List.set_cons_zero, List.set_cons_succ])
              refine AllS.take (i := 4) (v := ?_) (by rw [List.getElem?_toArray]; rfl) (by kernel_rfl) (by kernel_rfl) (by kernel_rfl) (KeepsIf.read (by rfl) ?_) ?_
              rotate_left
              · intro W hSw
                (try dsimp only at hSw)
                obtain ⟨q1', q5', q0'⟩ := CC.out W hSw
                go_simp
                (try with_reducible rfl)
              rotate_left
              (try simp only [Act.put, List.setIfInBounds_toArray, List.set_cons_zero, List.set_cons_succ])
              refine AllS.take (i := 5) (v := ?_) (by rw [List.getElem?_toArray]; rfl) (by kernel_rfl) (by kernel_rfl) (by kernel_rfl) (KeepsIf.read (by rfl) ?_) ?_
              rotate_left
              · intro W hSw
                (try dsimp only at hSw)
                obtain ⟨q1', q5', q0'⟩ := CC.out W hSw
                go_simp
                (try with_reducible rfl)
              rotate_left
              (try simp only [Act.put, List.setIfInBounds_toArray, List.set_cons_zero, List.set_cons_succ])
              refine AllS.take (i := 6) (v := ?_) (by rw [List.getElem?_toArray]; rfl) (by kernel_rfl) (by kernel_rfl) (by kernel_rfl) (KeepsIf.read (by rfl) ?_) ?_
              rotate_left
              · intro W hSw
                (try dsimp only at hSw)
                obtain ⟨q1', q5', q0'⟩ := CC.out W hSw
                go_simp
                (try with_reducible rfl)
              rotate_left
              (try simp only [Act.put, List.setIfInBounds_toArray, List.set_cons_zero, List.set_cons_succ])
              refine AllS.take (i := 7) (v := ?_) (by rw [List.getElem?_toArray]; rfl) (by kernel_rfl) (by kernel_rfl) (by kernel_rfl) (KeepsIf.read (by rfl) ?_) ?_
              rotate_left
              · intro W hSw
                (try dsimp only at hSw)
                obtain ⟨q1', q5', q0'⟩ := CC.out W hSw
                go_simp
                (try with_reducible rfl)
              rotate_left
              (try simp only [Act.put, List.setIfInBounds_toArray, List.set_cons_zero, List.set_cons_succ])
              refine AllS.take (i := 8) (v := ?_) (by rw [List.getElem?_toArray]; rfl) (by kernel_rfl) (by kernel_rfl) (by kernel_rfl) (KeepsIf.read (by rfl) ?_) ?_
              rotate_left
              · intro W hSw
                (try dsimp only at hSw)
                obtain ⟨q1', q5', q0'⟩ := CC.out W hSw
                go_simp
                (try with_reducible rfl)
              rotate_left
              (try simp only [Act.put, List.setIfInBounds_toArray, List.set_cons_zero, List.set_cons_succ])
              refine AllS.take (i := 9) (v := .agg (cwA ⟨c, z⟩)) (by rw [List.getElem?_toArray]; rfl) (by kernel_rfl) (by kernel_rfl) (by kernel_rfl) (KeepsIf.read (by rfl) (fun W hSw => ?_)) ?_
              · (try dsimp only at hSw)
                kernel_rfl
              (try simp only [Act.put, List.setIfInBounds_toArray, List.set_cons_zero, List.set_cons_succ])
              refine AllS.take (i := 10) (v := ?_) (by rw [List.getElem?_toArray]; rfl) (by kernel_rfl) (by kernel_rfl) (by kernel_rfl) (KeepsIf.read (by rfl) ?_) ?_
              rotate_left
              · intro W hSw
                (try dsimp only at hSw)
                obtain ⟨q1', q5', q0'⟩ := CC.out W hSw
                go_simp
                (try with_reducible rfl)
              rotate_left
              (try simp only [Act.put, List.setIfInBounds_toArray, List.set_cons_zero, List.set_cons_succ])
              refine AllS.done (by kernel_rfl) (hR.out _ ?_) _
              clear hR R

              intro w5 b5
              obtain ⟨cur, OA⟩ := HO2.out.at_
              have OA5 := (HO2.out.below b5).at_
              obtain ⟨cur5, OA5⟩ := OA5
              have hrd : (rd em zCw l k)[k]? = some zCw := rd_at em zCw (by rw [HM.out]; exact hkm)
              have hhas := (OA5.has hrd).le (by simp [cwA])
              refine wpOp_of_wp (by rw [List.getElem?_toArray]; rfl) rfl ?_
              refine wp_storeO 57 (.tmp 54) (.tmp 53) rfl rfl w.heap.size (k * 6) rfl (cwA ⟨c, z⟩) rfl 57 cur5 OA5.hB (iW _) hhas (oneW _) ?_
              intro w6 m6 B6
              have O6 : OwW w.heap.size w6 (.slice (some ⟨w.heap.size, 0, none⟩) m m) (rd em zCw l (k + 1)) := by
                rw [rd_succ em zCw HC.out, HY2.out]
                have := (OA5.set_ hrd B6).ow
                rwa [List.length_set, rd_len em zCw l (by rw [HM.out]; omega), HM.out] at this
              have b6 : Below w.heap.size w w6 := H2.out.trans ((b5.mono H2.out.size).trans (m6.below (Nat.le_trans H2.out.size b5.size) fun j hj => by omega))
              have HOK2 : Hid (∀ i c, i < k + 1 → l[i]? = some c → okC ss c = true) := Lib.hid fun i c2 hi h => by
                by_cases e : i = k
                · subst e
                  rw [HC.out] at h
                  cases h
                  exact HY1.out
                · exact HOK.out i c2 (by omega) h
              clear OA OA5 hrd hhas m6 B6 b5 CC q1 q4 q5 hao
              go_wp2_with fail
              go_roundg (m - (k + 1))
              case measure => omega
              case rel => exact ⟨k + 1, by go_num, by omega, by omega, O6, b6, HOK2⟩
          · have hjz : (sn : Int) ≤ (j : Int) := by omega
            have HYN := Lib.hid (NO.out (.inr (.inr (.inl hjz))))
            clear NO YES hj
            go_wp2_with fail
            exact FIN.out (.returned (.tuple #[.slice none 0 0, .int .i64 2])) _ (.inr ⟨HYN.out, rfl, H2.out⟩)
    · obtain rfl : k = m := by omega
      have HMAY : Hid (mayB ss l = true) := Lib.hid (List.all_eq_true.2 fun c hc => by
        obtain ⟨i, hi⟩ := List.mem_iff_getElem?.1 hc
        exact HOK.out i c (by have := (List.getElem?_eq_some_iff.1 hi).1; rw [HM.out] at this; exact this) hi)
      have hra := rd_all em zCw l
      rw [HM.out] at hra
      rw [hra] at O
      have HO := Lib.hid O
      clear O hra
      go_wp2_with fail
      exact FIN.out (.returned (.tuple #[.slice (some ⟨w.heap.size, 0, none⟩) k k, .int .i64 0])) _ (.inl ⟨HMAY.out, _, rfl, HO.out, b⟩)


/-- what Collapse says -/
def ColPost (w : World) (ss : List Sty) (l : List Cr) (e : Ending) (w' : World) : Prop :=
  (mayB ss l = true ∧ ∃ u, e = .returned (.tuple #[u, .int .i64 0]) ∧ OwC w.heap.size w' u (collapse (whF ss) wideB l) ∧ Below w.heap.size w w') ∨
  (mayB ss l = false ∧ e = .returned (.tuple #[.slice none 0 0, .int .i64 2]) ∧ Below w.heap.size w w')
theorem wideB_ends : wideB 10 = false ∧ wideB 13 = false := by decide +kernel
theorem emb_back (W : Int → Int) (l : List Cr) : (l.map (emb W)).map Cw.c = l := by
  rw [List.map_map]
  exact List.map_id l

set_option maxRecDepth 100000 in
set_option maxHeartbeats 8000000 in
theorem wcollapse_any (l : List Cr) (v : Value) (ss : List Sty) (sv : Value) (w : World) (hR : RwC w v l) (hS : Ss w sv ss) (hlen : l.length ≤ 1048576) (hTab : Tab w) :
    Calls Tryd.prog 10 #[v, sv] w (ColPost w ss l) := by
  have CR := Lib.hid (wread_any l v ss sv w hR hS hlen)
  have HTAB : Hid (∀ W, Below w.heap.size w W → Tab W) := Lib.hid fun W h => hTab.below h
  obtain ⟨L0, hL0⟩ : ∃ L, l.map (emb (whF ss)) = L := ⟨_, rfl⟩
  have hL0l : L0.length ≤ 1048576 := by rw [← hL0, List.length_map]; exact hlen
  have HNINE : Hid (runF wideB L0 9 = (collapse (whF ss) wideB l).map (emb (whF ss))) := Lib.hid (by rw [← hL0]; exact runF_nine wideB_ends l)
  have CR : Hid (Calls Tryd.prog 22 #[v, sv] w fun e w' => (mayB ss l = true ∧ ∃ u, e = .returned (.tuple #[u, .int .i64 0]) ∧ OwW w.heap.size w' u L0 ∧ Below w.heap.size w w') ∨ (mayB ss l = false ∧ e = .returned (.tuple #[.slice none 0 0, .int .i64 2]) ∧ Below w.heap.size w w')) := Lib.hid (CR.out.mono fun e w' h => by
    unfold ReadPost at h
    rw [hL0] at h
    exact h)
  have FIN : Hid (∀ e w', (mayB ss l = true ∧ ∃ u, e = .returned (.tuple #[u, .int .i64 0]) ∧ OwC w.heap.size w' u ((runF wideB L0 9).map Cw.c) ∧ Below w.heap.size w w') ∨ (mayB ss l = false ∧ e = .returned (.tuple #[.slice none 0 0, .int .i64 2]) ∧ Below w.heap.size w w') → ColPost w ss l e w') := Lib.hid fun e w' h => by
    unfold ColPost
    rw [HNINE.out, emb_back] at h
    exact h
  obtain ⟨Q, hQ⟩ : ∃ Q, ColPost w ss l = Q := ⟨_, rfl⟩
  rw [hQ] at FIN ⊢
  obtain ⟨A, cap, rfl⟩ := hR.form
  obtain ⟨B, cap2, rfl⟩ := hS.form
  obtain ⟨m, hm⟩ : ∃ m, l.length = m := ⟨_, rfl⟩
  obtain ⟨sn, hsn⟩ : ∃ m, ss.length = m := ⟨_, rfl⟩
  rw [hm, hsn] at CR ⊢
  clear hQ hL0 hR hS hlen hTab HNINE hm hsn
  go_enter Tryd.func10, Tryd.ntmps10
  go_wp2_with fail
  refine CR.out.mono ?_
  rintro e w1 (⟨hmay, u, rfl, O, b1⟩ | ⟨hmay, rfl, b1⟩)
  · have HMAY := Lib.hid hmay
    have HO := Lib.hid O
    clear O hmay CR
    go_wp2_with fail
    refine (wsteps_any w1).mono ?_
    rintro e w2 ⟨rfl, b2⟩
    have b02 := below_seq b1 b2
    have O2 := HO.out.below b2
    clear b1 b2 HO
    go_wp2_with fail
    go_loopg [6, 23] 9 (fun kx s6 s23 wr => ∃ (k : Nat) (u : Value), u = s6 ∧ s23 = .int .i64 k ∧ k ≤ 9 ∧ kx = 9 - k ∧ OwW w.heap.size wr u (runF wideB L0 k) ∧ Below w.heap.size w wr)
    case atStart => exact ⟨0, _, rfl, rfl, by omega, by omega, O2, b02⟩
    case round =>
      clear O2 b02
      obtain ⟨k, u, rfl, rfl, hk, rfl, O, b⟩ := hrel
      by_cases hkm : k < 9
      · have hkz : (k : Int) < 9 := by omega
        have hix := ixS k hkm
        have HO := Lib.hid O
        have HB := Lib.hid b
        have hi3 : Hid ((Tryd.prog.info? 52).map (·.size) = some (rowS k).size) := Lib.hid (by rw [szS k hkm]; exact iS3)
        have hz3 : Hid (zeroS3.size = (rowS k).size) := Lib.hid (by rw [szS k hkm]; rfl)
        have h13 := Lib.hid (oneS k hkm)
        have CA : Hid (∀ W, OwW w.heap.size W u (runF wideB L0 k) → Below w.heap.size w W → Calls Tryd.prog 24 #[.agg (rowS k), u] W fun e w' => ∃ u', e = .returned u' ∧ OwW w.heap.size w' u' (runF wideB L0 (k + 1)) ∧ Below w.heap.size w w') := Lib.hid fun W h1 h2 =>
          (wap_any k hkm w.heap.size (runF wideB L0 k) u W h1 h2.size (Nat.le_trans (runF_len _ _ _) hL0l) (fun X hX => HTAB.out X (h2.trans hX))).mono fun e w' ⟨u', h3, h4, h5⟩ => ⟨u', h3, h4, h2.trans h5⟩
        have hbs := b.size
        clear O b
        go_wp2_with (first
          | (refine wpList_newS rfl rfl 52 9 rfl rfl (.tmp 25) rfl rfl _ alS3 (rowS k) (fun _ => rfl) (fun _ => rfl) hi3.out hz3.out h13.out ?_; intro w3 b3 B3)
          | (refine wpList_loadL rfl 52 (.tmp 9) rfl _ rfl (rowS k) _ B3.lies uS3 rfl hi3.out ?_))
        refine (CA.out w3 (HO.out.below b3) (HB.out.trans (b3.mono hbs))).mono ?_
        rintro e w4 ⟨u', rfl, O4, b4⟩
        clear b3 B3 hix CA HO
        go_wp2_with fail
        go_roundg (9 - (k + 1))
        case measure => omega
        case rel => exact ⟨k + 1, _, rfl, by go_num, by omega, by omega, O4, b4⟩
      · obtain rfl : k = 9 := by omega
        obtain ⟨wo, rfl⟩ : ∃ wo, wo = wr := ⟨_, rfl⟩
        obtain ⟨L, hL⟩ : ∃ L, runF wideB L0 9 = L := ⟨_, rfl⟩
        rw [hL] at O FIN
        have hLl : L.length ≤ 1048576 := by rw [← hL]; exact Nat.le_trans (runF_len _ _ _) hL0l
        have HR := Lib.hid O.rw_
        obtain ⟨A3, cap3, rfl⟩ := O.rw_.form
        obtain ⟨n, hn⟩ : ∃ n, L.length = n := ⟨_, rfl⟩
        have HN := Lib.hid hn
        rw [hn] at HR hLl ⊢
        have hmk := makeC n (by omega)
        clear O hL hn hL0l HTAB hkm hk
        go_wp2_with fail
        have O0 := own_fullC n hLl wo
        have b0 := below_alloc wo (.cells (madeCells (chA zCr) (n * 5)) 38)
        obtain ⟨w0, hw0⟩ : ∃ w0, wo.alloc (.cells (madeCells (chA zCr) (n * 5)) 38) = w0 := ⟨_, rfl⟩
        rw [hw0] at O0 b0 ⊢
        clear hw0 hmk
        have O0 : OwC wo.heap.size w0 (.slice (some ⟨wo.heap.size, 0, none⟩) n n) (rd Cw.c zCr L 0) := by rw [rd_zero, HN.out]; exact O0
        have HB := Lib.hid b
        have hbs := b.size
        clear b
        go_loopg [35] n (fun kx s35 wr => ∃ j : Nat, s35 = .int .i64 j ∧ j ≤ n ∧ kx = n - j ∧ OwC wo.heap.size wr (.slice (some ⟨wo.heap.size, 0, none⟩) n n) (rd Cw.c zCr L j) ∧ Below wo.heap.size wo wr)
        case atStart => exact ⟨0, rfl, by omega, by omega, O0, b0⟩
        case round =>
          clear O0 b0
          obtain ⟨j, rfl, hj, rfl, O, b⟩ := hrel
          by_cases hjn : j < n
          · obtain ⟨c, hc⟩ := atW_of (l := L) (i := j) (by rw [HN.out]; exact hjn)
            obtain ⟨a2, cap4, o, hv, hab, ha, hLi⟩ := HR.out.get b hc
            rw [HN.out] at hv
            injection hv with hv1 hv2 hv3
            subst hv1 hv3
            have HO := Lib.hid O
            have HBX := Lib.hid b
            have HC := Lib.hid hc
            have hbx := b.size
            have hjz : (j : Int) < n := by omega
            have hao : (⟨wo.heap.size, 0, none⟩ : Addr).add (j * 5) = ⟨wo.heap.size, j * 5, none⟩ := by rw [Addr.add_lit, Nat.zero_add]
            clear hv2 O b hc
            go_wp2_with (first
              | (refine ldW rfl (.tmp 38) rfl _ rfl c (ha ▸ hLi) ?_)
              | (refine alWV rfl rfl ?_; intro w3 b3 B3)
              | (refine stW rfl (.tmp 12) (.tmp 39) rfl rfl _ rfl c rfl zCw B3 ?_; intro w4 m4 B4; refine Mk.out ?_))
            constructor
            have b4 : Below wr.heap.size wr w4 := b3.trans (m4.below b3.size fun k hk => by omega)
            have LC : Lies w4 ⟨wr.heap.size, 0, none⟩ (chA c.c) := B4.part 0 (fun i u hu => by
              have hi : i < 5 := (Array.getElem?_eq_some_iff.1 hu).1
              rcases (show i = 0 ∨ i = 1 ∨ i = 2 ∨ i = 3 ∨ i = 4 from by omega) with rfl | rfl | rfl | rfl | rfl <;> exact hu)
            have O4 := HO.out.below b4
            obtain ⟨cur, OA⟩ := O4.at_
            have hrd : (rd Cw.c zCr L j)[j]? = some zCr := rd_at Cw.c zCr (by rw [HN.out]; exact hjn)
            have hhas := Lib.hid ((OA.has hrd).le (by simp [chA]))
            have HOA := Lib.hid OA
            have H4 := Lib.hid b4
            have hb4s := b4.size
            clear O4 OA b3 B3 m4 B4 b4
            go_wp2_with (first
              | (refine ldC rfl (.tmp 42) rfl _ rfl c.c LC ?_)
              | (refine wpList_storeO rfl 38 (.tmp 44) (.tmp 43) rfl rfl wo.heap.size (j * 5) rfl (chA c.c) rfl 38 cur HOA.out.hB (iC _) hhas.out (oneC _) ?_; intro w5 m5 B5; refine Mk.out ?_))
            constructor
            have O6 : OwC wo.heap.size w5 (.slice (some ⟨wo.heap.size, 0, none⟩) n n) (rd Cw.c zCr L (j + 1)) := by
              rw [rd_succ Cw.c zCr HC.out]
              have := (HOA.out.set_ hrd B5).ow
              rwa [List.length_set, rd_len Cw.c zCr L (by rw [HN.out]; omega), HN.out] at this
            have b6 : Below wo.heap.size wo w5 := HBX.out.trans ((H4.out.mono hbx).trans (m5.below (Nat.le_trans hbx hb4s) fun j hj => by omega))
            clear hrd hhas HOA m5 B5 H4 LC hao
            go_wp2_with fail
            go_roundg (n - (j + 1))
            case measure => omega
            case rel => exact ⟨j + 1, by go_num, by omega, by omega, O6, b6⟩
          · obtain rfl : j = n := by omega
            have hra := rd_all Cw.c zCr L
            rw [HN.out] at hra
            rw [hra] at O
            have HO := Lib.hid (O.base_ hbs)
            clear O hra
            go_wp2_with fail
            exact FIN.out (.returned (.tuple #[.slice (some ⟨wo.heap.size, 0, none⟩) j j, .int .i64 0])) _ (.inl ⟨HMAY.out, _, rfl, HO.out, HB.out.trans (b.mono hbs)⟩)
  · have HMAY := Lib.hid hmay
    clear hmay CR
    go_wp2_with fail
    exact FIN.out (.returned (.tuple #[.slice none 0 0, .int .i64 2])) _ (.inr ⟨HMAY.out, rfl, b1⟩)
end Go.Proofs.YtejcfhfmdijimaaDoor
