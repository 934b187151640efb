/- Contract of arena.checkNode. Conditions as for Check. -/
import Derived.Test.YtgpobhnonjdamaaDoorAr6c
namespace Go.Proofs.YtgpobhnonjdamaaDoor
open Go.ChangeShapes Go.WideShapes Go.ChangeAt Go.RowKit

/-! ### one node -/
theorem depA_pos {pre : List Nod} {last tgt : Int} (h : PreOk pre last) (h0 : 0 < pre.length) (hd : 0 ≤ depA (psOf pre) tgt last) : 0 ≤ tgt ∧ tgt < pre.length := by
  rcases h.tree with ⟨h1, _⟩ | ⟨h1, _⟩
  · omega
  · by_cases h6 : 0 ≤ tgt ∧ Abv (psOf pre) tgt.toNat ((psOf pre).length - 1)
    · have := h6.2.le h1
      rw [psOf_len] at this
      omega
    · rw [depA_non h1 (fun h7 h8 => h6 ⟨h7, h8⟩)] at hd
      omega
theorem kindAt_take {l : List Nod} {n : Nat} {p : Int} (h0 : 0 ≤ p) (h : p < n) : kindAt (l.take n) p = kindAt l p := by
  unfold kindAt
  rw [List.getD_eq_getElem?_getD, List.getD_eq_getElem?_getD, List.getElem?_take_of_lt (by omega)]

set_option maxRecDepth 100000 in
set_option maxHeartbeats 8000000 in
theorem acn_any (l : List Nod) (v : Value) (n : Nat) (x : Nod) (last : Int) (w : World) (hR : Ns w v l) (hW : WfL l) (hlen : l.length ≤ 1048576) (hx : l[n]? = some x) (hP : PreOk (l.take n) last) (hTab : Tab w) :
    Calls Tryd.prog 43 #[v, .int .i64 (n : Int), .int .i64 last] w fun e w' => e = .returned (.tuple #[.int .i64 (nodeErr (l.take n) x last).2, .int .i64 (nodeErr (l.take n) x last).1]) ∧ Below w.heap.size w w' := by
  have hn : n < l.length := (List.getElem?_eq_some_iff.1 hx).1
  have hlt : (l.take n).length = n := by rw [List.length_take]; omega
  have C1 := Lib.hid (adepa_any l v n x last w hR hlen hx hP)
  have hwx := hW n x hx
  have hTp := hTab.pos
  obtain ⟨dA, hdA⟩ : ∃ d, depA (psOf (l.take n)) x.p last = d := ⟨_, rfl⟩
  have hne : nodeErr (l.take n) x last = if dA < 0 ∨ vKind (decide (n = 0)) x.k (kindAt (l.take n) x.p) = false then (70, 0) else if 64 < dA then (71, 0) else if vldD x.d = false then (60, 0) else if vFields x (decide (0 < n) && kindAt (l.take n) x.p == 5) = false then (2, 0) else (0, dA) := by
    unfold nodeErr
    rw [hdA, hlt]
  by_cases hd0 : dA < 0
  · have hne2 : nodeErr (l.take n) x last = (70, 0) := by rw [hne, if_pos (.inl hd0)]
    rw [hne2]
    rw [hdA] at C1
    clear hne hne2 hdA hP hR hW hx
    go_enter Tryd.func43, Tryd.ntmps43
    go_wp2_with fail
    refine C1.out.mono ?_
    rintro e w2 ⟨rfl, rfl⟩
    go_wp2_with fail
    go_ret2
    exact ⟨rfl, Below.refl _ _⟩
  · have hpp : 0 < n → 0 ≤ x.p ∧ x.p < n := fun h0 => by
      have := depA_pos hP (by omega) (by omega : 0 ≤ depA (psOf (l.take n)) x.p last)
      rwa [hlt] at this
    have hkk : 0 < n → kindAt (l.take n) x.p = kindAt l x.p := fun h0 => by
      obtain ⟨q1, q2⟩ := hpp h0
      exact kindAt_take q1 q2
    have hkr : 0 < n → 0 ≤ kindAt l x.p ∧ kindAt l x.p ≤ 8 := fun h0 => by
      obtain ⟨q1, q2⟩ := hpp h0
      obtain ⟨y, hy⟩ := at_of (l := l) (i := x.p.toNat) (by omega)
      have e1 : kindAt l x.p = y.k := by unfold kindAt; rw [List.getD_eq_getElem?_getD, hy]; rfl
      have h2 := (hP.all x.p.toNat y (by rw [List.getElem?_take_of_lt (by omega)]; exact hy)).kind
      have h3 := (hW _ y hy).k0
      omega
    have C2 := Lib.hid (avkind_any l v n x w hR hx hwx.k0 hTab hpp hkr)
    have hvk : vKind (decide (n = 0)) x.k (kindAt (l.take n) x.p) = vKind (decide (n = 0)) x.k (kindAt l x.p) := by
      rcases Nat.eq_zero_or_pos n with h0 | h0
      · subst h0; rfl
      · rw [hkk h0]
    have hit : (decide (0 < n) && kindAt (l.take n) x.p == 5) = (decide (0 < n) && kindAt l x.p == 5) := by
      rcases Nat.eq_zero_or_pos n with h0 | h0
      · subst h0; rfl
      · rw [hkk h0]
    rw [hvk, hit] at hne
    rw [hdA] at C1
    cases hvv : vKind (decide (n = 0)) x.k (kindAt l x.p)
    · have hne2 : nodeErr (l.take n) x last = (70, 0) := by rw [hne, if_pos (.inr hvv)]
      rw [hne2]
      rw [hvv] at C2
      clear hne hne2 hdA hP hR hW hx hvk hit hvv hpp hkk hkr
      go_enter Tryd.func43, Tryd.ntmps43
      go_wp2_with fail
      refine C1.out.mono ?_
      rintro e w2 ⟨rfl, rfl⟩
      go_wp2_with fail
      refine C2.out.mono ?_
      rintro e w2 ⟨rfl, rfl⟩
      go_wp2_with fail
      go_ret2
      exact ⟨rfl, Below.refl _ _⟩
    · rw [hvv] at C2
      rw [if_neg (by rw [hvv]; simp; omega)] at hne
      by_cases h64 : 64 < dA
      · rw [if_pos h64] at hne
        rw [hne]
        clear hne hdA hP hR hW hx hvk hit hvv hpp hkk hkr
        go_enter Tryd.func43, Tryd.ntmps43
        go_wp2_with fail
        refine C1.out.mono ?_
        rintro e w2 ⟨rfl, rfl⟩
        go_wp2_with fail
        refine C2.out.mono ?_
        rintro e w2 ⟨rfl, rfl⟩
        go_wp2_with fail
        go_ret2
        exact ⟨rfl, Below.refl _ _⟩
      · rw [if_neg h64] at hne
        have hk8 : x.k ≤ 8 := (kind_le hvv).1
        have CD := Lib.hid (fun W => ychkd_any x.d W hwx.d)
        have CF : Hid (∀ (b : Bool) (W : World), Below w.heap.size w W → Calls Tryd.prog 61 #[.agg x.cells, .bool b] W fun e w' => e = .returned (.bool (vFields x b)) ∧ Below W.heap.size W w') := fun b W hW => avf_any x b W (hTab.below hTp hW) hwx.k0 hk8
        obtain ⟨ad, cap, o, hv, hab, ha, hLi⟩ := hR.get (Below.refl _ _) hx
        have HRR := Lib.hid hR
        have HLI := Lib.hid hLi
        have HX := Lib.hid hx
        obtain ⟨m, hm⟩ : ∃ m, l.length = m := ⟨_, rfl⟩
        have HM := Lib.hid hm
        rw [hm] at hv hn
        subst hv
        have hnz : (n : Int) < m := by omega
        clear hdA hP hR hW hvk hit hvv hkk hwx hTab hLi hm hx
        rcases chkD_cases x.d with ⟨hv, hc⟩ | ⟨hv, hc⟩
        · rw [if_neg (by rw [hv]; simp)] at hne
          rw [hc] at CD
          clear hv hc
          by_cases hn0 : n = 0
          · have hit2 : (decide (0 < n) && kindAt l x.p == 5) = false := by subst hn0; rfl
            rw [hit2] at hne
            clear hit2 hpp hkr
            have CF2 := Lib.hid (CF.out false)
            clear CF
            have hng : ¬ 0 < (n : Int) := by omega
            have HN0 := Lib.hid hn0
            clear hn0
            cases hvf : vFields x false
            · rw [hvf, if_pos rfl] at hne
              rw [hvf] at CF2
              rw [hne]
              clear hne hvf
              have hLd := HLI.out.d
              go_enter Tryd.func43, Tryd.ntmps43
              go_wp2_with fail
              refine C1.out.mono ?_
              rintro e w2 ⟨rfl, rfl⟩
              go_wp2_with fail
              refine C2.out.mono ?_
              rintro e w2 ⟨rfl, rfl⟩
              go_wp2_with (refine ldD rfl (.tmp 26) rfl _ rfl x.d hLd ?_)
              refine (CD.out _).mono ?_
              rintro e w2 ⟨rfl, b2⟩
              clear hLd C1 C2 CD
              go_wp2_with fail
              refine region_any (by kernel_rfl) (fun W => Below w2.heap.size w2 W) (below_drewN (Below.refl _ _) 1) (fun R hR => ?_)
              refine AllS.take (i := 0) (v := ?_) (by rw [List.getElem?_toArray]; rfl) (by kernel_rfl) (by kernel_rfl) (by kernel_rfl) (KeepsIf.read (by rfl) ?_) ?_
              rotate_left
              · intro W hSw
                (try dsimp only at hSw)
                go_simp
                (try with_reducible rfl)
              rotate_left
              (try simp only [Act.put, List.setIfInBounds_toArray, List.set_cons_zero, List.set_cons_succ])
              refine AllS.take (i := 1) (v := ?_) (by rw [List.getElem?_toArray]; rfl) (by kernel_rfl) (by kernel_rfl) (by kernel_rfl) (KeepsIf.read (by rfl) ?_) ?_
              rotate_left
              · intro W hSw
                (try dsimp only at hSw)
                go_simp
                (try with_reducible rfl)
              rotate_left
              (try simp only [Act.put, List.setIfInBounds_toArray, List.set_cons_zero, List.set_cons_succ])
              refine AllS.take (i := 2) (v := ?_) (by rw [List.getElem?_toArray]; rfl) (by kernel_rfl) (by kernel_rfl) (by kernel_rfl) (KeepsIf.read (by rfl) ?_) ?_
              rotate_left
              · intro W hSw
                (try dsimp only at hSw)
                go_simp
                (try with_reducible rfl)
              rotate_left
              (try simp only [Act.put, List.setIfInBounds_toArray, List.set_cons_zero, List.set_cons_succ])
              refine AllS.take (i := 3) (v := .agg x.cells) (by rw [List.getElem?_toArray]; rfl) (by kernel_rfl) (by kernel_rfl) (by kernel_rfl) (KeepsIf.read (by rfl) (fun W hSw => ?_)) ?_
              · (try dsimp only at hSw)
                exact rdN (.tmp 32) rfl _ rfl x (ha ▸ HLI.out.below (below_seq b2 hSw))
              (try simp only [Act.put, List.setIfInBounds_toArray, List.set_cons_zero, List.set_cons_succ])
              refine AllS.take (i := 4) (v := ?_) (by rw [List.getElem?_toArray]; rfl) (by kernel_rfl) (by kernel_rfl) (by kernel_rfl) (KeepsIf.read (by rfl) ?_) ?_
              rotate_left
              · intro W hSw
                (try dsimp only at hSw)
                go_simp
                (try with_reducible rfl)
              rotate_left
              (try simp only [Act.put, List.setIfInBounds_toArray, List.set_cons_zero, List.set_cons_succ])
              refine AllS.take (i := 5) (v := .bool false) (by rw [List.getElem?_toArray]; rfl) (by kernel_rfl) (by kernel_rfl) (by kernel_rfl) (KeepsIf.read (by rfl) (fun W hSw => ?_)) ?_
              · (try dsimp only at hSw)
                go_simp; exact HN0.out
              (try simp only [Act.put, List.setIfInBounds_toArray, List.set_cons_zero, List.set_cons_succ])
              refine AllS.take (i := 6) (v := ?_) (by rw [List.getElem?_toArray]; rfl) (by kernel_rfl) (by kernel_rfl) (by kernel_rfl) (KeepsIf.read (by rfl) ?_) ?_
              rotate_left
              · intro W hSw
                (try dsimp only at hSw)
                go_simp
                (try with_reducible rfl)
              rotate_left
              (try simp only [Act.put, List.setIfInBounds_toArray, List.set_cons_zero, List.set_cons_succ])
              refine AllS.take (i := 7) (v := undef) (by rw [List.getElem?_toArray]; rfl) (by kernel_rfl) (by kernel_rfl) (by kernel_rfl) (KeepsIf.un (by kernel_rfl)) ?_
              (try simp only [Act.put, List.setIfInBounds_toArray, List.set_cons_zero, List.set_cons_succ])
              refine AllS.take (i := 8) (v := undef) (by rw [List.getElem?_toArray]; rfl) (by kernel_rfl) (by kernel_rfl) (by kernel_rfl) (KeepsIf.un (by kernel_rfl)) ?_
              (try simp only [Act.put, List.setIfInBounds_toArray, List.set_cons_zero, List.set_cons_succ])
              refine AllS.take (i := 9) (v := undef) (by rw [List.getElem?_toArray]; rfl) (by kernel_rfl) (by kernel_rfl) (by kernel_rfl) (KeepsIf.un (by kernel_rfl)) ?_
              (try simp only [Act.put, List.setIfInBounds_toArray, List.set_cons_zero, List.set_cons_succ])
              refine AllS.take (i := 10) (v := undef) (by rw [List.getElem?_toArray]; rfl) (by kernel_rfl) (by kernel_rfl) (by kernel_rfl) (KeepsIf.un (by kernel_rfl)) ?_
              (try simp only [Act.put, List.setIfInBounds_toArray, List.set_cons_zero, List.set_cons_succ])
              refine AllS.take (i := 11) (v := undef) (by rw [List.getElem?_toArray]; rfl) (by kernel_rfl) (by kernel_rfl) (by kernel_rfl) (KeepsIf.un (by kernel_rfl)) ?_
              (try simp only [Act.put, List.setIfInBounds_toArray, List.set_cons_zero, List.set_cons_succ])
              refine AllS.take (i := 12) (v := undef) (by rw [List.getElem?_toArray]; rfl) (by kernel_rfl) (by kernel_rfl) (by kernel_rfl) (KeepsIf.un (by kernel_rfl)) ?_
              (try simp only [Act.put, List.setIfInBounds_toArray, List.set_cons_zero, List.set_cons_succ])
              refine AllS.take (i := 13) (v := undef) (by rw [List.getElem?_toArray]; rfl) (by kernel_rfl) (by kernel_rfl) (by kernel_rfl) (KeepsIf.un (by kernel_rfl)) ?_
              (try simp only [Act.put, List.setIfInBounds_toArray, List.set_cons_zero, List.set_cons_succ])
              refine AllS.take (i := 14) (v := undef) (by rw [List.getElem?_toArray]; rfl) (by kernel_rfl) (by kernel_rfl) (by kernel_rfl) (KeepsIf.un (by kernel_rfl)) ?_
              (try simp only [Act.put, List.setIfInBounds_toArray, List.set_cons_zero, List.set_cons_succ])
              refine AllS.take (i := 15) (v := undef) (by rw [List.getElem?_toArray]; rfl) (by kernel_rfl) (by kernel_rfl) (by kernel_rfl) (KeepsIf.un (by kernel_rfl)) ?_
              (try simp only [Act.put, List.setIfInBounds_toArray, List.set_cons_zero, List.set_cons_succ])
              refine AllS.take (i := 16) (v := undef) (by rw [List.getElem?_toArray]; rfl) (by kernel_rfl) (by kernel_rfl) (by kernel_rfl) (KeepsIf.un (by kernel_rfl)) ?_
              (try simp only [Act.put, List.setIfInBounds_toArray, List.set_cons_zero, List.set_cons_succ])
              refine AllS.take (i := 17) (v := ?_) (by rw [List.getElem?_toArray]; rfl) (by kernel_rfl) (by kernel_rfl) (by kernel_rfl) (KeepsIf.read (by rfl) ?_) ?_
              rotate_left
              · intro W hSw
                (try dsimp only at hSw)
                go_simp
                (try with_reducible rfl)
              rotate_left
              (try simp only [Act.put, List.setIfInBounds_toArray, List.set_cons_zero, List.set_cons_succ])
              refine AllS.take (i := 18) (v := .bool false) (by rw [List.getElem?_toArray]; rfl) (by kernel_rfl) (by kernel_rfl) (by kernel_rfl) (KeepsIf.call 61 #[.agg x.cells, .bool false] (by kernel_rfl) (fun W => ?_) (fun W hSw => ?_)) ?_
              · go_simp
              · exact (CF2.out W (below_seq b2 hSw)).mono (fun e w3 h => ⟨h.1, below_seq hSw h.2⟩)
              (try simp only [Act.put, List.setIfInBounds_toArray, List.set_cons_zero, List.set_cons_succ])
              refine AllS.take (i := 19) (v := ?_) (by rw [List.getElem?_toArray]; rfl) (by kernel_rfl) (by kernel_rfl) (by kernel_rfl) (KeepsIf.read (by rfl) ?_) ?_
              rotate_left
              · intro W hSw
                (try dsimp only at hSw)
                go_simp
                (try with_reducible rfl)
              rotate_left
              (try simp only [Act.put, List.setIfInBounds_toArray, List.set_cons_zero, List.set_cons_succ])
              refine AllS.done (by kernel_rfl) (hR.out _ ?_) _
              clear hR R
              intro w3 b3
              go_wp2_with fail
              go_ret2
              exact ⟨rfl, below_seq b2 b3⟩
            · rw [hvf, if_neg (by simp)] at hne
              rw [hvf] at CF2
              rw [hne]
              clear hne hvf
              have hLd := HLI.out.d
              go_enter Tryd.func43, Tryd.ntmps43
              go_wp2_with fail
              refine C1.out.mono ?_
              rintro e w2 ⟨rfl, rfl⟩
              go_wp2_with fail
              refine C2.out.mono ?_
              rintro e w2 ⟨rfl, rfl⟩
              go_wp2_with (refine ldD rfl (.tmp 26) rfl _ rfl x.d hLd ?_)
              refine (CD.out _).mono ?_
              rintro e w2 ⟨rfl, b2⟩
              clear hLd C1 C2 CD
              go_wp2_with fail
              refine region_any (by kernel_rfl) (fun W => Below w2.heap.size w2 W) (below_drewN (Below.refl _ _) 1) (fun R hR => ?_)
              refine AllS.take (i := 0) (v := ?_) (by rw [List.getElem?_toArray]; rfl) (by kernel_rfl) (by kernel_rfl) (by kernel_rfl) (KeepsIf.read (by rfl) ?_) ?_
              rotate_left
              · intro W hSw
                (try dsimp only at hSw)
                go_simp
                (try with_reducible rfl)
              rotate_left
              (try simp only [Act.put, List.setIfInBounds_toArray, List.set_cons_zero, List.set_cons_succ])
              refine AllS.take (i := 1) (v := ?_) (by rw [List.getElem?_toArray]; rfl) (by kernel_rfl) (by kernel_rfl) (by kernel_rfl) (KeepsIf.read (by rfl) ?_) ?_
              rotate_left
              · intro W hSw
                (try dsimp only at hSw)
                go_simp
                (try with_reducible rfl)
              rotate_left
              (try simp only [Act.put, List.setIfInBounds_toArray, List.set_cons_zero, List.set_cons_succ])
              refine AllS.take (i := 2) (v := ?_) (by rw [List.getElem?_toArray]; rfl) (by kernel_rfl) (by kernel_rfl) (by kernel_rfl) (KeepsIf.read (by rfl) ?_) ?_
              rotate_left
              · intro W hSw
                (try dsimp only at hSw)
                go_simp
                (try with_reducible rfl)
              rotate_left
              (try simp only [Act.put, List.setIfInBounds_toArray, List.set_cons_zero, List.set_cons_succ])
              refine AllS.take (i := 3) (v := .agg x.cells) (by rw [List.getElem?_toArray]; rfl) (by kernel_rfl) (by kernel_rfl) (by kernel_rfl) (KeepsIf.read (by rfl) (fun W hSw => ?_)) ?_
              · (try dsimp only at hSw)
                exact rdN (.tmp 32) rfl _ rfl x (ha ▸ HLI.out.below (below_seq b2 hSw))
              (try simp only [Act.put, List.setIfInBounds_toArray, List.set_cons_zero, List.set_cons_succ])
              refine AllS.take (i := 4) (v := ?_) (by rw [List.getElem?_toArray]; rfl) (by kernel_rfl) (by kernel_rfl) (by kernel_rfl) (KeepsIf.read (by rfl) ?_) ?_
              rotate_left
              · intro W hSw
                (try dsimp only at hSw)
                go_simp
                (try with_reducible rfl)
              rotate_left
              (try simp only [Act.put, List.setIfInBounds_toArray, List.set_cons_zero, List.set_cons_succ])
              refine AllS.take (i := 5) (v := .bool false) (by rw [List.getElem?_toArray]; rfl) (by kernel_rfl) (by kernel_rfl) (by kernel_rfl) (KeepsIf.read (by rfl) (fun W hSw => ?_)) ?_
              · (try dsimp only at hSw)
                go_simp; exact HN0.out
              (try simp only [Act.put, List.setIfInBounds_toArray, List.set_cons_zero, List.set_cons_succ])
              refine AllS.take (i := 6) (v := ?_) (by rw [List.getElem?_toArray]; rfl) (by kernel_rfl) (by kernel_rfl) (by kernel_rfl) (KeepsIf.read (by rfl) ?_) ?_
              rotate_left
              · intro W hSw
                (try dsimp only at hSw)
                go_simp
                (try with_reducible rfl)
              rotate_left
              (try simp only [Act.put, List.setIfInBounds_toArray, List.set_cons_zero, List.set_cons_succ])
              refine AllS.take (i := 7) (v := undef) (by rw [List.getElem?_toArray]; rfl) (by kernel_rfl) (by kernel_rfl) (by kernel_rfl) (KeepsIf.un (by kernel_rfl)) ?_
              (try simp only [Act.put, List.setIfInBounds_toArray, List.set_cons_zero, List.set_cons_succ])
              refine AllS.take (i := 8) (v := undef) (by rw [List.getElem?_toArray]; rfl) (by kernel_rfl) (by kernel_rfl) (by kernel_rfl) (KeepsIf.un (by kernel_rfl)) ?_
              (try simp only [Act.put, List.setIfInBounds_toArray, List.set_cons_zero, List.set_cons_succ])
              refine AllS.take (i := 9) (v := undef) (by rw [List.getElem?_toArray]; rfl) (by kernel_rfl) (by kernel_rfl) (by kernel_rfl) (KeepsIf.un (by kernel_rfl)) ?_
              (try simp only [Act.put, List.setIfInBounds_toArray, List.set_cons_zero, List.set_cons_succ])
              refine AllS.take (i := 10) (v := undef) (by rw [List.getElem?_toArray]; rfl) (by kernel_rfl) (by kernel_rfl) (by kernel_rfl) (KeepsIf.un (by kernel_rfl)) ?_
              (try simp only [Act.put, List.setIfInBounds_toArray, List.set_cons_zero, List.set_cons_succ])
              refine AllS.take (i := 11) (v := undef) (by rw [List.getElem?_toArray]; rfl) (by kernel_rfl) (by kernel_rfl) (by kernel_rfl) (KeepsIf.un (by kernel_rfl)) ?_
              (try simp only [Act.put, List.setIfInBounds_toArray, List.set_cons_zero, List.set_cons_succ])
              refine AllS.take (i := 12) (v := undef) (by rw [List.getElem?_toArray]; rfl) (by kernel_rfl) (by kernel_rfl) (by kernel_rfl) (KeepsIf.un (by kernel_rfl)) ?_
              (try simp only [Act.put, List.setIfInBounds_toArray, List.set_cons_zero, List.set_cons_succ])
              refine AllS.take (i := 13) (v := undef) (by rw [List.getElem?_toArray]; rfl) (by kernel_rfl) (by kernel_rfl) (by kernel_rfl) (KeepsIf.un (by kernel_rfl)) ?_
              (try simp only [Act.put, List.setIfInBounds_toArray, List.set_cons_zero, List.set_cons_succ])
              refine AllS.take (i := 14) (v := undef) (by rw [List.getElem?_toArray]; rfl) (by kernel_rfl) (by kernel_rfl) (by kernel_rfl) (KeepsIf.un (by kernel_rfl)) ?_
              (try simp only [Act.put, List.setIfInBounds_toArray, List.set_cons_zero, List.set_cons_succ])
              refine AllS.take (i := 15) (v := undef) (by rw [List.getElem?_toArray]; rfl) (by kernel_rfl) (by kernel_rfl) (by kernel_rfl) (KeepsIf.un (by kernel_rfl)) ?_
              (try simp only [Act.put, List.setIfInBounds_toArray, List.set_cons_zero, List.set_cons_succ])
              refine AllS.take (i := 16) (v := undef) (by rw [List.getElem?_toArray]; rfl) (by kernel_rfl) (by kernel_rfl) (by kernel_rfl) (KeepsIf.un (by kernel_rfl)) ?_
              (try simp only [Act.put, List.setIfInBounds_toArray, List.set_cons_zero, List.set_cons_succ])
              refine AllS.take (i := 17) (v := ?_) (by rw [List.getElem?_toArray]; rfl) (by kernel_rfl) (by kernel_rfl) (by kernel_rfl) (KeepsIf.read (by rfl) ?_) ?_
              rotate_left
              · intro W hSw
                (try dsimp only at hSw)
                go_simp
                (try with_reducible rfl)
              rotate_left
              (try simp only [Act.put, List.setIfInBounds_toArray, List.set_cons_zero, List.set_cons_succ])
              refine AllS.take (i := 18) (v := .bool true) (by rw [List.getElem?_toArray]; rfl) (by kernel_rfl) (by kernel_rfl) (by kernel_rfl) (KeepsIf.call 61 #[.agg x.cells, .bool false] (by kernel_rfl) (fun W => ?_) (fun W hSw => ?_)) ?_
              · go_simp
              · exact (CF2.out W (below_seq b2 hSw)).mono (fun e w3 h => ⟨h.1, below_seq hSw h.2⟩)
              (try simp only [Act.put, List.setIfInBounds_toArray, List.set_cons_zero, List.set_cons_succ])
              refine AllS.take (i := 19) (v := ?_) (by rw [List.getElem?_toArray]; rfl) (by kernel_rfl) (by kernel_rfl) (by kernel_rfl) (KeepsIf.read (by rfl) ?_) ?_
              rotate_left
              · intro W hSw
                (try dsimp only at hSw)
                go_simp
                (try with_reducible rfl)
              rotate_left
              (try simp only [Act.put, List.setIfInBounds_toArray, List.set_cons_zero, List.set_cons_succ])
              refine AllS.done (by kernel_rfl) (hR.out _ ?_) _
              clear hR R
              intro w3 b3
              go_wp2_with fail
              go_ret2
              exact ⟨rfl, below_seq b2 b3⟩
          · have h0n : 0 < n := by omega
            have hng : 0 < (n : Int) := by omega
            obtain ⟨q1, q2⟩ := hpp h0n
            obtain ⟨k0, k8⟩ := hkr h0n
            obtain ⟨pk, hpk⟩ : ∃ pk : Nat, x.p = pk := ⟨x.p.toNat, by omega⟩
            have hpkn : pk < n := by omega
            have hpl : pk < l.length := by rw [HM.out]; omega
            obtain ⟨y, hy⟩ := at_of hpl
            have hky : kindAt l x.p = y.k := by unfold kindAt; rw [hpk, List.getD_eq_getElem?_getD, Int.toNat_natCast, hy]; rfl
            obtain ⟨ad2, cap2, o2, hv2, _, ha2, hLi2⟩ := HRR.out.get (Below.refl _ _) hy
            rw [HM.out] at hv2
            injection hv2 with hv3 hv4 hv5
            injection hv3 with hv3
            subst hv3 hv5
            have HLI2 := Lib.hid hLi2
            have HPK := Lib.hid hpk
            obtain ⟨ky, hkyy⟩ : ∃ k, y.k = k := ⟨_, rfl⟩
            have HKY := Lib.hid hkyy
            rw [hky, hkyy, decide_eq_true h0n, Bool.true_and] at hne
            have hpz : (pk : Int) < m := by omega
            clear hpp hkr q1 q2 k0 k8 hpl hy hky hv4 hLi2 hpk hkyy
            obtain ⟨bi, hbi⟩ : ∃ b, (ky == 5) = b := ⟨_, rfl⟩
            have HBI := Lib.hid hbi
            rw [hbi] at hne
            have CF2 := Lib.hid (CF.out bi)
            clear CF hbi
            cases hvf : vFields x bi
            · rw [hvf, if_pos rfl] at hne
              rw [hvf] at CF2
              rw [hne]
              clear hne hvf
              have hLd := HLI.out.d
              go_enter Tryd.func43, Tryd.ntmps43
              go_wp2_with fail
              refine C1.out.mono ?_
              rintro e w2 ⟨rfl, rfl⟩
              go_wp2_with fail
              refine C2.out.mono ?_
              rintro e w2 ⟨rfl, rfl⟩
              go_wp2_with (refine ldD rfl (.tmp 26) rfl _ rfl x.d hLd ?_)
              refine (CD.out _).mono ?_
              rintro e w2 ⟨rfl, b2⟩
              clear hLd C1 C2 CD
              go_wp2_with fail
              refine region_any (by kernel_rfl) (fun W => Below w2.heap.size w2 W) (below_drewN (Below.refl _ _) 1) (fun R hR => ?_)
              refine AllS.take (i := 0) (v := ?_) (by rw [List.getElem?_toArray]; rfl) (by kernel_rfl) (by kernel_rfl) (by kernel_rfl) (KeepsIf.read (by rfl) ?_) ?_
              rotate_left
              · intro W hSw
                (try dsimp only at hSw)
                go_simp
                (try with_reducible rfl)
              rotate_left
              (try simp only [Act.put, List.setIfInBounds_toArray, List.set_cons_zero, List.set_cons_succ])
              refine AllS.take (i := 1) (v := ?_) (by rw [List.getElem?_toArray]; rfl) (by kernel_rfl) (by kernel_rfl) (by kernel_rfl) (KeepsIf.read (by rfl) ?_) ?_
              rotate_left
              · intro W hSw
                (try dsimp only at hSw)
                go_simp
                (try with_reducible rfl)
              rotate_left
              (try simp only [Act.put, List.setIfInBounds_toArray, List.set_cons_zero, List.set_cons_succ])
              refine AllS.take (i := 2) (v := ?_) (by rw [List.getElem?_toArray]; rfl) (by kernel_rfl) (by kernel_rfl) (by kernel_rfl) (KeepsIf.read (by rfl) ?_) ?_
              rotate_left
              · intro W hSw
                (try dsimp only at hSw)
                go_simp
                (try with_reducible rfl)
              rotate_left
              (try simp only [Act.put, List.setIfInBounds_toArray, List.set_cons_zero, List.set_cons_succ])
              refine AllS.take (i := 3) (v := .agg x.cells) (by rw [List.getElem?_toArray]; rfl) (by kernel_rfl) (by kernel_rfl) (by kernel_rfl) (KeepsIf.read (by rfl) (fun W hSw => ?_)) ?_
              · (try dsimp only at hSw)
                exact rdN (.tmp 32) rfl _ rfl x (ha ▸ HLI.out.below (below_seq b2 hSw))
              (try simp only [Act.put, List.setIfInBounds_toArray, List.set_cons_zero, List.set_cons_succ])
              refine AllS.take (i := 4) (v := ?_) (by rw [List.getElem?_toArray]; rfl) (by kernel_rfl) (by kernel_rfl) (by kernel_rfl) (KeepsIf.read (by rfl) ?_) ?_
              rotate_left
              · intro W hSw
                (try dsimp only at hSw)
                go_simp
                (try with_reducible rfl)
              rotate_left
              (try simp only [Act.put, List.setIfInBounds_toArray, List.set_cons_zero, List.set_cons_succ])
              refine AllS.take (i := 5) (v := .bool true) (by rw [List.getElem?_toArray]; rfl) (by kernel_rfl) (by kernel_rfl) (by kernel_rfl) (KeepsIf.read (by rfl) (fun W hSw => ?_)) ?_
              · (try dsimp only at hSw)
                go_simp
              (try simp only [Act.put, List.setIfInBounds_toArray, List.set_cons_zero, List.set_cons_succ])
              refine AllS.take (i := 6) (v := ?_) (by rw [List.getElem?_toArray]; rfl) (by kernel_rfl) (by kernel_rfl) (by kernel_rfl) (KeepsIf.read (by rfl) ?_) ?_
              rotate_left
              · intro W hSw
                (try dsimp only at hSw)
                go_simp
                (try with_reducible rfl)
              rotate_left
              (try simp only [Act.put, List.setIfInBounds_toArray, List.set_cons_zero, List.set_cons_succ])
              refine AllS.take (i := 7) (v := ?_) (by rw [List.getElem?_toArray]; rfl) (by kernel_rfl) (by kernel_rfl) (by kernel_rfl) (KeepsIf.read (by rfl) ?_) ?_
              rotate_left
              · intro W hSw
                (try dsimp only at hSw)
                go_simp
                (try with_reducible rfl)
              rotate_left
              (try simp only [Act.put, List.setIfInBounds_toArray, List.set_cons_zero, List.set_cons_succ])
              refine AllS.take (i := 8) (v := ?_) (by rw [List.getElem?_toArray]; rfl) (by kernel_rfl) (by kernel_rfl) (by kernel_rfl) (KeepsIf.read (by rfl) ?_) ?_
              rotate_left
              · intro W hSw
                (try dsimp only at hSw)
                go_simp
                (try with_reducible rfl)
              rotate_left
              (try simp only [Act.put, List.setIfInBounds_toArray, List.set_cons_zero, List.set_cons_succ])
              refine AllS.take (i := 9) (v := ?_) (by rw [List.getElem?_toArray]; rfl) (by kernel_rfl) (by kernel_rfl) (by kernel_rfl) (KeepsIf.read (by rfl) ?_) ?_
              rotate_left
              · intro W hSw
                (try dsimp only at hSw)
                go_simp
                (try with_reducible rfl)
              rotate_left
              (try simp only [Act.put, List.setIfInBounds_toArray, List.set_cons_zero, List.set_cons_succ])
              refine AllS.take (i := 10) (v := ?_) (by rw [List.getElem?_toArray]; rfl) (by kernel_rfl) (by kernel_rfl) (by kernel_rfl) (KeepsIf.read (by rfl) ?_) ?_
              rotate_left
              · intro W hSw
                (try dsimp only at hSw)
                go_simp
                (try with_reducible rfl)
              rotate_left
              (try simp only [Act.put, List.setIfInBounds_toArray, List.set_cons_zero, List.set_cons_succ])
              refine AllS.take (i := 11) (v := ?_) (by rw [List.getElem?_toArray]; rfl) (by kernel_rfl) (by kernel_rfl) (by kernel_rfl) (KeepsIf.read (by rfl) ?_) ?_
              rotate_left
              · intro W hSw
                (try dsimp only at hSw)
                go_simp
                (try with_reducible rfl)
              rotate_left
              (try simp only [Act.put, List.setIfInBounds_toArray, List.set_cons_zero, List.set_cons_succ])
              refine AllS.take (i := 12) (v := .int .i64 (pk : Int)) (by rw [List.getElem?_toArray]; rfl) (by kernel_rfl) (by kernel_rfl) (by kernel_rfl) (KeepsIf.read (by rfl) (fun W hSw => ?_)) ?_
              · (try dsimp only at hSw)
                have c1 : W.cell? ⟨ad.block, o + 1, none⟩ = some (.int .i64 (pk : Int)) := ((HLI.out.below (below_seq b2 hSw)).p).trans (by rw [HPK.out]); go_simp
              (try simp only [Act.put, List.setIfInBounds_toArray, List.set_cons_zero, List.set_cons_succ])
              refine AllS.take (i := 13) (v := ?_) (by rw [List.getElem?_toArray]; rfl) (by kernel_rfl) (by kernel_rfl) (by kernel_rfl) (KeepsIf.read (by rfl) ?_) ?_
              rotate_left
              · intro W hSw
                (try dsimp only at hSw)
                go_simp
                (try with_reducible rfl)
              rotate_left
              (try simp only [Act.put, List.setIfInBounds_toArray, List.set_cons_zero, List.set_cons_succ])
              refine AllS.take (i := 14) (v := ?_) (by rw [List.getElem?_toArray]; rfl) (by kernel_rfl) (by kernel_rfl) (by kernel_rfl) (KeepsIf.read (by rfl) ?_) ?_
              rotate_left
              · intro W hSw
                (try dsimp only at hSw)
                go_simp
                (try with_reducible rfl)
              rotate_left
              (try simp only [Act.put, List.setIfInBounds_toArray, List.set_cons_zero, List.set_cons_succ])
              refine AllS.take (i := 15) (v := .int .u8 ky) (by rw [List.getElem?_toArray]; rfl) (by kernel_rfl) (by kernel_rfl) (by kernel_rfl) (KeepsIf.read (by rfl) (fun W hSw => ?_)) ?_
              · (try dsimp only at hSw)
                have c1 : W.cell? ⟨ad.block, o2, none⟩ = some (.int .u8 ky) := ((HLI2.out.below (below_seq b2 hSw)).k).trans (by rw [HKY.out]); go_simp
              (try simp only [Act.put, List.setIfInBounds_toArray, List.set_cons_zero, List.set_cons_succ])
              refine AllS.take (i := 16) (v := .bool bi) (by rw [List.getElem?_toArray]; rfl) (by kernel_rfl) (by kernel_rfl) (by kernel_rfl) (KeepsIf.read (by rfl) (fun W hSw => ?_)) ?_
              · (try dsimp only at hSw)
                have hbi := HBI.out; go_simp
              (try simp only [Act.put, List.setIfInBounds_toArray, List.set_cons_zero, List.set_cons_succ])
              refine AllS.take (i := 17) (v := ?_) (by rw [List.getElem?_toArray]; rfl) (by kernel_rfl) (by kernel_rfl) (by kernel_rfl) (KeepsIf.read (by rfl) ?_) ?_
              rotate_left
              · intro W hSw
                (try dsimp only at hSw)
                go_simp
                (try with_reducible rfl)
              rotate_left
              (try simp only [Act.put, List.setIfInBounds_toArray, List.set_cons_zero, List.set_cons_succ])
              refine AllS.take (i := 18) (v := .bool false) (by rw [List.getElem?_toArray]; rfl) (by kernel_rfl) (by kernel_rfl) (by kernel_rfl) (KeepsIf.call 61 #[.agg x.cells, .bool bi] (by kernel_rfl) (fun W => ?_) (fun W hSw => ?_)) ?_
              · go_simp
              · exact (CF2.out W (below_seq b2 hSw)).mono (fun e w3 h => ⟨h.1, below_seq hSw h.2⟩)
              (try simp only [Act.put, List.setIfInBounds_toArray, List.set_cons_zero, List.set_cons_succ])
              refine AllS.take (i := 19) (v := ?_) (by rw [List.getElem?_toArray]; rfl) (by kernel_rfl) (by kernel_rfl) (by kernel_rfl) (KeepsIf.read (by rfl) ?_) ?_
              rotate_left
              · intro W hSw
                (try dsimp only at hSw)
                go_simp
                (try with_reducible rfl)
              rotate_left
              (try simp only [Act.put, List.setIfInBounds_toArray, List.set_cons_zero, List.set_cons_succ])
              refine AllS.done (by kernel_rfl) (hR.out _ ?_) _
              clear hR R
              intro w3 b3
              go_wp2_with fail
              go_ret2
              exact ⟨rfl, below_seq b2 b3⟩
            · rw [hvf, if_neg (by simp)] at hne
              rw [hvf] at CF2
              rw [hne]
              clear hne hvf
              have hLd := HLI.out.d
              go_enter Tryd.func43, Tryd.ntmps43
              go_wp2_with fail
              refine C1.out.mono ?_
              rintro e w2 ⟨rfl, rfl⟩
              go_wp2_with fail
              refine C2.out.mono ?_
              rintro e w2 ⟨rfl, rfl⟩
              go_wp2_with (refine ldD rfl (.tmp 26) rfl _ rfl x.d hLd ?_)
              refine (CD.out _).mono ?_
              rintro e w2 ⟨rfl, b2⟩
              clear hLd C1 C2 CD
              go_wp2_with fail
              refine region_any (by kernel_rfl) (fun W => Below w2.heap.size w2 W) (below_drewN (Below.refl _ _) 1) (fun R hR => ?_)
              refine AllS.take (i := 0) (v := ?_) (by rw [List.getElem?_toArray]; rfl) (by kernel_rfl) (by kernel_rfl) (by kernel_rfl) (KeepsIf.read (by rfl) ?_) ?_
              rotate_left
              · intro W hSw
                (try dsimp only at hSw)
                go_simp
                (try with_reducible rfl)
              rotate_left
              (try simp only [Act.put, List.setIfInBounds_toArray, List.set_cons_zero, List.set_cons_succ])
              refine AllS.take (i := 1) (v := ?_) (by rw [List.getElem?_toArray]; rfl) (by kernel_rfl) (by kernel_rfl) (by kernel_rfl) (KeepsIf.read (by rfl) ?_) ?_
              rotate_left
              · intro W hSw
                (try dsimp only at hSw)
                go_simp
                (try with_reducible rfl)
              rotate_left
              (try simp only [Act.put, List.setIfInBounds_toArray, List.set_cons_zero, List.set_cons_succ])
              refine AllS.take (i := 2) (v := ?_) (by rw [List.getElem?_toArray]; rfl) (by kernel_rfl) (by kernel_rfl) (by kernel_rfl) (KeepsIf.read (by rfl) ?_) ?_
              rotate_left
              · intro W hSw
                (try dsimp only at hSw)
                go_simp
                (try with_reducible rfl)
              rotate_left
              (try simp only [Act.put, List.setIfInBounds_toArray, List.set_cons_zero, List.set_cons_succ])
              refine AllS.take (i := 3) (v := .agg x.cells) (by rw [List.getElem?_toArray]; rfl) (by kernel_rfl) (by kernel_rfl) (by kernel_rfl) (KeepsIf.read (by rfl) (fun W hSw => ?_)) ?_
              · (try dsimp only at hSw)
                exact rdN (.tmp 32) rfl _ rfl x (ha ▸ HLI.out.below (below_seq b2 hSw))
              (try simp only [Act.put, List.setIfInBounds_toArray, List.set_cons_zero, List.set_cons_succ])
              refine AllS.take (i := 4) (v := ?_) (by rw [List.getElem?_toArray]; rfl) (by kernel_rfl) (by kernel_rfl) (by kernel_rfl) (KeepsIf.read (by rfl) ?_) ?_
              rotate_left
              · intro W hSw
                (try dsimp only at hSw)
                go_simp
                (try with_reducible rfl)
              rotate_left
              (try simp only [Act.put, List.setIfInBounds_toArray, List.set_cons_zero, List.set_cons_succ])
              refine AllS.take (i := 5) (v := .bool true) (by rw [List.getElem?_toArray]; rfl) (by kernel_rfl) (by kernel_rfl) (by kernel_rfl) (KeepsIf.read (by rfl) (fun W hSw => ?_)) ?_
              · (try dsimp only at hSw)
                go_simp
              (try simp only [Act.put, List.setIfInBounds_toArray, List.set_cons_zero, List.set_cons_succ])
              refine AllS.take (i := 6) (v := ?_) (by rw [List.getElem?_toArray]; rfl) (by kernel_rfl) (by kernel_rfl) (by kernel_rfl) (KeepsIf.read (by rfl) ?_) ?_
              rotate_left
              · intro W hSw
                (try dsimp only at hSw)
                go_simp
                (try with_reducible rfl)
              rotate_left
              (try simp only [Act.put, List.setIfInBounds_toArray, List.set_cons_zero, List.set_cons_succ])
              refine AllS.take (i := 7) (v := ?_) (by rw [List.getElem?_toArray]; rfl) (by kernel_rfl) (by kernel_rfl) (by kernel_rfl) (KeepsIf.read (by rfl) ?_) ?_
              rotate_left
              · intro W hSw
                (try dsimp only at hSw)
                go_simp
                (try with_reducible rfl)
              rotate_left
              (try simp only [Act.put, List.setIfInBounds_toArray, List.set_cons_zero, List.set_cons_succ])
              refine AllS.take (i := 8) (v := ?_) (by rw [List.getElem?_toArray]; rfl) (by kernel_rfl) (by kernel_rfl) (by kernel_rfl) (KeepsIf.read (by rfl) ?_) ?_
              rotate_left
              · intro W hSw
                (try dsimp only at hSw)
                go_simp
                (try with_reducible rfl)
              rotate_left
              (try simp only [Act.put, List.setIfInBounds_toArray, List.set_cons_zero, List.set_cons_succ])
              refine AllS.take (i := 9) (v := ?_) (by rw [List.getElem?_toArray]; rfl) (by kernel_rfl) (by kernel_rfl) (by kernel_rfl) (KeepsIf.read (by rfl) ?_) ?_
              rotate_left
              · intro W hSw
                (try dsimp only at hSw)
                go_simp
                (try with_reducible rfl)
              rotate_left
              (try simp only [Act.put, List.setIfInBounds_toArray, List.set_cons_zero, List.set_cons_succ])
              refine AllS.take (i := 10) (v := ?_) (by rw [List.getElem?_toArray]; rfl) (by kernel_rfl) (by kernel_rfl) (by kernel_rfl) (KeepsIf.read (by rfl) ?_) ?_
              rotate_left
              · intro W hSw
                (try dsimp only at hSw)
                go_simp
                (try with_reducible rfl)
              rotate_left
              (try simp only [Act.put, List.setIfInBounds_toArray, List.set_cons_zero, List.set_cons_succ])
              refine AllS.take (i := 11) (v := ?_) (by rw [List.getElem?_toArray]; rfl) (by kernel_rfl) (by kernel_rfl) (by kernel_rfl) (KeepsIf.read (by rfl) ?_) ?_
              rotate_left
              · intro W hSw
                (try dsimp only at hSw)
                go_simp
                (try with_reducible rfl)
              rotate_left
              (try simp only [Act.put, List.setIfInBounds_toArray, List.set_cons_zero, List.set_cons_succ])
              refine AllS.take (i := 12) (v := .int .i64 (pk : Int)) (by rw [List.getElem?_toArray]; rfl) (by kernel_rfl) (by kernel_rfl) (by kernel_rfl) (KeepsIf.read (by rfl) (fun W hSw => ?_)) ?_
              · (try dsimp only at hSw)
                have c1 : W.cell? ⟨ad.block, o + 1, none⟩ = some (.int .i64 (pk : Int)) := ((HLI.out.below (below_seq b2 hSw)).p).trans (by rw [HPK.out]); go_simp
              (try simp only [Act.put, List.setIfInBounds_toArray, List.set_cons_zero, List.set_cons_succ])
              refine AllS.take (i := 13) (v := ?_) (by rw [List.getElem?_toArray]; rfl) (by kernel_rfl) (by kernel_rfl) (by kernel_rfl) (KeepsIf.read (by rfl) ?_) ?_
              rotate_left
              · intro W hSw
                (try dsimp only at hSw)
                go_simp
                (try with_reducible rfl)
              rotate_left
              (try simp only [Act.put, List.setIfInBounds_toArray, List.set_cons_zero, List.set_cons_succ])
              refine AllS.take (i := 14) (v := ?_) (by rw [List.getElem?_toArray]; rfl) (by kernel_rfl) (by kernel_rfl) (by kernel_rfl) (KeepsIf.read (by rfl) ?_) ?_
              rotate_left
              · intro W hSw
                (try dsimp only at hSw)
                go_simp
                (try with_reducible rfl)
              rotate_left
              (try simp only [Act.put, List.setIfInBounds_toArray, List.set_cons_zero, List.set_cons_succ])
              refine AllS.take (i := 15) (v := .int .u8 ky) (by rw [List.getElem?_toArray]; rfl) (by kernel_rfl) (by kernel_rfl) (by kernel_rfl) (KeepsIf.read (by rfl) (fun W hSw => ?_)) ?_
              · (try dsimp only at hSw)
                have c1 : W.cell? ⟨ad.block, o2, none⟩ = some (.int .u8 ky) := ((HLI2.out.below (below_seq b2 hSw)).k).trans (by rw [HKY.out]); go_simp
              (try simp only [Act.put, List.setIfInBounds_toArray, List.set_cons_zero, List.set_cons_succ])
              refine AllS.take (i := 16) (v := .bool bi) (by rw [List.getElem?_toArray]; rfl) (by kernel_rfl) (by kernel_rfl) (by kernel_rfl) (KeepsIf.read (by rfl) (fun W hSw => ?_)) ?_
              · (try dsimp only at hSw)
                have hbi := HBI.out; go_simp
              (try simp only [Act.put, List.setIfInBounds_toArray, List.set_cons_zero, List.set_cons_succ])
              refine AllS.take (i := 17) (v := ?_) (by rw [List.getElem?_toArray]; rfl) (by kernel_rfl) (by kernel_rfl) (by kernel_rfl) (KeepsIf.read (by rfl) ?_) ?_
              rotate_left
              · intro W hSw
                (try dsimp only at hSw)
                go_simp
                (try with_reducible rfl)
              rotate_left
              (try simp only [Act.put, List.setIfInBounds_toArray, List.set_cons_zero, List.set_cons_succ])
              refine AllS.take (i := 18) (v := .bool true) (by rw [List.getElem?_toArray]; rfl) (by kernel_rfl) (by kernel_rfl) (by kernel_rfl) (KeepsIf.call 61 #[.agg x.cells, .bool bi] (by kernel_rfl) (fun W => ?_) (fun W hSw => ?_)) ?_
              · go_simp
              · exact (CF2.out W (below_seq b2 hSw)).mono (fun e w3 h => ⟨h.1, below_seq hSw h.2⟩)
              (try simp only [Act.put, List.setIfInBounds_toArray, List.set_cons_zero, List.set_cons_succ])
              refine AllS.take (i := 19) (v := ?_) (by rw [List.getElem?_toArray]; rfl) (by kernel_rfl) (by kernel_rfl) (by kernel_rfl) (KeepsIf.read (by rfl) ?_) ?_
              rotate_left
              · intro W hSw
                (try dsimp only at hSw)
                go_simp
                (try with_reducible rfl)
              rotate_left
              (try simp only [Act.put, List.setIfInBounds_toArray, List.set_cons_zero, List.set_cons_succ])
              refine AllS.done (by kernel_rfl) (hR.out _ ?_) _
              clear hR R
              intro w3 b3
              go_wp2_with fail
              go_ret2
              exact ⟨rfl, below_seq b2 b3⟩
        · rw [if_pos hv] at hne
          rw [hne]
          rw [hc] at CD
          clear hne hv hc CF hpp hkr
          have hLd := HLI.out.d
          go_enter Tryd.func43, Tryd.ntmps43
          go_wp2_with fail
          refine C1.out.mono ?_
          rintro e w2 ⟨rfl, rfl⟩
          go_wp2_with fail
          refine C2.out.mono ?_
          rintro e w2 ⟨rfl, rfl⟩
          go_wp2_with (refine ldD rfl (.tmp 26) rfl _ rfl x.d hLd ?_)
          refine (CD.out _).mono ?_
          rintro e w2 ⟨rfl, b2⟩
          go_wp2_with fail
          go_ret2
          exact ⟨rfl, b2⟩

end Go.Proofs.YtgpobhnonjdamaaDoor
