/- Contract of arena.New. Conditions: the nodes lie where the slice says, their numbers fit their kinds; the tables lie as the program's text lays them. -/
import Derived.Test.YtgpobhnonjdamaaDoorArNewA
import Derived.Test.YtgpobhnonjdamaaDoorAr6e
import Derived.Test.YtgpobhnonjdamaaDoorTail2
namespace Go.Proofs.YtgpobhnonjdamaaDoor
open Go.ChangeShapes Go.WideShapes Go.ChangeAt Go.RowKit

theorem wp_skp {P : Program} {o : Oper} {a : Act} {w w' : World} {K : Act → World → Prop} {Q : Exit → Act → World → Prop} (hrun : (execOp a.eval o).run P w = .ok .skip w') (h : K (a.put o.dst undef) w') : o.wp P a w K Q := by
  unfold Oper.wp
  rw [hrun]
  exact h
theorem take_get {α : Type} {xs : List α} {n i : Nat} {v : α} (h : (xs.take n)[i]? = some v) : xs[i]? = some v := by
  rw [List.getElem?_take] at h
  split at h
  · exact h
  · cases h
theorem set_same {α : Type} {xs : Array α} {i : Nat} {v : α} (h : xs[i]? = some v) : xs.setIfInBounds i v = xs := by
  apply Array.ext_getElem?
  intro j
  rw [Array.getElem?_setIfInBounds]
  by_cases e : i = j
  · subst e
    rw [if_pos rfl, h, if_pos (Array.getElem?_eq_some_iff.1 h).1]
  · rw [if_neg e]
theorem sumT_at {l : List Nod} {k : Nat} {x : Nod} (h : l[k]? = some x) : x.t.size ≤ sumT l := by
  have h1 := sumT_one h
  have h2 := sumT_le l (k + 1)
  omega
/-- what New says -/
def NewPost (w : World) (l : List Nod) (e : Ending) (w' : World) : Prop :=
  (chkT l = 0 ∧ ∃ p, e = .returned (.tuple #[p, .int .i64 0]) ∧ Tr w' p l ∧ Below w.heap.size w w') ∨
  (chkT l ≠ 0 ∧ e = .returned (.tuple #[.pointer none, .int .i64 (chkT l)]) ∧ Below w.heap.size w w')

set_option maxRecDepth 100000 in
set_option maxHeartbeats 8000000 in
theorem anew_any (l : List Nod) (v : Value) (w : World) (hR : Ns w v l) (hW : WfL l) (hTab : Tab w) :
    Calls Tryd.prog 10 #[v] w (NewPost w l) := by
  have CK := Lib.hid (acheck_any l v w hR hW hTab)
  by_cases hg : chkT l = 0
  · have hG := (good_iff l).1 hg
    have hT := hG.tre
    have hlen : 0 < l.length ∧ l.length ≤ 1048576 ∧ sumT l ≤ 1048576 := ⟨hG.pos, hG.most, hG.sum⟩
    obtain ⟨hpos, hlen, hsum⟩ := hlen
    have CC1 := Lib.hid (fun W (h : Below w.heap.size w W) => nclone_any l v W (hR.below h) hlen hpos)
    have CE1 := Lib.hid (fun W (h : Below w.heap.size w W) => aends_any l v W (hR.below h) hT hlen)
    have HSZ : Hid (∀ (k : Nat) (x : Nod), l[k]? = some x → x.t.size ≤ 281474976710656) := Lib.hid fun k (x : Nod) h => by
      have := sumT_at h
      omega
    have FIN : Hid (∀ (w' : World) (g gn ge cn : Nat) (cur : Array Value) (f : Nat → Nat), Blk w' g 66 #[.slice (some ⟨gn, 0, none⟩) l.length cn, .slice (some ⟨ge, 0, none⟩) l.length l.length] → Blk w' gn 37 cur → cur.toList.take (l.length * 22) = flatN l → Blk w' ge 3 (rowF l.length f) → (∀ i, i < l.length → f i = endC (psOf l) i) → TreeAt w' g gn ge cn l.length l) := Lib.hid fun w' g gn ge cn cur f h1 h2 h3 h4 h5 => by
      refine ⟨h1, h2.lt, fun i x hx => h2.part _ (fun j u hu => ?_), h4.lt, fun i hi => ⟨_, endC_is (by rw [psOf_len]; exact hi), ?_⟩⟩
      · have h6 := flatN_get hx hu
        rw [← h3] at h6
        simpa using take_get h6
      · rw [h4.cell, rowF_get hi, h5 i hi]
        rfl
    rw [hg] at CK
    obtain ⟨A, cap, rfl⟩ := hR.form
    obtain ⟨n, hl⟩ : ∃ n, l.length = n := ⟨_, rfl⟩
    have HL := Lib.hid hl
    rw [hl] at hpos hlen CK CC1 CE1 FIN ⊢
    have HG := Lib.hid hg
    clear hR hl hG hT hg hsum hW hTab
    go_enter Tryd.func10, Tryd.ntmps10
    go_wp2_with fail
    refine CK.out.mono ?_
    rintro e w1 ⟨rfl, b1⟩
    go_wp2_with fail
    refine (CC1.out _ b1).mono ?_
    rintro e w2 ⟨u, rfl, hown, b2⟩
    have b02 := below_seq b1 b2
    obtain ⟨gn, cn, cur, rfl, hgn, hBn, hcur⟩ : ∃ gn cn cur, u = .slice (some ⟨gn, 0, none⟩) n cn ∧ w1.heap.size ≤ gn ∧ Blk w2 gn 37 cur ∧ cur.toList.take (n * 22) = flatN l := by
      rcases hown.2 with ⟨_, h0⟩ | ⟨g, c, cur, h1, h2, h3, _, _, _, h4⟩
      · omega
      · exact ⟨g, c, cur, h1, h2, h3, h4⟩
    have HCUR := Lib.hid hcur
    have hlt2 := hBn.lt
    clear hown hcur
    go_wp2_with fail
    refine (CE1.out _ b02).mono ?_
    rintro e w3 ⟨ge, f, rfl, hge, hBe, hf, b3⟩
    have b03 := below_seq b02 b3
    have HF := Lib.hid hf
    have B3n := hBn.keep (S := fun _ => False) (Mod.of_below b3) id
    clear hf hBn CC1 CE1 CK
    go_wp2_with fail
    have BG := Blk.new w3 66 #[.slice (some ⟨gn, 0, none⟩) n cn, .slice (some ⟨ge, 0, none⟩) n n]
    have b4 := below_alloc w3 (.cells #[.slice (some ⟨gn, 0, none⟩) n cn, .slice (some ⟨ge, 0, none⟩) n n] 66)
    have B4n := B3n.alloc (.cells #[.slice (some ⟨gn, 0, none⟩) n cn, .slice (some ⟨ge, 0, none⟩) n n] 66)
    have B4e := hBe.alloc (.cells #[.slice (some ⟨gn, 0, none⟩) n cn, .slice (some ⟨ge, 0, none⟩) n n] 66)
    have b04 := below_seq b03 b4
    have e1 := b02.size
    have e2 := b03.size
    have e3 := b1.size
    have hgG : gn < w3.heap.size := B3n.lt
    obtain ⟨G, hG⟩ : ∃ G, w3.heap.size = G := ⟨_, rfl⟩
    rw [hG] at BG e2 hgG ⊢
    obtain ⟨w4, hw4⟩ : ∃ w4, w3.alloc (.cells #[.slice (some ⟨gn, 0, none⟩) n cn, .slice (some ⟨ge, 0, none⟩) n n] 66) = w4 := ⟨_, rfl⟩
    rw [hw4] at BG B4n B4e b04 ⊢
    clear hw4 hG B3n hBe b1 b2 b3 b4 b02 b03
    go_loopg [24] n (fun kx s24 wr => ∃ k : Nat, s24 = .int .i64 k ∧ k ≤ n ∧ kx = n - k ∧ Below w.heap.size w wr ∧ Blk wr G 66 #[.slice (some ⟨gn, 0, none⟩) n cn, .slice (some ⟨ge, 0, none⟩) n n] ∧ Blk wr gn 37 cur ∧ Blk wr ge 3 (rowF n f))
    case atStart => exact ⟨0, rfl, by omega, rfl, b04, BG, B4n, B4e⟩
    case round =>
      obtain ⟨k, rfl, hk, rfl, bel, hBG, hBn, hBe⟩ := hrel
      clear BG B4n B4e b04
      by_cases hlt : k < n
      · have hz : (k : Int) < n := by omega
        have hkl : k < l.length := by rw [HL.out]; exact hlt
        obtain ⟨x, hx⟩ := at_of hkl
        have hat : ∀ (j : Nat) (u : Value), x.cells[j]? = some u → cur[k * 22 + j]? = some u := fun j u hu => by
          have h6 := flatN_get hx hu
          rw [← HCUR.out] at h6
          simpa using take_get h6
        have hLi : Lies wr ⟨gn, k * 22, none⟩ x.cells := hBn.part _ hat
        have hsame : cur.setIfInBounds (k * 22 + 2) (.string x.t) = cur := set_same (hat 2 _ rfl)
        obtain ⟨t, ht⟩ : ∃ t, x.t = t := ⟨_, rfl⟩
        have CC := Lib.hid (fun W => sclone_any x.t W (HSZ.out k x hx))
        have hc0 := hBG.cell 0
        have HSM := Lib.hid hsame
        rw [ht] at CC HSM
        have HT := Lib.hid ht
        have HX := Lib.hid hx
        have h22 : cur[k * 22 + 2]? = some (.string t) := hat 2 (.string t) (by rw [← ht]; rfl)
        have H22 := Lib.hid h22
        have HBG := Lib.hid hBG
        have HBN := Lib.hid hBn
        have HBE := Lib.hid hBe
        clear hx hat hsame ht hkl h22 hBG hBn hBe
        go_wp2_with (first
          | (refine ldN rfl (.tmp 27) rfl _ rfl x hLi ?_)
          | (refine alNV rfl rfl ?_; intro w6 b6 B6)
          | (refine stN rfl (.tmp 7) (.tmp 28) rfl rfl wr.heap.size rfl x rfl .zero B6 ?_; intro w5 m5 B5))
        have b5 : Below wr.heap.size wr w5 := b6.trans (m5.below b6.size (fun k hk => by omega))
        have A5 := HBG.out.keep (S := fun _ => False) (Mod.of_below b5) id
        have N5 := HBN.out.keep (S := fun _ => False) (Mod.of_below b5) id
        have E5 := HBE.out.keep (S := fun _ => False) (Mod.of_below b5) id
        have CG : Hid (∀ W, Below w5.heap.size w5 W → W.cell? ⟨G, 0, none⟩ = some (.slice (some ⟨gn, 0, none⟩) n cn)) := Lib.hid fun W h => (h.cell (p := ⟨G, 0, none⟩) A5.lt).trans (A5.cell 0)
        have CT : Hid (∀ W, Below w5.heap.size w5 W → W.cell? ⟨wr.heap.size, 2, none⟩ = some (.string t)) := Lib.hid fun W h => (h.cell (p := ⟨wr.heap.size, 2, none⟩) B5.lt).trans ((B5.cell 2).trans (by rw [← HT.out]; rfl))
        have b15 := bel.trans (b5.mono bel.size)
        have HA5 := Lib.hid A5
        have HN5 := Lib.hid N5
        have HE5 := Lib.hid E5
        clear A5 N5 E5 B5 B6 HBG HBN HBE m5 b6 b5 hLi hc0
        go_wp2_with fail
        refine region_tail2 (by kernel_rfl) (fun W => Below w5.heap.size w5 W) (below_drewN (Below.refl _ _) 1) 10 (by rfl) (by kernel_rfl) (by kernel_rfl) (fun R hR => ?_)
        refine AllS.take (i := 0) (v := ?_) (by rw [List.getElem?_toArray]; rfl) (by kernel_rfl) (by kernel_rfl) (by kernel_rfl) (KeepsIf.read (by rfl) ?_) ?_
        rotate_left
        · intro W hSw
          (try dsimp only at hSw)
          go_simp
          (try with_reducible rfl)
        rotate_left
        (try simp only [Act.put, List.setIfInBounds_toArray, List.set_cons_zero, List.set_cons_succ])
        refine AllS.take (i := 1) (v := ?_) (by rw [List.getElem?_toArray]; rfl) (by kernel_rfl) (by kernel_rfl) (by kernel_rfl) (KeepsIf.read (by rfl) ?_) ?_
        rotate_left
        · intro W hSw
          (try dsimp only at hSw)
          go_simp
          (try with_reducible rfl)
        rotate_left
        (try simp only [Act.put, List.setIfInBounds_toArray, List.set_cons_zero, List.set_cons_succ])
        refine AllS.take (i := 2) (v := ?_) (by rw [List.getElem?_toArray]; rfl) (by kernel_rfl) (by kernel_rfl) (by kernel_rfl) (KeepsIf.read (by rfl) ?_) ?_
        rotate_left
        · intro W hSw
          (try dsimp only at hSw)
          go_simp
          (try with_reducible rfl)
        rotate_left
        (try simp only [Act.put, List.setIfInBounds_toArray, List.set_cons_zero, List.set_cons_succ])
        refine AllS.take (i := 3) (v := ?_) (by rw [List.getElem?_toArray]; rfl) (by kernel_rfl) (by kernel_rfl) (by kernel_rfl) (KeepsIf.read (by rfl) ?_) ?_
        rotate_left
        · intro W hSw
          (try dsimp only at hSw)
          have hq := CG.out W hSw
          go_simp
          (try with_reducible rfl)
        rotate_left
        (try simp only [Act.put, List.setIfInBounds_toArray, List.set_cons_zero, List.set_cons_succ])
        refine AllS.take (i := 4) (v := ?_) (by rw [List.getElem?_toArray]; rfl) (by kernel_rfl) (by kernel_rfl) (by kernel_rfl) (KeepsIf.read (by rfl) ?_) ?_
        rotate_left
        · intro W hSw
          (try dsimp only at hSw)
          go_simp
          (try with_reducible rfl)
        rotate_left
        (try simp only [Act.put, List.setIfInBounds_toArray, List.set_cons_zero, List.set_cons_succ])
        refine AllS.take (i := 5) (v := ?_) (by rw [List.getElem?_toArray]; rfl) (by kernel_rfl) (by kernel_rfl) (by kernel_rfl) (KeepsIf.read (by rfl) ?_) ?_
        rotate_left
        · intro W hSw
          (try dsimp only at hSw)
          go_simp
          (try with_reducible rfl)
        rotate_left
        (try simp only [Act.put, List.setIfInBounds_toArray, List.set_cons_zero, List.set_cons_succ])
        refine AllS.take (i := 6) (v := ?_) (by rw [List.getElem?_toArray]; rfl) (by kernel_rfl) (by kernel_rfl) (by kernel_rfl) (KeepsIf.read (by rfl) ?_) ?_
        rotate_left
        · intro W hSw
          (try dsimp only at hSw)
          have hq := CT.out W hSw
          go_simp
          (try with_reducible rfl)
        rotate_left
        (try simp only [Act.put, List.setIfInBounds_toArray, List.set_cons_zero, List.set_cons_succ])
        refine AllS.take (i := 7) (v := .string t) (by rw [List.getElem?_toArray]; rfl) (by kernel_rfl) (by kernel_rfl) (by kernel_rfl) (KeepsIf.call 35 #[.string t] (by kernel_rfl) (fun W => ?_) (fun W hSw => ?_)) ?_
        · go_simp
        · exact (CC.out W).mono (fun e w' h => ⟨h.1, below_seq hSw h.2⟩)
        (try simp only [Act.put, List.setIfInBounds_toArray, List.set_cons_zero, List.set_cons_succ])
        refine AllS.take (i := 8) (v := ?_) (by rw [List.getElem?_toArray]; rfl) (by kernel_rfl) (by kernel_rfl) (by kernel_rfl) (KeepsIf.read (by rfl) ?_) ?_
        rotate_left
        · intro W hSw
          (try dsimp only at hSw)
          go_simp
          (try with_reducible rfl)
        rotate_left
        (try simp only [Act.put, List.setIfInBounds_toArray, List.set_cons_zero, List.set_cons_succ])
        refine AllS.take (i := 9) (v := ?_) (by rw [List.getElem?_toArray]; rfl) (by kernel_rfl) (by kernel_rfl) (by kernel_rfl) (KeepsIf.read (by rfl) ?_) ?_
        rotate_left
        · intro W hSw
          (try dsimp only at hSw)
          go_simp
          (try with_reducible rfl)
        rotate_left
        (try simp only [Act.put, List.setIfInBounds_toArray, List.set_cons_zero, List.set_cons_succ])
        refine AllS.done (by kernel_rfl) (hR.out _ ?_) _
        clear hR R
        intro w7 b7
        refine wpOp_of_wp (by rw [List.getElem?_toArray]; rfl) rfl ?_
        have N7 := HN5.out.keep (S := fun _ => False) (Mod.of_below b7) id
        have hq : w7.cell? ⟨gn, k * 22 + 2, none⟩ = some (.string t) := (N7.cell _).trans H22.out
        have hfz := N7.frozen (k * 22 + 2)
        refine wp_skp (w' := w7.setCell ⟨gn, k * 22 + 2, none⟩ (.string t)) (by go_simp) ?_
        have N8 : Blk (w7.setCell ⟨gn, k * 22 + 2, none⟩ (.string t)) gn 37 cur := by
          have := N7.set_ (k * 22 + 2) (.string t)
          rwa [HSM.out] at this
        have m8 : Mod (fun j => j = gn) w5 (w7.setCell ⟨gn, k * 22 + 2, none⟩ (.string t)) := Mod.setCell (S := fun j => j = gn) (Mod.of_below b7) (.inl rfl) _
        obtain ⟨w8, hw8⟩ : ∃ w8, w7.setCell ⟨gn, k * 22 + 2, none⟩ (.string t) = w8 := ⟨_, rfl⟩
        rw [hw8] at N8 m8 ⊢
        clear hw8 hq hfz
        go_wp2_with fail
        go_roundg (n - (k + 1))
        case measure => omega
        case rel => exact ⟨k + 1, by go_num, by omega, rfl, b15.trans (m8.below b15.size (fun j hj => by omega)), HA5.out.keep m8 (by omega), N8, HE5.out.keep m8 (by omega)⟩
      · obtain rfl : k = n := by omega
        have RT := Lib.hid (FIN.out wr G gn ge cn cur f hBG hBn HCUR.out hBe HF.out)
        clear FIN
        go_wp2_with fail
        go_ret2
        exact .inl ⟨HG.out, _, rfl, ⟨_, _, _, _, _, rfl, RT.out⟩, bel⟩
  · obtain ⟨z, hz⟩ : ∃ z, chkT l = z := ⟨_, rfl⟩
    have HZ := Lib.hid hz
    rw [hz] at hg CK
    clear hR hW hTab hz
    go_enter Tryd.func10, Tryd.ntmps10
    go_wp2_with fail
    refine CK.out.mono ?_
    rintro e w1 ⟨rfl, b1⟩
    go_wp2_with fail
    go_ret2
    exact .inr ⟨by rw [HZ.out]; exact hg, by rw [HZ.out]; rfl, b1⟩
end Go.Proofs.YtgpobhnonjdamaaDoor
