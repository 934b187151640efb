/- Contract of arena.Check. Conditions: the nodes lie where the slice says, their numbers fit their kinds; the tables lie as the program's text lays them. -/
import Derived.Test.YtgpobhnonjdamaaDoorAr6d
namespace Go.Proofs.YtgpobhnonjdamaaDoor
open Go.ChangeShapes Go.WideShapes Go.ChangeAt Go.RowKit

set_option maxRecDepth 100000 in
set_option maxHeartbeats 4000000 in
theorem acheck_any (l : List Nod) (v : Value) (w : World) (hR : Ns w v l) (hW : WfL l) (hTab : Tab w) :
    Calls Tryd.prog 30 #[v] w fun e w' => e = .returned (.int .i64 (chkT l)) ∧ Below w.heap.size w w' := by
  have hTp := hTab.pos
  by_cases hbad : l.length = 0 ∨ 1048576 < l.length
  · have hc : chkT l = 70 := by unfold chkT; rw [if_pos hbad]
    rw [hc]
    obtain ⟨A, cap, rfl⟩ := hR.form
    obtain ⟨n, hl⟩ : ∃ n, l.length = n := ⟨_, rfl⟩
    rw [hl] at hbad ⊢
    clear hR hW hc hl
    rcases hbad with rfl | hb
    · go_enter Tryd.func30, Tryd.ntmps30
      go_wp2_with fail
      go_ret
      exact ⟨rfl, Below.refl _ _⟩
    · have h0 : ¬ (n : Int) = 0 := by omega
      have h1 : 1048576 < (n : Int) := by omega
      go_enter Tryd.func30, Tryd.ntmps30
      go_wp2_with fail
      go_ret
      exact ⟨rfl, Below.refl _ _⟩
  · have hlen : l.length ≤ 1048576 := by omega
    have hpos : 0 < l.length := by omega
    have RES : Hid (chkT l = if (run [] (-1) l).1 = 0 then lenErr l else (run [] (-1) l).1) := by
      show _ = _
      unfold chkT
      rw [if_neg hbad]
    have CN : Hid (∀ (k : Nat) (x : Nod) (last : Int) (W : World), Below w.heap.size w W → l[k]? = some x → PreOk (l.take k) last → Calls Tryd.prog 43 #[v, .int .i64 (k : Int), .int .i64 last] W fun e w' => e = .returned (.tuple #[.int .i64 (nodeErr (l.take k) x last).2, .int .i64 (nodeErr (l.take k) x last).1]) ∧ Below W.heap.size W w') := fun k x last W hw hx hP => acn_any l v k x last W (hR.below hw) hW hlen hx hP (hTab.below hTp hw)
    have CL : Hid (∀ W, Below w.heap.size w W → Calls Tryd.prog 44 #[v] W fun e w' => e = .returned (.int .i64 (lenErr l)) ∧ Below W.heap.size W w') := fun W hw => aclen_any l v W (hR.below hw) hW hlen
    obtain ⟨A, cap, rfl⟩ := hR.form
    obtain ⟨n, hl⟩ : ∃ n, l.length = n := ⟨_, rfl⟩
    have HL := Lib.hid hl
    rw [hl] at hlen hpos CN CL ⊢
    have h0 : ¬ (n : Int) = 0 := by omega
    have h1 : ¬ 1048576 < (n : Int) := by omega
    have hp0 : Hid (PreOk (l.take 0) (-1)) := Lib.hid PreOk.nil
    clear hR hW hl hTab hbad
    go_enter Tryd.func30, Tryd.ntmps30
    go_wp2_with fail
    go_loopg [3, 16] n (fun kx s3 s16 wr => ∃ (k : Nat) (last : Int), s3 = .int .i64 last ∧ s16 = .int .i64 k ∧ k ≤ n ∧ kx = n - k ∧ Hid (PreOk (l.take k) last) ∧ Hid (run [] (-1) l = run (l.take k) last (l.drop k)) ∧ Below w.heap.size w wr)
    case atStart => exact ⟨0, -1, rfl, rfl, by omega, rfl, hp0, Lib.hid rfl, Below.refl _ _⟩
    case round =>
      obtain ⟨k, last, rfl, rfl, hk, rfl, HP, HI, bel⟩ := hrel
      clear hp0
      by_cases hlt : k < n
      · have hkl : k < l.length := by rw [HL.out]; exact hlt
        have hz : (k : Int) < n := by omega
        obtain ⟨x, hx⟩ := at_of hkl
        have hd : l.drop k = x :: l.drop (k + 1) := by
          rw [List.drop_eq_getElem_cons hkl]
          congr 1
          have := List.getElem?_eq_getElem hkl
          rw [hx] at this
          exact (Option.some.inj this).symm
        have C := Lib.hid (CN.out k x last wr bel hx HP.out)
        have hi := HI.out
        rw [hd, run] at hi
        have HST : Hid ((nodeErr (l.take k) x last).1 = 0 → PreOk (l.take (k + 1)) (nodeErr (l.take k) x last).2) := Lib.hid fun h => by
          rw [take_one hx]
          exact HP.out.step h
        have HI2 : Hid (run [] (-1) l = if (nodeErr (l.take k) x last).1 = 0 then run (l.take (k + 1)) (nodeErr (l.take k) x last).2 (l.drop (k + 1)) else ((nodeErr (l.take k) x last).1, 0)) := Lib.hid (by rw [hi, take_one hx])
        obtain ⟨ee, hee⟩ : ∃ e, nodeErr (l.take k) x last = e := ⟨_, rfl⟩
        rw [hee] at C HST HI2
        obtain ⟨er, dd⟩ := ee
        dsimp only at C HST HI2
        clear CN HP HI hi hd hx hee hkl
        by_cases he : er = 0
        · subst he
          have HP' := Lib.hid (HST.out rfl)
          have HI' : Hid (run [] (-1) l = run (l.take (k + 1)) dd (l.drop (k + 1))) := Lib.hid (by rw [HI2.out, if_pos rfl])
          clear HST HI2
          go_wp2_with fail
          refine C.out.mono ?_
          rintro e w2 ⟨rfl, b2⟩
          go_wp2_with fail
          go_roundg (n - (k + 1))
          case measure => omega
          case rel => exact ⟨k + 1, dd, rfl, by go_num, by omega, rfl, HP', HI', bel.trans (b2.mono bel.size)⟩
        · have RR : Hid (chkT l = er) := Lib.hid (by rw [RES.out, HI2.out, if_neg he, if_neg he])
          clear HST HI2 RES
          go_wp2_with fail
          refine C.out.mono ?_
          rintro e w2 ⟨rfl, b2⟩
          go_wp2_with fail
          go_ret
          exact ⟨ret1 RR.out.symm, bel.trans (b2.mono bel.size)⟩
      · obtain rfl : k = n := by omega
        have RR : Hid (chkT l = lenErr l) := Lib.hid (by
          rw [RES.out, HI.out, List.drop_of_length_le (by rw [HL.out]; omega)]
          rw [if_pos (by rfl)])
        have C := Lib.hid (CL.out wr bel)
        clear CN CL HP HI RES
        go_wp2_with fail
        refine C.out.mono ?_
        rintro e w2 ⟨rfl, b2⟩
        go_wp2_with fail
        go_ret
        exact ⟨ret1 RR.out.symm, bel.trans (b2.mono bel.size)⟩
end Go.Proofs.YtgpobhnonjdamaaDoor
