/- The walk of ArenaDeep. Condition: the tables lie as the program's text lays them. -/
import Derived.Test.YtgpobhnonjdamaaDoorArNone
import Derived.Test.YtgpobhnonjdamaaDoorArAdds
namespace Go.Proofs.YtgpobhnonjdamaaDoor
open Go.ChangeShapes Go.WideShapes Go.ChangeAt Go.RowKit

theorem own_blk1 {w : World} {base g : Nat} {x : Nod} (h : Blk w g 37 x.cells) (hb : base ≤ g) : w.ownsRow base 37 22 (.slice (some ⟨g, 0, none⟩) 1 1) 1 x.cells.toList :=
  ⟨rfl, .inr ⟨g, 1, x.cells, rfl, hb, h, Nat.le_refl _, by unfold maxLen; omega, rfl, rfl⟩⟩

set_option maxRecDepth 100000 in
set_option maxHeartbeats 16000000 in
theorem adeep_any (a : Int) (base : Sty) (w : World) (h0 : 0 ≤ a) (hTab : Tab w) :
    Calls Tryd.prog 6 #[.int .u8 a, .agg base.cells] w fun e w' => e = .returned (.bool true) ∧ Below w.heap.size w w' := by
  have hTp := hTab.pos
  have CH : Hid (∀ W, Below w.heap.size w W → Calls Tryd.prog 9 #[] W fun e w' => e = .returned (.bool true) ∧ Below W.heap.size W w') := Lib.hid fun W b => head_any W (hTab.below hTp b)
  obtain ⟨n, hn⟩ : ∃ n : Nat, a.tmod 81 = (n : Int) := ⟨(a.tmod 81).toNat, by rw [Int.tmod_eq_emod_of_nonneg h0]; omega⟩
  have hn81 : n < 81 := by rw [Int.tmod_eq_emod_of_nonneg h0] at hn; omega
  obtain ⟨z, hz⟩ : ∃ z, chkT (ch n) = z := ⟨_, rfl⟩
  have hzz : z = if n ≤ 64 then 0 else 71 := by rw [← hz]; exact ch_chk n hn81
  have CK : Hid (∀ (W : World) (v : Value), Below w.heap.size w W → Ns W v (ch n) → Calls Tryd.prog 30 #[v] W fun e w' => e = .returned (.int .i64 z) ∧ Below W.heap.size W w') := Lib.hid fun W v b h => by
    have := acheck_any (ch n) v W h (ch_wf n) (hTab.below hTp b)
    rwa [hz] at this
  clear hTab hz
  go_enter Tryd.func6, Tryd.ntmps6
  go_wp2_with (refine bxSV rfl (.tmp 1) rfl base rfl ?_; intro w1 b1 B1)
  have B2 := Blk.new w1 37 ({ Nod.zero with p := -1 } : Nod).cells
  have b2 : Below w1.heap.size w1 (w1.alloc (.cells ({ Nod.zero with p := -1 } : Nod).cells 37)) := below_alloc w1 _
  have own2 := own_blk1 (base := w1.heap.size) B2 (Nat.le_refl _)
  obtain ⟨w2, hw2⟩ : ∃ w2, w1.alloc (.cells ({ Nod.zero with p := -1 } : Nod).cells 37) = w2 := ⟨_, rfl⟩
  rw [hw2] at b2 own2
  have hw2' : w1.alloc (.cells #[.int .u8 0, .int .i64 (-1), .string ⟨#[]⟩, .int .u16 0, .int .u8 0, .int .u8 0, .int .u8 0, .int .u8 0, .int .i64 0, .int .i64 0, .int .i64 0, .int .u8 0, .int .i64 0, .int .u8 0, .int .i64 0, .int .i64 0, .int .i64 0, .int .i64 0, .int .i64 0, .int .i64 0, .int .i64 0, .int .i64 0] 37) = w2 := hw2
  rw [hw2']
  have hb1 := b1.size
  have hlt1 := B1.lt
  clear hw2 hw2' B2
  go_loopg [6, 7] n (fun kx s6 s7 wr => ∃ (i : Nat) (v0 : Value), s7 = .int .i64 i ∧ v0 = s6 ∧ i ≤ n ∧ kx = n - i ∧ Below w1.heap.size w1 wr ∧ wr.ownsRow w1.heap.size 37 22 v0 (i + 1) (flatN (ch i)))
  case atStart => exact ⟨0, _, rfl, rfl, by omega, rfl, b2, own2⟩
  case round =>
    obtain ⟨i, v0, rfl, rfl, hi, rfl, bel, hown⟩ := hrel
    clear own2 b2
    have HOWN := Lib.hid hown
    have hbs := bel.size
    clear hown
    by_cases hlt : i < n
    · have hiz : (i : Int) < n := by omega
      clear hzz
      go_wp2_with (refine apN rfl (.tmp 40) rfl 41 rfl rfl (.tmp 38) rfl (chB i) rfl v0 (fun _ => rfl) (fun _ => rfl) w1.heap.size (i + 1) _ HOWN.out (by omega) hbs ?_; intro uu v5 w5 hown5 b5)
      go_roundg (n - (i + 1))
      case measure => omega
      case rel => exact ⟨i + 1, _, by go_num, rfl, by omega, rfl, bel.trans b5, by rw [ch_snoc, flatN_snoc]; exact hown5⟩
    · obtain rfl : i = n := by omega
      have hNs := own_ns HOWN.out (ch_len i)
      have b0r := below_seq b1 bel
      have HZ := Lib.hid hzz
      clear hzz
      go_wp2_with fail
      refine (CK.out _ _ b0r hNs).mono ?_
      rintro e w3 ⟨rfl, b3⟩
      have b13 := bel.trans (b3.mono bel.size)
      have b03 := below_seq b1 b13
      have B3 := B1.keep (S := fun _ => False) (Mod.of_below b13) id
      clear HOWN hNs b0r bel b3 CK B1
      have hcase : (i ≤ 64 ∧ z = 0) ∨ (64 < i ∧ z = 71) := by
        have := HZ.out
        by_cases h64 : i ≤ 64
        · rw [if_pos h64] at this; exact .inl ⟨h64, this⟩
        · rw [if_neg h64] at this; exact .inr ⟨by omega, this⟩
      rcases hcase with ⟨h64, rfl⟩ | ⟨h64, rfl⟩
      all_goals
        have h64z : (i : Int) ≤ 64 ∨ (64 : Int) < i := by omega
        clear HZ
        go_wp2_with fail
        have Z3 := Blk.new w3 66 #[.slice none 0 0, .slice none 0 0]
        have S3 := Blk.new (w3.alloc (.cells #[.slice none 0 0, .slice none 0 0] 66)) 25 #[.pointer none, .pointer (some ⟨w3.heap.size, 0, none⟩)]
        have Z4 := Z3.alloc (.cells #[.pointer none, .pointer (some ⟨w3.heap.size, 0, none⟩)] 25)
        have b4 : Below w3.heap.size w3 ((w3.alloc (.cells #[.slice none 0 0, .slice none 0 0] 66)).alloc (.cells #[.pointer none, .pointer (some ⟨w3.heap.size, 0, none⟩)] 25)) := (((Below.refl _ w3).alloc (Nat.le_refl _) _).alloc (by simp) _)
        simp only [World.size_alloc] at S3
        have C4 := B3.keep (S := fun _ => False) (Mod.of_below b4) id
        have b04 := below_seq b03 b4
        obtain ⟨w4, hw4⟩ : ∃ w4, (w3.alloc (.cells #[.slice none 0 0, .slice none 0 0] 66)).alloc (.cells #[.pointer none, .pointer (some ⟨w3.heap.size, 0, none⟩)] 25) = w4 := ⟨_, rfl⟩
        rw [hw4] at S3 Z4 b04 C4 ⊢
        clear hw4 Z3 b4 B3 b13
        go_loopg [12] 2 (fun kx s12 wr => ∃ j : Nat, s12 = .int .i64 j ∧ j ≤ 2 ∧ kx = 2 - j ∧ Below w4.heap.size w4 wr)
        case atStart => exact ⟨0, rfl, by omega, rfl, Below.refl _ _⟩
        case round =>
          obtain ⟨j, rfl, hj, rfl, bel⟩ := hrel
          have D4 := C4.keep (S := fun _ => False) (Mod.of_below bel) id
          have S4 := S3.keep (S := fun _ => False) (Mod.of_below bel) id
          have Z5 := Z4.keep (S := fun _ => False) (Mod.of_below bel) id
          have b0r := below_seq b04 bel
          by_cases hlt : j < 2
          · have hjz : (j : Int) < 2 := by omega
            obtain ⟨p, hp, hL⟩ : ∃ p, wr.cell? ⟨w3.heap.size + 1, j, none⟩ = some (.pointer p) ∧ LenIs wr (.pointer p) 0 := by
              rcases (show j = 0 ∨ j = 1 by omega) with rfl | rfl
              · exact ⟨none, S4.cell 0, .inl ⟨rfl, rfl⟩⟩
              · exact ⟨some ⟨w3.heap.size, 0, none⟩, S4.cell 1, .inr ⟨w3.heap.size, none, 0, rfl, Z5.cell 0⟩⟩
            have F1 := Lib.hid fun W (b : Below wr.heap.size wr W) => anode_no _ 0 0 W (hL.below b) (by decide)
            have F2 : Hid (∀ W, Below wr.heap.size wr W → Calls Tryd.prog 12 #[.pointer p, .int .i64 0] W fun e w' => e = .returned (.tuple #[.int .i64 0, .int .i64 1]) ∧ Below W.heap.size W w') := Lib.hid fun W b => (adepth_no _ 0 0 W (hL.below b) (by decide)).mono fun e w' ⟨he, hw⟩ => ⟨he, hw ▸ Below.refl _ _⟩
            have F3 : Hid (∀ W, Below wr.heap.size wr W → Calls Tryd.prog 13 #[.pointer p, .int .i64 0] W fun e w' => e = .returned (.tuple #[.int .i64 0, .int .i64 1]) ∧ Below W.heap.size W w') := Lib.hid fun W b => (aend_no _ 0 0 W (hL.below b) (by decide)).mono fun e w' ⟨he, hw⟩ => ⟨he, hw ▸ Below.refl _ _⟩
            have F4 : Hid (∀ W, Below wr.heap.size wr W → Calls Tryd.prog 14 #[.pointer p, .int .i64 0] W fun e w' => e = .returned (.tuple #[.slice none 0 0, .int .i64 1]) ∧ Below W.heap.size W w') := Lib.hid fun W b => (akids_no _ 0 0 W (hL.below b) (by decide)).mono fun e w' ⟨he, hw⟩ => ⟨he, hw ▸ Below.refl _ _⟩
            have F5 := Lib.hid fun W (b : Below wr.heap.size wr W) => actx_no _ 0 0 W (hL.below b) ⟨p, rfl⟩ (by decide)
            have F6 := Lib.hid fun W (b : Below wr.heap.size wr W) => acommon_no _ 0 0 0 W (hL.below b) (by decide)
            have F7 := Lib.hid fun W (b : Below wr.heap.size wr W) => astyles_no _ base W (hL.below b)
            have F8 : Hid (∀ W, Below wr.heap.size wr W → Calls Tryd.prog 31 #[.pointer p] W fun e w' => e = .returned (.int .i64 0) ∧ Below W.heap.size W w') := Lib.hid fun W b => (alen_any _ 0 W (hL.below b)).mono fun e w' ⟨he, hw⟩ => ⟨he, hw ▸ Below.refl _ _⟩
            have F9 : Hid (∀ W, Below wr.heap.size wr W → Calls Tryd.prog 26 #[.pointer p, .int .i64 0] W fun e w' => e = .returned (.slice none 0 0) ∧ Below W.heap.size W w') := Lib.hid fun W b => (awalk_no _ 0 0 W (hL.below b) (by decide)).mono fun e w' ⟨he, hw⟩ => ⟨he, hw ▸ Below.refl _ _⟩
            simp only [show fndE 0 0 = 1 from rfl, show or2 1 1 = 1 from rfl] at F1 F5 F6
            have HD4 := Lib.hid D4
            clear hL S4 Z5 D4 S3 Z4 C4 h64z
            go_wp2_with fail
            refine (F1.out _ (Below.refl _ _)).mono ?_
            rintro e w5 ⟨rfl, b5⟩
            go_wp2_with (refine nwN rfl rfl 14 rfl rfl (.tmp 76) rfl rfl .zero (fun _ => rfl) (fun _ => rfl) ?_; intro w6 b6 B6)
            have c6 := below_seq b5 b6
            refine (F2.out _ c6).mono ?_
            rintro e w7 ⟨rfl, b7⟩
            have c7 := below_seq c6 b7
            go_wp2_with fail
            refine (F3.out _ c7).mono ?_
            rintro e w8 ⟨rfl, b8⟩
            have c8 := below_seq c7 b8
            go_wp2_with fail
            refine (F4.out _ c8).mono ?_
            rintro e w9 ⟨rfl, b9⟩
            have c9 := below_seq c8 b9
            go_wp2_with fail
            refine (F5.out _ c9).mono ?_
            rintro e w10 ⟨rfl, b10⟩
            have c10 := below_seq c9 b10
            go_wp2_with fail
            refine (F6.out _ c10).mono ?_
            rintro e w11 ⟨rfl, b11⟩
            have c11 := below_seq c10 b11
            have E11 := HD4.out.keep (S := fun _ => False) (Mod.of_below c11) id
            clear b5 b6 B6 c6 b7 c7 b8 c8 b9 c9 b10 c10 b11
            go_wp2_with (refine ldS rfl (.tmp 3) rfl _ rfl base E11.lies ?_)
            refine (F7.out _ c11).mono ?_
            rintro e w12 ⟨rfl, b12⟩
            have c12 := below_seq c11 b12
            go_wp2_with fail
            refine (F8.out _ c12).mono ?_
            rintro e w13 ⟨rfl, b13⟩
            have c13 := below_seq c12 b13
            go_wp2_with fail
            refine (F9.out _ c13).mono ?_
            rintro e w14 ⟨rfl, b14⟩
            have c14 := below_seq c13 b14
            go_wp2_with fail
            go_roundg (2 - (j + 1))
            case measure => omega
            case rel => exact ⟨j + 1, by go_num, by omega, rfl, below_seq bel c14⟩
          · obtain rfl : j = 2 := by omega
            go_wp2_with fail
            refine (CH.out _ b0r).mono ?_
            rintro e wh ⟨rfl, bh⟩
            go_wp2_with fail
            go_ret
            exact ⟨rfl, below_seq b0r bh⟩
end Go.Proofs.YtgpobhnonjdamaaDoor
