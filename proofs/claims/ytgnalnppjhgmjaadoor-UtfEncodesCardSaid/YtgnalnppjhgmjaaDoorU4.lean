/- Contract of the document's Decode for layer 2 (package stickfulref02): the characters of a text, in a row of the call's own. Condition: the text has at most 100000 bytes. -/
import Derived.Test.YtgnalnppjhgmjaaDoorU3
import Derived.OwnWalk
import Derived.Maps.AppendAt
import Derived.Deep.AppendLies
namespace Go.Proofs.YtgnalnppjhgmjaaDoor
open Go.ChangeShapes Go.WideShapes Go.ChangeAt Go.RowKit

theorem bs_extract (s : ByteArray) (a b : Nat) : bs (s.extract a b) = ((bs s).drop a).take (b - a) := by
  unfold bs
  simp [ByteArray.data_extract, List.map_take, List.map_drop]

theorem Tryd.infoC : (Tryd.prog.info? 32).map (fun i => (i.zero, i.size, i.bytes)) = some (some (.agg #[.int .i32 0, .int .i64 0, .int .i64 0, .int .i64 0, .int .u8 0]), 5, 40) := by kernel_rfl

/-- a character's cells -/
def cellsC (r : Int) (at_ n : Nat) : List Value := [.int .i32 r, .int .i64 0, .int .i64 at_, .int .i64 n, .int .u8 0]
/-- the cells of characters, the first at a place -/
def ats : Nat → List (Int × Nat) → List Value
  | _, [] => []
  | k, (r, n) :: t => cellsC r k n ++ ats (k + n) t

theorem ats_snoc : ∀ (l : List (Int × Nat)) (k : Nat) (r : Int) (n : Nat), ats k (l ++ [(r, n)]) = ats k l ++ cellsC r (k + (l.map Prod.snd).sum) n
  | [], k, r, n => by simp [ats]
  | (x, m) :: t, k, r, n => by
    rw [List.cons_append, ats, ats_snoc t (k + m) r n, ats, List.append_assoc]
    simp [Nat.add_assoc]

theorem ats_len : ∀ (l : List (Int × Nat)) (k : Nat), (ats k l).length = l.length * 5
  | [], _ => by simp [ats]
  | (x, m) :: t, k => by
    rw [ats, List.length_append, ats_len t (k + m)]
    simp [cellsC]
    omega

theorem drawn_below {B : Nat} {a b c : World} (h : Below B a b) (d : Drawn b c) : Below B a c := by
  obtain ⟨n, rfl⟩ := d
  exact h.trans ⟨rfl, rfl, rfl, Nat.le_refl _, fun _ _ => rfl⟩

theorem drawn_own {w w' : World} {base : Nat} {e : TypeId} {size : Nat} {v : Value} {n : Nat} {xs : List Value} (h : w.ownsRow base e size v n xs) (d : Drawn w w') : w'.ownsRow base e size v n xs := by
  obtain ⟨n, rfl⟩ := d
  exact h

/-- one character more -/
theorem next_char (l : List Nat) (k : Nat) (dn : List (Int × Nat)) (c : Nat) (t : List Nat) (r : Int) (n : Nat) (hl : l.drop k = c :: t) (hr : Utf.rune (c :: t) = r) (hn : Utf.size (c :: t) = n) (hs : (dn.map Prod.snd).sum = k) (hd : Utf.decs l = dn ++ Utf.decs (l.drop k)) :
    ((dn ++ [(r, n)]).map Prod.snd).sum = k + n ∧ Utf.decs l = (dn ++ [(r, n)]) ++ Utf.decs (l.drop (k + n)) ∧ ats 0 (dn ++ [(r, n)]) = ats 0 dn ++ cellsC r k n := by
  refine ⟨by simp [hs], ?_, ?_⟩
  · rw [hd, hl, Utf.decs, hr, hn, ← hl, List.drop_drop]
    simp
  · rw [ats_snoc, hs, Nat.zero_add]

set_option maxRecDepth 100000 in
set_option maxHeartbeats 4000000 in
theorem rdecode_any (s : ByteArray) (w : World) (hs : s.size ≤ 100000) :
    Calls Tryd.prog 12 #[.string s] w fun e w' => ∃ v, e = .returned v ∧ Below w.heap.size w w' ∧ w'.ownsRow w.heap.size 32 5 v (Utf.decs (bs s)).length (ats 0 (Utf.decs (bs s))) := by
  obtain ⟨i0, hi, hz0, hz1, hz2⟩ := info_parts Tryd.infoC
  have HI := Lib.hid (And.intro hi (And.intro hz0 (And.intro hz1 hz2)))
  clear hi hz0 hz1 hz2
  go_enter Tryd.func12, Tryd.ntmps12
  go_wp2_with fail
  go_loopg [3, 4] 200000 (fun g s3 s4 wx => Below w.heap.size w wx ∧ ∃ (k : Nat) (dn : List (Int × Nat)), s4 = .int .i64 k ∧ k ≤ s.size ∧ g = 200000 - k ∧ dn.length ≤ k ∧ wx.ownsRow w.heap.size 32 5 s3 dn.length (ats 0 dn) ∧ Hid ((dn.map Prod.snd).sum = k) ∧ Hid (Utf.decs (bs s) = dn ++ Utf.decs ((bs s).drop k)))
  case atStart => exact ⟨Below.refl _ _, 0, [], rfl, by omega, rfl, by simp, World.ownsRow_nil _ _ _ _, rfl, by show _ = _; simp⟩
  case round =>
    obtain ⟨bel, k, dn, rfl, hk, rfl, hdk, hown, HS, HD⟩ := hrel
    have hsz := bel.size
    by_cases hlt : k < s.size
    · have hltz : (k : Int) < (s.size : Int) := by omega
      obtain ⟨c, hc⟩ : ∃ c : UInt8, s[k] = c := ⟨_, rfl⟩
      have hcb := byte_le c
      have hdk2 := bs_drop s k hlt
      rw [hc] at hdk2
      have HK := Lib.hid hdk2
      have C1 : Hid (∀ w, Calls Tryd.prog 20 #[.string (s.extract k s.size)] w fun e w' => e = .returned (.int .i64 (Utf.begins ((bs s).drop k) : Nat)) ∧ Drawn w w') := by
        intro w
        have h := begins_any (s.extract k s.size) w (by simp; omega) (by simp; omega)
        rw [bs_extract, List.take_of_length_le (by rw [List.length_drop, bs_len]; omega)] at h
        exact h
      have hbl := Utf.begins_le ((bs s).drop k)
      obtain ⟨q, hq⟩ : ∃ q, Utf.begins ((bs s).drop k) = q := ⟨_, rfl⟩
      rw [hq] at C1 hbl
      have HQ := Lib.hid hq
      have hl4 := Utf.long_le c.toNat
      have hq2 : q ≤ s.size - k := by have := hbl.2; rw [List.length_drop, bs_len] at this; exact this
      have hq4 := hbl.1
      have hok : Utf.ok (c.toNat :: (bs s).drop (k + 1)) = (decide (0 < q) && decide (q = Utf.long c.toNat)) := by
        rw [← HK.out]
        have : Utf.ok ((bs s).drop k) = (decide (0 < Utf.begins (c.toNat :: (bs s).drop (k + 1))) && decide (Utf.begins (c.toNat :: (bs s).drop (k + 1)) = Utf.long c.toNat)) := by rw [HK.out]; rfl
        rw [this, ← HK.out, HQ.out]
      have hbq : Utf.begins (c.toNat :: (bs s).drop (k + 1)) = q := by rw [← HK.out]; exact HQ.out
      obtain ⟨m, hm⟩ : ∃ m, Utf.long c.toNat = m := ⟨_, rfl⟩
      have C2 := Lib.hid (fun w => long_any c.toNat w hcb)
      rw [hm] at C2 hok hl4
      clear hq hdk2 hbl hm
      by_cases q0 : q = 0
      · have hf : Utf.ok (c.toNat :: (bs s).drop (k + 1)) = false := by rw [hok]; simp [q0]
        have NX := Lib.hid (next_char (bs s) k dn c.toNat _ 65533 1 HK.out (by unfold Utf.rune; rw [if_neg (by simp [hf])]) (by unfold Utf.size; rw [if_neg (by simp [hf]), hbq, q0]; rfl) HS.out HD.out)
        clear hok hbq hf
        subst q0
        go_wp2_with fail
        refine (C1.out _).mono ?_
        rintro e w1 ⟨rfl, d1⟩
        have bel1 := drawn_below bel d1
        have own1 := drawn_own hown d1
        clear d1 hown
        go_wp2_with (at_builtin; refine wpList_append_own _ rfl _ _ 23 rfl w.heap.size 32 i0 (.agg #[.int .i32 0, .int .i64 0, .int .i64 0, .int .i64 0, .int .u8 0]) 5 40 Tryd.underlying23 HI.out.1 HI.out.2.1 HI.out.2.2.1 HI.out.2.2.2 rfl (by decide) _ _ _ rfl (own1.alloc _) ⟨w1.heap.size, 0, none⟩ 1 1 (cellsC (65533) k 1) rfl rfl ?c1 ?c2 ?c3 ?c4 ?c5 ?_)
        case c1 => exact World.news_of_block (MapKept.heap_alloc w1 _).1
        case c2 => intro u hu; simp [cellsC] at hu; rcases hu with h | h | h | h | h <;> subst h <;> rfl
        case c3 => unfold maxLen; omega
        case c4 => omega
        case c5 => have := bel1.size; simp; omega
        intro v' w2 hown2 hgrow _
        have bel2 : Below w.heap.size w w2 := (bel1.alloc bel1.size _).grown hgrow (by simp; have := bel1.size; omega) (fun g hg => (own1.lt g hg).1)
        have own2 : w2.ownsRow w.heap.size 32 5 v' (dn ++ [(65533, 1)]).length (ats 0 (dn ++ [(65533, 1)])) := by
          rw [NX.out.2.2, List.length_append]
          exact hown2
        clear hown2 hgrow own1
        go_wp2_with fail
        go_roundg (200000 - (k + 1))
        case measure => omega
        case rel => exact ⟨bel2, k + 1, dn ++ [(65533, 1)], by go_num, by omega, rfl, by simp; omega, own2, NX.out.1, NX.out.2.1⟩
      · by_cases qm : q = m
        · have hf : Utf.ok (c.toNat :: (bs s).drop (k + 1)) = true := by rw [hok]; simp [qm]; omega
          obtain ⟨p, hp⟩ : ∃ p, Utf.point (((bs s).drop k).take q) = p := ⟨_, rfl⟩
          have NX := Lib.hid (next_char (bs s) k dn c.toNat _ p q HK.out (by unfold Utf.rune; rw [if_pos hf, hbq, ← HK.out, hp]) (by unfold Utf.size; rw [if_pos hf, hbq]) HS.out HD.out)
          have C3 : Hid (∀ w, Calls Tryd.prog 22 #[.string (s.extract k (k + q))] w fun e w' => e = .returned (.int .i32 p) ∧ w = w') := by
            intro w
            have h := point_any (s.extract k (k + q)) w (by simp; omega) (by simp; omega)
            rw [bs_extract, Nat.add_sub_cancel_left, hp] at h
            exact h
          have q1 : (0 : Int) < (q : Int) := by omega
          clear hok hbq hf hp
          subst qm
          go_wp2_with fail
          refine (C1.out _).mono ?_
          rintro e w1 ⟨rfl, d1⟩
          have bel1 := drawn_below bel d1
          have own1 := drawn_own hown d1
          clear d1 hown
          go_wp2_with fail
          refine (C2.out _).mono ?_
          rintro e w' ⟨rfl, rfl⟩
          go_wp2_with fail
          refine (C3.out _).mono ?_
          rintro e w' ⟨rfl, rfl⟩
          go_wp2_with (at_builtin; refine wpList_append_own _ rfl _ _ 23 rfl w.heap.size 32 i0 (.agg #[.int .i32 0, .int .i64 0, .int .i64 0, .int .i64 0, .int .u8 0]) 5 40 Tryd.underlying23 HI.out.1 HI.out.2.1 HI.out.2.2.1 HI.out.2.2.2 rfl (by decide) _ _ _ rfl (own1.alloc _) ⟨w1.heap.size, 0, none⟩ 1 1 (cellsC (p) k q) rfl rfl ?c1 ?c2 ?c3 ?c4 ?c5 ?_)
          case c1 => exact World.news_of_block (MapKept.heap_alloc w1 _).1
          case c2 => intro u hu; simp [cellsC] at hu; rcases hu with h | h | h | h | h <;> subst h <;> rfl
          case c3 => unfold maxLen; omega
          case c4 => omega
          case c5 => have := bel1.size; simp; omega
          intro v' w2 hown2 hgrow _
          have bel2 : Below w.heap.size w w2 := (bel1.alloc bel1.size _).grown hgrow (by simp; have := bel1.size; omega) (fun g hg => (own1.lt g hg).1)
          have own2 : w2.ownsRow w.heap.size 32 5 v' (dn ++ [(p, q)]).length (ats 0 (dn ++ [(p, q)])) := by
            rw [NX.out.2.2, List.length_append]
            exact hown2
          clear hown2 hgrow own1
          go_wp2_with fail
          go_roundg (200000 - (k + q))
          case measure => omega
          case rel => exact ⟨bel2, k + q, dn ++ [(p, q)], by go_num, by omega, rfl, by simp; omega, own2, NX.out.1, NX.out.2.1⟩

        · have hf : Utf.ok (c.toNat :: (bs s).drop (k + 1)) = false := by rw [hok]; simp [qm]
          have NX := Lib.hid (next_char (bs s) k dn c.toNat _ 65533 q HK.out (by unfold Utf.rune; rw [if_neg (by simp [hf])]) (by unfold Utf.size; rw [if_neg (by simp [hf]), hbq, Nat.max_eq_left (by omega)]) HS.out HD.out)
          clear hok hbq hf
          have q1 : (0 : Int) < (q : Int) := by omega
          have qmi : ((q : Int) == (m : Int)) = false := by simp; omega
          have hmx : max (q : Int) 1 = q := by omega
          go_wp2_with fail
          refine (C1.out _).mono ?_
          rintro e w1 ⟨rfl, d1⟩
          have bel1 := drawn_below bel d1
          have own1 := drawn_own hown d1
          clear d1 hown
          go_wp2_with fail
          refine (C2.out _).mono ?_
          rintro e w' ⟨rfl, rfl⟩
          go_wp2_with (at_builtin; refine wpList_append_own _ rfl _ _ 23 rfl w.heap.size 32 i0 (.agg #[.int .i32 0, .int .i64 0, .int .i64 0, .int .i64 0, .int .u8 0]) 5 40 Tryd.underlying23 HI.out.1 HI.out.2.1 HI.out.2.2.1 HI.out.2.2.2 rfl (by decide) _ _ _ rfl (own1.alloc _) ⟨w1.heap.size, 0, none⟩ 1 1 (cellsC (65533) k q) rfl rfl ?c1 ?c2 ?c3 ?c4 ?c5 ?_)
          case c1 => exact World.news_of_block (MapKept.heap_alloc w1 _).1
          case c2 => intro u hu; simp [cellsC] at hu; rcases hu with h | h | h | h | h <;> subst h <;> rfl
          case c3 => unfold maxLen; omega
          case c4 => omega
          case c5 => have := bel1.size; simp; omega
          intro v' w2 hown2 hgrow _
          have bel2 : Below w.heap.size w w2 := (bel1.alloc bel1.size _).grown hgrow (by simp; have := bel1.size; omega) (fun g hg => (own1.lt g hg).1)
          have own2 : w2.ownsRow w.heap.size 32 5 v' (dn ++ [(65533, q)]).length (ats 0 (dn ++ [(65533, q)])) := by
            rw [NX.out.2.2, List.length_append]
            exact hown2
          clear hown2 hgrow own1
          go_wp2_with fail
          go_roundg (200000 - (k + q))
          case measure => omega
          case rel => exact ⟨bel2, k + q, dn ++ [(65533, q)], by go_num, by omega, rfl, by simp; omega, own2, NX.out.1, NX.out.2.1⟩
    · have hkk : k = s.size := by omega
      have fin : Utf.decs (bs s) = dn := by
        rw [HD.out, bs_end s k (by omega), Utf.decs, List.append_nil]
      have FIN := Lib.hid fin
      clear fin hkk
      go_wp2_with fail
      go_ret
      refine ⟨_, rfl, bel, ?_⟩
      rw [FIN.out]
      exact hown
end Go.Proofs.YtgnalnppjhgmjaaDoor
