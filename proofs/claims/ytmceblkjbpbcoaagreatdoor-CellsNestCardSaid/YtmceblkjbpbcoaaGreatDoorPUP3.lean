/- Contracts of layers below. -/
import Derived.Test.YtmceblkjbpbcoaaGreatDoorPUtfMath
import Derived.Deep.RegionHeld3
import Derived.RangeFuncNested
import Derived.RangeFuncBound
import Derived.RangeFuncCalls
import Derived.RangeFuncLeaves
import Derived.RangeFuncBox
import Derived.Shelf.Abstract
import Derived.Shelf.RegionOpen
import Derived.WalkKit
import Derived.OwnWalkIn
import Derived.TacticsInMore
import Derived.LoopNIn
import Derived.LoopIn
namespace Go.Proofs.YtmceblkjbpbcoaaGreatDoor
set_option maxRecDepth 100000
set_option maxHeartbeats 4000000
open Go.ChangeShapes Go.WideShapes Go.ChangeAt Go.RowKit
namespace Ut
def markOf (m : Nat) : Nat := if m = 1 then 0 else if m = 2 then 192 else if m = 3 then 224 else 240
theorem qtz (c i : Nat) (hi : i < 9) (h : Fits i c) : 1 <= Utf.long c /\ ∃ f l lo hi : Nat, rowOf i = #[.int .u8 f, .int .u8 l, .int .u8 lo, .int .u8 hi, .int .u8 (markOf (Utf.long c)), .int .i64 (Utf.long c)] ∧
 ∀ n d, 1 <= n -> n < Utf.long c -> alw lo hi n d = Utf.may c n d := by
 have hc : i = 0 \/ i = 1 \/ i = 2 \/ i = 3 \/ i = 4 \/ i = 5 \/ i = 6 \/ i = 7 \/ i = 8 := by omega
 rcases hc with rfl | rfl | rfl | rfl | rfl | rfl | rfl | rfl | rfl
 ·have h2 : 0 <= c /\ c <= 127 := h
  have hl : Utf.long c = 1 := by unfold Utf.long; rw [if_pos h2.2]
  rw [hl]
  exact ⟨by omega, 0, 127, 0, 0, rfl, fun n d h1 h2 => by omega⟩
 ·have h2 : 194 <= c /\ c <= 223 := h
  have hl : Utf.long c = 2 := by unfold Utf.long; rw [if_neg (by omega), if_pos (by omega)]
  rw [hl]
  refine ⟨by omega, 194, 223, 128, 191, rfl, fun n d h1 h3 => ?_⟩
  have : n = 1 := by omega
  subst this
  unfold alw Utf.may
  rw [if_pos rfl, if_neg (by omega), if_neg (by omega), if_neg (by omega), if_neg (by omega), if_neg (by omega)]
 ·have h2 : 224 <= c /\ c <= 224 := h
  have hl : Utf.long c = 3 := by unfold Utf.long; rw [if_neg (by omega), if_neg (by omega), if_pos (by omega)]
  rw [hl]
  refine ⟨by omega, 224, 224, 160, 191, rfl, fun n d h1 h3 => ?_⟩
  unfold alw Utf.may
  by_cases hn : n = 1
  ·rw [if_pos hn, if_neg (by omega), if_pos (by omega)]
  ·rw [if_neg hn, if_pos (by omega)]
 ·have h2 : 225 <= c /\ c <= 236 := h
  have hl : Utf.long c = 3 := by unfold Utf.long; rw [if_neg (by omega), if_neg (by omega), if_pos (by omega)]
  rw [hl]
  refine ⟨by omega, 225, 236, 128, 191, rfl, fun n d h1 h3 => ?_⟩
  unfold alw Utf.may
  by_cases hn : n = 1
  ·rw [if_pos hn, if_neg (by omega), if_neg (by omega), if_neg (by omega), if_neg (by omega), if_neg (by omega)]
  ·rw [if_neg hn, if_pos (by omega)]
 ·have h2 : 237 <= c /\ c <= 237 := h
  have hl : Utf.long c = 3 := by unfold Utf.long; rw [if_neg (by omega), if_neg (by omega), if_pos (by omega)]
  rw [hl]
  refine ⟨by omega, 237, 237, 128, 159, rfl, fun n d h1 h3 => ?_⟩
  unfold alw Utf.may
  by_cases hn : n = 1
  ·rw [if_pos hn, if_neg (by omega), if_neg (by omega), if_pos (by omega)]
  ·rw [if_neg hn, if_pos (by omega)]
 ·have h2 : 238 <= c /\ c <= 239 := h
  have hl : Utf.long c = 3 := by unfold Utf.long; rw [if_neg (by omega), if_neg (by omega), if_pos (by omega)]
  rw [hl]
  refine ⟨by omega, 238, 239, 128, 191, rfl, fun n d h1 h3 => ?_⟩
  unfold alw Utf.may
  by_cases hn : n = 1
  ·rw [if_pos hn, if_neg (by omega), if_neg (by omega), if_neg (by omega), if_neg (by omega), if_neg (by omega)]
  ·rw [if_neg hn, if_pos (by omega)]
 ·have h2 : 240 <= c /\ c <= 240 := h
  have hl : Utf.long c = 4 := by unfold Utf.long; rw [if_neg (by omega), if_neg (by omega), if_neg (by omega), if_pos (by omega)]
  rw [hl]
  refine ⟨by omega, 240, 240, 144, 191, rfl, fun n d h1 h3 => ?_⟩
  unfold alw Utf.may
  by_cases hn : n = 1
  ·rw [if_pos hn, if_neg (by omega), if_neg (by omega), if_neg (by omega), if_pos (by omega)]
  ·rw [if_neg hn, if_pos (by omega)]
 ·have h2 : 241 <= c /\ c <= 243 := h
  have hl : Utf.long c = 4 := by unfold Utf.long; rw [if_neg (by omega), if_neg (by omega), if_neg (by omega), if_pos (by omega)]
  rw [hl]
  refine ⟨by omega, 241, 243, 128, 191, rfl, fun n d h1 h3 => ?_⟩
  unfold alw Utf.may
  by_cases hn : n = 1
  ·rw [if_pos hn, if_neg (by omega), if_neg (by omega), if_neg (by omega), if_neg (by omega), if_neg (by omega)]
  ·rw [if_neg hn, if_pos (by omega)]
 ·have h2 : 244 <= c /\ c <= 244 := h
  have hl : Utf.long c = 4 := by unfold Utf.long; rw [if_neg (by omega), if_neg (by omega), if_neg (by omega), if_pos (by omega)]
  rw [hl]
  refine ⟨by omega, 244, 244, 128, 143, rfl, fun n d h1 h3 => ?_⟩
  unfold alw Utf.may
  by_cases hn : n = 1
  ·rw [if_pos hn, if_neg (by omega), if_neg (by omega), if_neg (by omega), if_neg (by omega), if_pos (by omega)]
  ·rw [if_neg hn, if_pos (by omega)]
theorem no_row (c : Nat) (h : ∀ i, i < 9 -> ¬ Fits i c) : Utf.long c = 0 := by
 have h0 : ¬ (0 <= c /\ c <= 127) := h 0 (by omega)
 have h1 : ¬ (194 <= c /\ c <= 223) := h 1 (by omega)
 have h2 : ¬ (224 <= c /\ c <= 224) := h 2 (by omega)
 have h3 : ¬ (225 <= c /\ c <= 236) := h 3 (by omega)
 have h4 : ¬ (237 <= c /\ c <= 237) := h 4 (by omega)
 have h5 : ¬ (238 <= c /\ c <= 239) := h 5 (by omega)
 have h6 : ¬ (240 <= c /\ c <= 240) := h 6 (by omega)
 have h7 : ¬ (241 <= c /\ c <= 243) := h 7 (by omega)
 have h8 : ¬ (244 <= c /\ c <= 244) := h 8 (by omega)
 unfold Utf.long
 rw [if_neg (by omega), if_neg (by omega), if_neg (by omega), if_neg (by omega)]
theorem qrd (c : Nat) (h : 1 <= Utf.long c) : markOf (Utf.long c) <= c /\ c - markOf (Utf.long c) <= 127 := by
 obtain ⟨i1, i2, i3, i4⟩ := Utf.qrh c
 have hl := Utf.qil c
 have hc : Utf.long c = 1 \/ Utf.long c = 2 \/ Utf.long c = 3 \/ Utf.long c = 4 := by omega
 rcases hc with e | e | e | e
 ·have := i1 e; rw [e]; simp [markOf]; omega
 ·have := i2 e; rw [e]; simp [markOf]; omega
 ·have := i3 e; rw [e]; simp [markOf]; omega
 ·have := i4 e; rw [e]; simp [markOf]; omega
def part (mk : Nat) : List Nat -> Nat
 | [] => 0
 | a :: r => r.foldl (fun x b => 64 * x + (b - 128)) (a - mk)
theorem qq2 (mk a : Nat) (r : List Nat) (d : Nat) : part mk (a :: r ++ [d]) = 64 * part mk (a :: r) + (d - 128) := by
 simp [part]
def Rd (c m : Nat) (l : List Nat) (k R : Nat) : Prop :=
 Utf.begins l = k + Utf.cnt c (m - k) k (l.drop k) /\ R = part (markOf m) (l.take k) /\ (∀ x ∈ (l.take k).drop 1, 128 <= x /\ x <= 191) ∧
  (k = 1 /\ R < 128 \/ k = 2 /\ R < 8192 \/ k = 3 /\ R < 524288 \/ k = 4 /\ R < 33554432)
theorem qt7 (c : Nat) (r : List Nat) (h : 1 <= Utf.long c) : Rd c (Utf.long c) (c :: r) 1 (c - markOf (Utf.long c)) := by
 have := qrd c h
 refine ⟨?_, by simp [part], by simp, by omega⟩
 simp only [Utf.begins, List.drop_succ_cons, List.drop_zero]
 rw [if_neg (by omega)]
theorem qt8 (k m R d : Nat) (hk : k < m) (hm : m <= 4) (hd : d <= 191) (h : k = 1 /\ R < 128 \/ k = 2 /\ R < 8192 \/ k = 3 /\ R < 524288 \/ k = 4 /\ R < 33554432) :
 k + 1 = 1 /\ 64 * R + (d - 128) < 128 \/ k + 1 = 2 /\ 64 * R + (d - 128) < 8192 \/ k + 1 = 3 /\ 64 * R + (d - 128) < 524288 \/ k + 1 = 4 /\ 64 * R + (d - 128) < 33554432 := by
 rcases h with ⟨e, hr⟩ | ⟨e, hr⟩ | ⟨e, hr⟩ | ⟨e, _⟩
 ·exact .inr (.inl ⟨by omega, by omega⟩)
 ·exact .inr (.inr (.inl ⟨by omega, by omega⟩))
 ·exact .inr (.inr (.inr ⟨by omega, by omega⟩))
 ·omega
theorem qy3 (c m : Nat) (l : List Nat) (k R d : Nat) (t : List Nat) (h : Rd c m l k R) (hk : k < m) (hm : m <= 4) (hd : l.drop k = d :: t) (hy : Utf.may c k d = true) : Rd c m l (k + 1) (64 * R + (d - 128)) := by
 obtain ⟨h1, h2, h3, h4⟩ := h
 have hb := Utf.qxh _ _ _ hy
 have htk : l.take (k + 1) = l.take k ++ [d] := by
  have e : l.take (k + 1) = l.take k ++ (l.drop k).take 1 := by rw [<- List.take_add]
  rw [e, hd]; simp
 have hne : ∃ a r, l.take k = a :: r := by
  cases hl : l with
  | nil => rw [hl] at hd; simp at hd
  | cons a r => exact ⟨a, r.take (k - 1), by obtain ⟨j, rfl⟩ : ∃ j, k = j + 1 := ⟨k - 1, by omega⟩; simp⟩
 obtain ⟨a, r, har⟩ := hne
 refine ⟨?_, ?_, ?_, qt8 k m R d hk hm hb.2.1 h4⟩
 ·rw [h1, hd]
  obtain ⟨j, hj⟩ : ∃ j, m - k = j + 1 := ⟨m - k - 1, by omega⟩
  have hdr : l.drop (k + 1) = t := by
   have : l.drop (k + 1) = (l.drop k).drop 1 := by rw [List.drop_drop]
   rw [this, hd]; rfl
  rw [hdr, hj, Utf.cnt, if_pos hy, show m - (k + 1) = j by omega]
  omega
 ·rw [htk, h2, har, qq2]
 ·rw [htk, har]
  rw [har] at h3
  intro x hx
  simp at hx
  rcases hx with hx | hx
  ·exact h3 x (by simpa using hx)
  ·subst hx; exact ⟨hb.1, hb.2.1⟩
theorem qqr (c : Nat) (l : List Nat) (k R : Nat) (t : List Nat) (h : Rd c (Utf.long c) l k R) (hl : l = c :: t) (hk : k < Utf.long c) (h1 : 1 <= k) (hd : l.drop k = [] \/ ∃ d u, l.drop k = d :: u /\ Utf.may c k d = false) :
 Utf.rune l = 65533 /\ Utf.size l = k /\ Utf.ok l = false := by
 have hb : Utf.begins l = k := by
  rw [h.1]
  obtain ⟨j, hj⟩ : ∃ j, Utf.long c - k = j + 1 := ⟨Utf.long c - k - 1, by omega⟩
  rw [hj]
  rcases hd with hd | ⟨d, u, hd, hy⟩
  ·rw [hd, Utf.cnt]; omega
  ·rw [hd, Utf.cnt, if_neg (by simp [hy])]; omega
 have hok : Utf.ok l = false := by
  rw [hl] at hb |-
  simp only [Utf.ok, hb]
  simp
  omega
 unfold Utf.rune Utf.size
 rw [hok, hb]
 simp
 omega
theorem rd_end (c : Nat) (l : List Nat) (R : Nat) (t : List Nat) (h : Rd c (Utf.long c) l (Utf.long c) R) (hl : l = c :: t) (h0 : 1 <= Utf.long c) (hs : Utf.long c <= l.length) :
 Utf.rune l = R /\ Utf.size l = Utf.long c /\ Utf.ok l = true := by
 obtain ⟨h1, h2, h3, h4⟩ := h
 have hb : Utf.begins l = Utf.long c := by
  rw [h1, Nat.sub_self, Utf.cnt]; omega
 have hok : Utf.ok l = true := by
  rw [hl] at hb |-
  simp only [Utf.ok, hb]
  simp
  omega
 refine ⟨?_, ?_, hok⟩
 ·unfold Utf.rune
  rw [if_pos hok, hb, h2]
  obtain ⟨i1, i2, i3, i4⟩ := Utf.qrh c
  have hm := Utf.qil c
  have hc : Utf.long c = 1 \/ Utf.long c = 2 \/ Utf.long c = 3 \/ Utf.long c = 4 := by omega
  subst hl
  rcases hc with e | e | e | e
  ·have := i1 e
   rw [e]
   simp [Utf.point, part, markOf]
  ·have := i2 e
   rw [e] at hs h3 |-
   match t, hs, h3 with
   | b :: t, _, h3 =>
     have hb := h3 b (by simp)
     simp [Utf.point, part, markOf]
     omega
   | [], hs, _ => simp at hs
  ·have := i3 e
   rw [e] at hs h3 |-
   match t, hs, h3 with
   | b :: d :: t, _, h3 =>
     have hb := h3 b (by simp)
     have hd := h3 d (by simp)
     simp [Utf.point, part, markOf]
     omega
   | [_], hs, _ => simp at hs
   | [], hs, _ => simp at hs
  ·have := i4 e
   rw [e] at hs h3 |-
   match t, hs, h3 with
   | b :: d :: x :: t, _, h3 =>
     have hb := h3 b (by simp)
     have hd := h3 d (by simp)
     have hx := h3 x (by simp)
     simp [Utf.point, part, markOf]
     omega
   | [_, _], hs, _ => simp at hs
   | [_], hs, _ => simp at hs
   | [], hs, _ => simp at hs
 ·unfold Utf.size
  rw [if_pos hok, hb]
end Ut
namespace Ut
def Bx (w : World) (g f l lo hi mk m : Nat) : Prop := w.cell? ⟨g, 0, none⟩ = some (.int .u8 f) /\ w.cell? ⟨g, 1, none⟩ = some (.int .u8 l) /\ w.cell? ⟨g, 2, none⟩ = some (.int .u8 lo) /\ w.cell? ⟨g, 3, none⟩ = some (.int .u8 hi) /\ w.cell? ⟨g, 4, none⟩ = some (.int .u8 mk) /\ w.cell? ⟨g, 5, none⟩ = some (.int .i64 m)
theorem qt4 (s : ByteArray) (w : World) (h0 : 0 < s.size) (hs : s.size <= 100000) (hT : Tab w) :
 Calls Tryz.prog 129 #[.string s] w fun e w' => e = .returned (.tuple #[.int .i32 (Utf.rune (bs s)), .int .i64 (Utf.size (bs s) : Nat), .bool (Utf.ok (bs s))]) /\ Below w.heap.size w w' := by
 obtain ⟨c, hc⟩ : ∃ c : UInt8, s[0] = c := ⟨_, rfl⟩
 have hcb := qsp c
 have hd0 := qlm s 0 h0
 rw [hc, List.drop_zero] at hd0
 have HD0 := Lib.hid hd0
 clear hd0
 have h0z : (0 : Int) < (s.size : Int) := by omega
 obtain ⟨cn, hcn⟩ : ∃ cn, c.toNat = cn := ⟨_, rfl⟩
 have C := Lib.hid (qoh c.toNat w hcb hT)
 clear hT
 rw [hcn] at hcb C HD0
 have HCN := Lib.hid hcn
 go_enter Tryz.func129, Tryz.ntmps129
 go_wp2_with fail
 refine (C.out).mono ?_
 rintro e w1 ⟨b1, (⟨i, hi, hF, rfl⟩ | ⟨hF, rfl⟩)⟩
 ·obtain ⟨hl1, f, l, lo, hi2, hrow, hmay⟩ := qtz cn i hi hF
  have hl4 := Utf.qil cn
  obtain ⟨hmk1, hmk2⟩ := qrd cn hl1
  have R1 := Lib.hid (qt7 cn ((bs s).drop 1) hl1)
  rw [<- HD0.out] at R1
  have HMAY := Lib.hid hmay
  rw [hrow]
  clear hrow hF hi hmay C
  obtain ⟨m, hm⟩ : ∃ m, Utf.long cn = m := ⟨_, rfl⟩
  obtain ⟨mk, hmk⟩ : ∃ mk, markOf m = mk := ⟨_, rfl⟩
  rw [hm] at hl1 hl4 hmk1 hmk2 R1 HMAY |-
  rw [hmk] at hmk1 hmk2 R1 |-
  have HM := Lib.hid hm
  clear hm hmk
  go_wp2_with fail
  obtain ⟨w2, hw2⟩ : ∃ w2, w1.alloc (.cells #[.int .u8 f, .int .u8 l, .int .u8 lo, .int .u8 hi2, .int .u8 mk, .int .i64 m] 237) = w2 := ⟨_, rfl⟩
  obtain ⟨g, hg⟩ : ∃ g, w1.heap.size = g := ⟨_, rfl⟩
  have hgl : g < w2.heap.size := by rw [<- hw2, <- hg]; simp
  have b2 : Below w.heap.size w w2 := by rw [<- hw2]; exact below_seq b1 (below_alloc _ _)
  have k0 : w2.cell? ⟨g, 0, none⟩ = some (.int .u8 f) := by rw [<- hw2, <- hg]; simp
  have k1 : w2.cell? ⟨g, 1, none⟩ = some (.int .u8 l) := by rw [<- hw2, <- hg]; simp
  have k2 : w2.cell? ⟨g, 2, none⟩ = some (.int .u8 lo) := by rw [<- hw2, <- hg]; simp
  have k3 : w2.cell? ⟨g, 3, none⟩ = some (.int .u8 hi2) := by rw [<- hw2, <- hg]; simp
  have k4 : w2.cell? ⟨g, 4, none⟩ = some (.int .u8 mk) := by rw [<- hw2, <- hg]; simp
  have k5 : w2.cell? ⟨g, 5, none⟩ = some (.int .i64 m) := by rw [<- hw2, <- hg]; simp
  rw [hw2, hg]
  clear hw2 hg b1
  have hmz : (mk : Int) <= (cn : Int) := by omega
  have e1 : IntKind.u8.wrap ((cn : Int) - (mk : Int)) = ((cn - mk : Nat) : Int) := by
   rw [show (cn : Int) - (mk : Int) = ((cn - mk : Nat) : Int) by omega]
   show ((cn - mk : Nat) : Int) % 256 = _
   omega
  have e2 : IntKind.i32.wrap ((cn - mk : Nat) : Int) = ((cn - mk : Nat) : Int) := IntWalk.i32_in _ (by omega)
  go_quiet (fail)
  clear e1 e2
  go_wp2_with fail
  go_loopg [2, 7] 99 (fun q s2 s7 wx => Below w.heap.size w wx /\ g < wx.heap.size /\ Bx wx g f l lo hi2 mk m /\ ∃ k R : Nat, s7 = .int .i64 k /\ s2 = .int .i32 R /\ 1 <= k /\ k <= m /\ k <= s.size /\ q = 100 - k /\ Hid (Rd cn m (bs s) k R))
  case atStart => exact ⟨qdu b2 ⟨nq, rfl⟩, hgl, ⟨k0, k1, k2, k3, k4, k5⟩, 1, cn - mk, rfl, rfl, by omega, by omega, by omega, rfl, R1⟩
  case round =>
   obtain ⟨bel, hgl, ⟨k0, k1, k2, k3, k4, k5⟩, k, R, rfl, rfl, hk1, hkm, hks, rfl, HR⟩ := hrel
   by_cases h1 : k < m
   ·have h1z : (k : Int) < (m : Int) := by omega
    have hk4 : k <= 4 := by omega
    have hRb : R < 524288 := by have := HR.out.2.2.2; omega
    by_cases h2 : k < s.size
    ·have h2z : (k : Int) < (s.size : Int) := by omega
     have h2e : ((k : Int) == (s.size : Int)) = false := by simp; omega
     obtain ⟨d, hd⟩ : ∃ d : UInt8, s[k] = d := ⟨_, rfl⟩
     have hdb := qsp d
     have hdk := qlm s k h2
     rw [hd] at hdk
     obtain ⟨dn, hdn⟩ : ∃ dn, d.toNat = dn := ⟨_, rfl⟩
     rw [hdn] at hdb hdk
     have HDK := Lib.hid hdk
     have HDN := Lib.hid hdn
     clear hdk
     have A : Hid (∀ w, Calls Tryz.prog 150 #[.agg #[.int .u8 f, .int .u8 l, .int .u8 lo, .int .u8 hi2, .int .u8 mk, .int .i64 m], .int .i64 k, .int .u8 dn] w fun e w' => e = .returned (.bool (Utf.may cn k dn)) /\ Below w.heap.size w w') := fun w => by
      have h := qo6 f l lo hi2 mk m k dn w hk4 hdb
      rw [HMAY.out k dn hk1 h1] at h
      exact h
     have KK : Hid (∀ w3 : World, Below wr.drew.heap.size wr.drew w3 -> (w3.cell? ⟨g, 0, none⟩ = some (.int .u8 f) /\ w3.cell? ⟨g, 1, none⟩ = some (.int .u8 l) /\ w3.cell? ⟨g, 2, none⟩ = some (.int .u8 lo) /\ w3.cell? ⟨g, 3, none⟩ = some (.int .u8 hi2) /\ w3.cell? ⟨g, 4, none⟩ = some (.int .u8 mk) /\ w3.cell? ⟨g, 5, none⟩ = some (.int .i64 m)) /\ Below wr.heap.size wr w3) := by
      intro w3 b
      have hx : ∀ j, w3.cell? ⟨g, j, none⟩ = wr.cell? ⟨g, j, none⟩ := fun j => b.cell (p := ⟨g, j, none⟩) hgl
      exact ⟨⟨(hx 0).trans k0, (hx 1).trans k1, (hx 2).trans k2, (hx 3).trans k3, (hx 4).trans k4, (hx 5).trans k5⟩, (Below.refl _ wr).drew.trans b⟩
     cases hmay : Utf.may cn k dn
     ·rw [hmay] at A
      have ST := Lib.hid (qqr cn (bs s) k R ((bs s).drop 1) (by rw [HM.out]; exact HR.out) HD0.out (by rw [HM.out]; exact h1) hk1 (.inr ⟨dn, _, HDK.out, hmay⟩))
      clear hmay
      go_wp2_with fail
      go_region_held3 (fun w' => w'.cell? ⟨g, 0, none⟩ = some (.int .u8 f) /\ w'.cell? ⟨g, 1, none⟩ = some (.int .u8 l) /\ w'.cell? ⟨g, 2, none⟩ = some (.int .u8 lo) /\ w'.cell? ⟨g, 3, none⟩ = some (.int .u8 hi2) /\ w'.cell? ⟨g, 4, none⟩ = some (.int .u8 mk) /\ w'.cell? ⟨g, 5, none⟩ = some (.int .i64 m)) (go_keep) (first
       | (go_at_call 150; refine (A.out _).mono ?_; rintro e w3 ⟨rfl, b3⟩; obtain ⟨⟨j0, j1, j2, j3, j4, j5⟩, BF⟩ := KK.out w3 b3))
      all_goals
       go_wp2_with fail
       refine bodyPost_ret (results_tmp3 rfl _ _ _) rfl ?_
       exact ⟨by rw [ST.out.1, ST.out.2.1, ST.out.2.2]; rfl, bel.trans (BF.mono bel.size)⟩
     ·rw [hmay] at A
      have NX := Lib.hid (qy3 cn m (bs s) k R dn _ HR.out h1 (by omega) HDK.out hmay)
      have hbd := Utf.qxh _ _ _ hmay
      have hd1 : 128 <= dn := hbd.1
      have hd2 : dn <= 191 := hbd.2.1
      clear hmay hbd
      go_wp2_with fail
      go_region_held3 (fun w' => w'.cell? ⟨g, 0, none⟩ = some (.int .u8 f) /\ w'.cell? ⟨g, 1, none⟩ = some (.int .u8 l) /\ w'.cell? ⟨g, 2, none⟩ = some (.int .u8 lo) /\ w'.cell? ⟨g, 3, none⟩ = some (.int .u8 hi2) /\ w'.cell? ⟨g, 4, none⟩ = some (.int .u8 mk) /\ w'.cell? ⟨g, 5, none⟩ = some (.int .i64 m)) (go_keep) (first
       | (go_at_call 150; refine (A.out _).mono ?_; rintro e w3 ⟨rfl, b3⟩; obtain ⟨⟨j0, j1, j2, j3, j4, j5⟩, BF⟩ := KK.out w3 b3))
      all_goals
       go_wp2_with fail
       go_roundg (100 - (k + 1))
       case measure => omega
       case rel => exact ⟨bel.trans (BF.mono bel.size), Nat.lt_of_lt_of_le hgl BF.size, ⟨j0, j1, j2, j3, j4, j5⟩, k + 1, 64 * R + (dn - 128), by go_num, congrArg (Value.int .i32) (by omega), by omega, by omega, by omega, rfl, NX⟩
    ·have hke : k = s.size := by omega
     have h2e : ((k : Int) == (s.size : Int)) = true := by simp; omega
     have ST := Lib.hid (qqr cn (bs s) k R ((bs s).drop 1) (by rw [HM.out]; exact HR.out) HD0.out (by rw [HM.out]; exact h1) hk1 (.inl (qxw s k (by omega))))
     go_wp2_with fail
     go_quiet (fail)
     go_wp2_with fail
     refine bodyPost_ret (results_tmp3 rfl _ _ _) rfl ?_
     exact ⟨by rw [ST.out.1, ST.out.2.1, ST.out.2.2]; rfl, qdu bel ⟨_, rfl⟩⟩
   ·have h1z : ¬ (k : Int) < (m : Int) := by omega
    have hkm2 : k = m := by omega
    subst hkm2
    have EN := Lib.hid (rd_end cn (bs s) R ((bs s).drop 1) (by rw [HM.out]; exact HR.out) HD0.out (by rw [HM.out]; exact hl1) (by rw [HM.out, bs_len]; exact hks))
    go_wp2_with fail
    go_quiet (fail)
    go_wp2_with fail
    refine bodyPost_ret (results_tmp3 rfl _ _ _) rfl ?_
    exact ⟨by rw [EN.out.1, EN.out.2.1, EN.out.2.2, HM.out]; rfl, qdu bel ⟨_, rfl⟩⟩
 ·have hl0 := no_row cn hF
  have hok : Utf.ok (bs s) = false := by
   rw [HD0.out]
   simp [Utf.ok, Utf.begins, hl0]
  have NO : Hid (Utf.rune (bs s) = 65533 /\ Utf.size (bs s) = 1 /\ Utf.ok (bs s) = false) := by
   refine ⟨by unfold Utf.rune; rw [hok]; rfl, ?_, hok⟩
   unfold Utf.size
   rw [hok, HD0.out]
   simp [Utf.begins, hl0]
  clear hok hl0 hF C
  go_wp2_with fail
  refine bodyPost_ret (results_tmp3 rfl _ _ _) rfl ?_
  exact ⟨by rw [NO.out.1, NO.out.2.1, NO.out.2.2]; rfl, below_seq b1 (below_alloc _ _)⟩
end Ut
namespace Ut
open Go.Shelf
attribute [local go_sem] Oper.semAt_some
structure Itm where
 r : Int
 at_ : Nat
 n : Nat
 good : Bool
def Itm.vals (x : Itm) : Array Value := #[.agg #[.int .i32 x.r, .int .i64 0, .int .i64 x.at_, .int .i64 x.n, .int .u8 0], .bool x.good]
def its : Nat -> List Nat -> List Itm
 | _, [] => []
 | k, c :: r => ⟨Utf.rune (c :: r), k, Utf.size (c :: r), Utf.ok (c :: r)⟩ :: its (k + Utf.size (c :: r)) ((c :: r).drop (Utf.size (c :: r)))
termination_by _ l => l.length
decreasing_by
 have := Utf.qei c r
 simp only [List.length_drop, List.length_cons] at *
 omega
theorem qmn : ∀ n k (l : List Nat), l.length <= n -> (its k l).map (fun x => (x.r, x.n)) = Utf.qi4 l /\ (its k l).all Itm.good = Utf.valid l /\ (its k l).map (fun x : Itm => (⟨x.r, 0, x.at_, x.n, 0⟩ : Ch)) = chs k (Utf.qi4 l) := by
 intro n
 induction n with
 | zero =>
   intro k l hl
   have : l = [] := List.length_eq_zero_iff.1 (by omega)
   subst this
   simp [its, Utf.qi4, Utf.valid, chs]
 | succ n ih =>
   intro k l hl
   cases l with
   | nil => simp [its, Utf.qi4, Utf.valid, chs]
   | cons c r =>
     have hb := Utf.qei c r
     obtain ⟨h1, h2, h3⟩ := ih (k + Utf.size (c :: r)) ((c :: r).drop (Utf.size (c :: r))) (by rw [List.length_drop]; omega)
     rw [its, Utf.qi4, Utf.valid, chs, List.map_cons, List.map_cons, List.all_cons, h1, h2, h3]
     exact ⟨rfl, rfl, rfl⟩
def qkk (B : Nat) (W W' : World) : Prop := W'.heap[9]? = W.heap[9]? /\ W'.heap[B]? = W.heap[B]?
theorem grown_of_below {w w' : World} (h : Below w.heap.size w w') : w.grownBy w' none := ⟨h.os, h.tape, h.output, h.size, fun k hk _ => h.block k hk⟩
theorem qvc (l : List Nat) (k : Nat) (pre : List Itm) (c : Nat) (t : List Nat) (hl : l.drop k = c :: t) (h : its 0 l = pre ++ its k (l.drop k)) :
 its 0 l = (pre ++ [⟨Utf.rune (c :: t), k, Utf.size (c :: t), Utf.ok (c :: t)⟩]) ++ its (k + Utf.size (c :: t)) (l.drop (k + Utf.size (c :: t))) := by
 rw [h, hl, its, <- hl, List.drop_drop]
 simp
theorem qwd (n : Nat) (hn : 3 <= n) (l B : Nat) (s : ByteArray) (hs : s.size <= 100000) (J Jx : List Itm -> World -> Prop)
 (hY : ∀ pre x W, J pre W -> pre.length < (its 0 (bs s)).length -> YieldAt Fence.wide (n - 1) Tryz.prog l (Itm.vals x) W fun e W' =>
  (e = .returned (.bool true) /\ J (pre ++ [x]) W' /\ qkk B W W') \/ (e = .returned (.bool false) /\ Jx (pre ++ [x]) W'))
 (W : World) (hJ : AbidesFrom W.heap.size J) (hB : W.cell? ⟨B, 0, none⟩ = some (.string s)) (hT : Tab W) (h0 : J [] W) :
 CallsIn Fence.wide n Tryz.prog 128 #[.func (.yield l) #[] #[], .pointer (some ⟨B, 0, none⟩)] W fun e W' => (∃ v, e = .returned v) ∧
  ((∃ xs, xs = its 0 (bs s) /\ J xs W') \/ (∃ pre, pre <+: its 0 (bs s) /\ Jx pre W')) := by
 have HY := Lib.hid hY
 have HJ := Lib.hid hJ
 clear hY hJ
 refine callsIn_of_wp Tryz.func128 rfl trivial ?_ rfl
 simp only [Tryz.ntmps128, List.size_toArray, List.length_cons, List.length_nil, Nat.reduceAdd, Nat.reduceSub, Array.replicate_succ, Array.replicate_zero, List.push_toArray, List.append_toArray, List.nil_append, List.cons_append]
 gi_wp2
 gi_loopw [3] (fun p wr => ∃ (k : Nat) (pre : List Itm), p = .int .i64 k /\ k <= s.size /\ Hid (its 0 (bs s) = pre ++ its k ((bs s).drop k)) /\ J pre wr /\ Tab wr /\ wr.cell? ⟨B, 0, none⟩ = some (.string s))
  (fun p _ => s.size - (intOf p).toNat)
 case atStart => exact ⟨0, [], rfl, by omega, rfl, h0, hT, hB⟩
 case round =>
  obtain ⟨k, pre, rfl, hk, HI, hJs, hTr, hBr⟩ := hrel
  by_cases hlt : k < s.size
  ·have hltz : (k : Int) < (s.size : Int) := by omega
   obtain ⟨c, hc, hd⟩ := q0v s k hlt
   have hx : bs (s.extract k s.size) = (bs s).drop k := by
    rw [qoz, List.take_of_length_le (by rw [List.length_drop, bs_len]; omega)]
   have hsz : (s.extract k s.size).size = s.size - k := by simp
   obtain ⟨r, hr⟩ : ∃ r, Utf.rune (c.toNat :: (bs s).drop (k + 1)) = r := ⟨_, rfl⟩
   obtain ⟨q, hq⟩ : ∃ q, Utf.size (c.toNat :: (bs s).drop (k + 1)) = q := ⟨_, rfl⟩
   obtain ⟨g, hg⟩ : ∃ g, Utf.ok (c.toNat :: (bs s).drop (k + 1)) = g := ⟨_, rfl⟩
   have hb := Utf.qei c.toNat ((bs s).drop (k + 1))
   have hq3 : 1 <= q /\ k + q <= s.size := by
    rw [hq, List.length_cons, List.length_drop, bs_len] at hb
    omega
   have RD : Hid (∀ w, Tab w -> Calls Tryz.prog 129 #[.string (s.extract k s.size)] w fun e w' => e = .returned (.tuple #[.int .i32 r, .int .i64 q, .bool g]) /\ Below w.heap.size w w') := fun w hT => by
    have h := qt4 (s.extract k s.size) w (by omega) (by omega) hT
    rw [hx, hd, hr, hq, hg] at h
    exact h
   have NX := Lib.hid (qvc (bs s) k pre _ _ hd HI.out)
   rw [hr, hq, hg] at NX
   clear hx hsz hr hq hg hb hd hc HI
   gi_wp2_with fail
   refine ⟨trivial, fun _ => by omega, (callsIn_wide.2 (RD.out _ hTr)).mono ?_⟩
   rintro e w3 ⟨rfl, b3⟩
   have hJ3 : J pre w3 := HJ.out pre wr w3 none hJs (grown_of_below b3) (fun r e => by cases e)
   have hT3 := hTr.below b3
   have hB3 : w3.cell? ⟨B, 0, none⟩ = some (.string s) := (b3.cell (World.block_lt_of_cell? _ _ hBr)).trans hBr
   obtain ⟨fn, tmps, assign, body, hy, hR⟩ := HY.out pre ⟨r, k, q, g⟩ w3 hJ3 (by rw [NX.out]; simp)
   dsimp only [Itm.vals] at hy
   clear HY HJ hJ3 hJs hTr hBr
   have HK := Lib.hid hT3
   clear hT3
   gi_wp2
   refine ⟨fun _ => by omega, hR.mono ?_⟩
   rintro e w4 (⟨rfl, hJ4, hk4⟩ | ⟨rfl, hx4⟩)
   ·have hT4 : Tab w4 := by
     obtain ⟨t, fz, h⟩ := HK.out
     exact ⟨t, fz, hk4.1.trans h⟩
    have hB4 : w4.cell? ⟨B, 0, none⟩ = some (.string s) := (World.cell?_of_block (a := ⟨B, 0, none⟩) hk4.2).trans hB3
    gi_wp2
    go_roundw
    case rel => exact ⟨k + q, pre ++ [⟨r, k, q, g⟩], by go_num, by omega, NX, hJ4, hT4, hB4⟩
    case measure => simp [intOf]; omega
   ·gi_wp2
    refine bodyPost_ret (results_none rfl _ _ _) rfl ?_
    exact ⟨⟨_, rfl⟩, .inr ⟨pre ++ [⟨r, k, q, g⟩], ⟨_, NX.out.symm⟩, hx4⟩⟩
  ·have hke : k = s.size := by omega
   have hltz : ¬ (k : Int) < (s.size : Int) := by omega
   have FIN : Hid (its 0 (bs s) = pre) := by
    show _ = _
    rw [HI.out, qxw s k (by omega), its, List.append_nil]
   gi_wp2
   go_end0
   exact ⟨⟨_, rfl⟩, .inl (by rw [FIN.out]; exact hJs)⟩
end Ut
namespace Ut
open Go.Shelf
attribute [local go_sem] Oper.semAt_some
theorem qed (n : Nat) (s : ByteArray) (w : World) :
 CallsIn Fence.wide n Tryz.prog 102 #[.string s] w fun e w' => e = .returned (.func (.func 128) #[] #[.pointer (some ⟨w.heap.size, 0, none⟩)]) /\ w' = w.alloc (.cells #[.string s] 9) := by
 refine callsIn_of_wp Tryz.func102 rfl trivial ?_ rfl
 simp only [Tryz.ntmps102, List.size_toArray, List.length_cons, List.length_nil, Nat.reduceAdd, Nat.reduceSub, Array.replicate_succ, Array.replicate_zero, List.push_toArray, List.append_toArray, List.nil_append, List.cons_append]
 gi_wp2
 go_ret
 exact ⟨rfl, rfl⟩
theorem qgn (n : Nat) (hn : 3 <= n) (B : Nat) (s : ByteArray) (hs : s.size <= 100000) (w : World) (hB : B < w.heap.size) (hc : w.cell? ⟨B, 0, none⟩ = some (.string s)) (hT : Tab w) :
 SeqStopsK Fence.wide n Tryz.prog 128 #[.pointer (some ⟨B, 0, none⟩)] Itm.vals (qkk B) (fun xs => xs = its 0 (bs s)) (fun pre => pre <+: its 0 (bs s)) (its 0 (bs s)).length w := fun l J Jx W hW hJ _ hY h0 =>
 qwd n hn l B s hs J Jx hY W hJ ((hW.cell (p := ⟨B, 0, none⟩) hB).trans hc) (hT.below hW) h0
theorem qrp {B : Nat} {X Y Z : World} (h : qkk B X Y) (k : qkk B Y Z) : qkk B X Z := ⟨k.1.trans h.1, k.2.trans h.2⟩
theorem qrr {B : Nat} {w : World} (h0 : 9 < w.heap.size) (hB : B < w.heap.size) (W : World) (l : Nat) (o o' : Obj) (hl : w.heap.size <= l) (_ : W.heap[l]? = some o) (_ : o.isCells = false) (_ : o.isWalk = false) : qkk B W (W.putObj l o') :=
 ⟨World.putObj_heap_other (by omega), World.putObj_heap_other (by omega)⟩
theorem qrq {B b : Nat} (h0 : 9 < b) (hB : B ≠ b) (W : World) (v : Value) : qkk B W (W.setCell ⟨b, 0, none⟩ v) :=
 ⟨Below.heap_setCell _ _ _ 9 (by simp; omega), Below.heap_setCell _ _ _ B (by simpa using hB)⟩
theorem qio (s : ByteArray) : (its 0 (bs s)).length = (Utf.qi4 (bs s)).length := by
 have := (qmn _ 0 (bs s) (Nat.le_refl _)).1
 rw [<- this, List.length_map]
theorem qne (s : ByteArray) (w : World) (hT : Tab w) (hs : s.size <= 100000) :
 Calls Tryz.prog 101 #[.string s] w fun e w' => e = .returned (.int .i64 (Utf.qi4 (bs s)).length) /\ Below w.heap.size w w' := by
 rw [<- qio]
 have hlen : (its 0 (bs s)).length <= 100000 := by
  rw [qio]
  have := Utf.qdv (bs s)
  rw [bs_len] at this
  omega
 have hpos := hT.pos
 refine (callsIn_wide (n := 5)).1 ?_
 refine callsIn_of_wp_marks Tryz.func101 rfl trivial ?_ rfl
 simp only [Tryz.ntmps101, List.size_toArray, List.length_cons, List.length_nil, Nat.reduceAdd, Nat.reduceSub, Array.replicate_succ, Array.replicate_zero, List.push_toArray, List.append_toArray, List.nil_append, List.cons_append]
 gi_wp2_with fail
 refine ⟨trivial, (qed _ _ _).mono ?_⟩
 rintro e w' ⟨rfl, rfl⟩
 gi_wp2_with fail
 have hz := Boxed.new w 3 (.int .i64 0)
 have hb := Boxed.new (w.alloc (.cells #[.int .i64 0] 3)) 9 (.string s)
 rw [World.size_alloc] at hb
 have hB0 : Below w.heap.size w ((w.alloc (.cells #[.int .i64 0] 3)).alloc (.cells #[.string s] 9)) := ((Below.refl _ w).alloc (Nat.le_refl _) _).alloc (by simp) _
 have hT2 : Tab ((w.alloc (.cells #[.int .i64 0] 3)).alloc (.cells #[.string s] 9)) := (hT.alloc _).alloc _
 refine wpIn_rangeFunc_ownF rfl (by omega) (gf := 128) (lb := #[.pointer (some ⟨w.heap.size + 1, 0, none⟩)]) rfl trivial (enters_of Tryz.func128 (by kernel_rfl) rfl)
  (qgn _ (by omega) (w.heap.size + 1) s hs _ (by simp) hb.cell hT2) qrp (qrr hT2.pos (by simp)) (Below.refl _ _) (fun _ => rfl)
  (fun pre W => (W.cell? ⟨w.heap.size, 0, none⟩ = some (.int .i64 (pre.length : Nat)) /\ W.frozen? ⟨w.heap.size, 0, none⟩ = false) /\ Below w.heap.size w W)
  (fun _ _ _ => False)
  (OwnFrom.and (Own.from (fun s A B row hs hg hr => ⟨cell_kept hs.1 hg hr, (frozen_kept hs.1 hg hr).trans hs.2⟩) _) (ownFrom_below (Nat.le_refl _) (by simp; omega)))
  (fun _ _ _ _ _ hs _ _ => hs)
  ⟨⟨(hz.alloc _).cell, (hz.alloc _).frozen⟩, hB0⟩
  (fun x => { tmps := #[.string s, undef, .int .i64 0, .pointer (some ⟨w.heap.size, 0, none⟩), .string s, .func (.func 128) #[] #[.pointer (some ⟨w.heap.size + 1, 0, none⟩)], .agg #[.int .i32 x.r, .int .i64 0, .int .i64 x.at_, .int .i64 x.n, .int .u8 0], .bool x.good, undef, undef, undef], defers := [] }) ?assign ?body ?done ?stop
 case assign =>
  intro l x W K hK
  simp only [Itm.vals]
  gi_wp2
  simpa using hK
 case body =>
  rintro l pre x W ⟨⟨hc, hf⟩, hB⟩ hl
  have hpl : pre.length <= 100000 := by omega
  gi_wp2
  exact ⟨KeepsOthers.setCell _ _ _, qrq hpos (by omega) _ _, ⟨by rw [List.length_append]; exact World.cell?_setCell_same' _ _ _ (by rw [hc]; rfl), by rw [World.frozen?_setCell]; exact hf⟩, hB.setCell (p := ⟨w.heap.size, 0, none⟩) (Nat.le_refl _) _⟩
 case done =>
  rintro D ys W hD rfl ⟨⟨hc, _⟩, hB⟩ hK
  gi_wp2
  refine ⟨by simp, .inl ⟨_, _, rfl, run_takeDeferred hK, ?_⟩⟩
  exact ⟨_, results_tmp rfl _ _ _, rfl, hB.trans (belowK_b (w := w) (Nat.le_refl _) W D _ _ (by simp at hD; omega) hK rfl rfl)⟩
 case stop =>
  rintro D c pre W _ _ h _
  exact h.elim
end Ut
namespace Ut
open Go.Shelf
attribute [local go_sem] Oper.semAt_some
def Itm.ch (x : Itm) : Ch := ⟨x.r, 0, x.at_, x.n, 0⟩
theorem qz0 (s : ByteArray) : (its 0 (bs s)).map Itm.ch = chs 0 (Utf.qi4 (bs s)) := (qmn _ 0 (bs s) (Nat.le_refl _)).2.2
theorem qsn {β : Type} (B : Nat) (o : Obj) (ho : o.isCells = true) : Go.Own (fun (_ : β) W => W.heap[B]? = some o) := fun _ X Y row hs hg hrow => by
 refine (hg.block B (Array.getElem?_eq_some_iff.1 hs).1 (fun e => ?_)).trans hs
 obtain ⟨o', ho', hc⟩ := hrow B e.symm
 rw [hs] at ho'
 cases ho'
 rw [ho] at hc
 cases hc
theorem qq8 (x : Itm) : ∀ u ∈ (Itm.ch x).cells, u.oneCell' = true := by
 intro u hu
 simp [Itm.ch, Ch.cells] at hu
 rcases hu with h | h | h | h | h <;> subst h <;> rfl
theorem below_grown {w w' : World} (h : w.grownBy w' none) : Below w.heap.size w w' := ⟨h.os, h.tape, h.output, h.size, fun k hk => h.block k hk (by simp)⟩
theorem qko (s : ByteArray) (w : World) (hT : Tab w) (hs : s.size <= 100000) :
 Calls Tryz.prog 54 #[.string s] w fun e w' => ∃ v, e = .returned v /\ Below w.heap.size w w' /\ Own w' w.heap.size v (chs 0 (Utf.qi4 (bs s))) := by
 rw [<- qz0]
 have hlen : (its 0 (bs s)).length <= 100000 := by
  rw [qio]
  have := Utf.qdv (bs s)
  rw [bs_len] at this
  omega
 have hpos := hT.pos
 obtain ⟨i0, hi, hz0, hz1, hz2⟩ := info_parts Tryz.infoC
 have C := Lib.hid (qne s w hT hs)
 rw [<- qio] at C
 obtain ⟨N, hN⟩ : ∃ N, (its 0 (bs s)).length = N := ⟨_, rfl⟩
 rw [hN] at C hlen
 have HN := Lib.hid hN
 clear hN
 refine (callsIn_wide (n := 5)).1 ?_
 refine callsIn_of_wp_marks Tryz.func54 rfl trivial ?_ rfl
 simp only [Tryz.ntmps54, List.size_toArray, List.length_cons, List.length_nil, Nat.reduceAdd, Nat.reduceSub, Array.replicate_succ, Array.replicate_zero, List.push_toArray, List.append_toArray, List.nil_append, List.cons_append]
 gi_wp2_with fail
 refine ⟨trivial, (callsIn_wide.2 C.out).mono ?_⟩
 rintro e w1 ⟨rfl, b1⟩
 gi_wp2_with (gi_at_make; refine wpListIn_make_own w1 rfl _ _ 32 rfl w.heap.size 52 i0 (.agg #[.int .i32 0, .int .i64 0, .int .i64 0, .int .i64 0, .int .u8 0]) 5 Tryz.underlying32 hi hz0 hz1 .i64 .i64 N N rfl rfl rfl (by rw [hz2]; omega) (by unfold maxLen; omega) b1.size ?_; intro w2 own2 hg2)
 refine ⟨trivial, (qed _ _ _).mono ?_⟩
 rintro e w' ⟨rfl, rfl⟩
 gi_wp2_with fail
 obtain ⟨sv, hsv⟩ : ∃ sv, Value.slice (some ⟨w1.heap.size, 0, none⟩) 0 N = sv := ⟨_, rfl⟩
 have b2 : Below w.heap.size w w2 := below_seq b1 (below_grown hg2)
 have bL := (Boxed.new w2 32 sv).alloc (.cells #[.string s] 9)
 have bS := Boxed.new (w2.alloc (.cells #[sv] 32)) 9 (.string s)
 simp only [World.size_alloc] at bS
 have hB0 : Below w.heap.size w ((w2.alloc (.cells #[sv] 32)).alloc (.cells #[.string s] 9)) := below_seq b2 (((Below.refl _ w2).alloc (Nat.le_refl _) _).alloc (by simp) _)
 have hsz : ((w2.alloc (.cells #[sv] 32)).alloc (.cells #[.string s] 9)).heap.size = w2.heap.size + 2 := by simp
 have hT0 := hT.below hB0
 rw [hsv] at own2
 have own0 := (own2.alloc (.cells #[sv] 32)).alloc (.cells #[.string s] 9)
 obtain ⟨W0, hW0⟩ : ∃ W0, (w2.alloc (.cells #[sv] 32)).alloc (.cells #[.string s] 9) = W0 := ⟨_, rfl⟩
 rw [hW0] at bL bS hB0 hsz hT0 own0
 have hle := b2.size
 obtain ⟨B, hB⟩ : ∃ B, w2.heap.size = B := ⟨_, rfl⟩
 rw [hB] at bL bS hsz hle
 rw [hsv, hW0, hB]
 clear hW0 own2 hg2 b2 b1 hsv hB C hT
 refine wpIn_rangeFunc_ownH rfl (by omega) (gf := 128) (lb := #[.pointer (some ⟨B + 1, 0, none⟩)]) rfl trivial (enters_of Tryz.func128 (by kernel_rfl) rfl)
  (qgn _ (by omega) (B + 1) s hs W0 (by omega) bS.cell hT0) qrp (qrr hT0.pos (by omega)) (Below.refl _ _) (fun _ => rfl)
  (fun pre W => ((∃ v, Boxed W B 32 v /\ W.ownsRow w.heap.size 52 5 v (pre.map Itm.ch).length ((pre.map Itm.ch).flatMap Ch.cells) /\ True) /\ Boxed W (B + 1) 9 (.string s)) /\ Below w.heap.size w W)
  (fun _ _ _ => False)
  (OwnFrom.and (OwnFrom.and (Own.from (holdsRow_own w.heap.size B 32 52 5 (fun pre : List Itm => (pre.map Itm.ch).length) (fun pre : List Itm => (pre.map Itm.ch).flatMap Ch.cells) (fun _ _ => True)) _) (Own.from (boxed_own _ _ _) _)) (ownFrom_below (Nat.le_refl _) (by omega)))
  (fun _ _ _ _ _ hs _ _ => hs)
  ⟨⟨⟨_, bL, own0, trivial⟩, bS⟩, hB0⟩
  (fun x a' W => ∃ Bx, B + 1 < Bx /\ W.heap[Bx]? = some (.cells #[.int .i32 x.r, .int .i64 0, .int .i64 x.at_, .int .i64 x.n, .int .u8 0] 52) ∧
   a' = { tmps := #[.string s, undef, .slice none 0 0, .pointer (some ⟨B, 0, none⟩), .pointer (some ⟨Bx, 0, none⟩), .string s, .int .i64 N, sv, .string s, .func (.func 128) #[] #[.pointer (some ⟨B + 1, 0, none⟩)], .agg #[.int .i32 x.r, .int .i64 0, .int .i64 x.at_, .int .i64 x.n, .int .u8 0], .bool x.good, undef, undef, undef, undef, undef], defers := [] })
  (fun x a' s A C row ⟨Bx, h1, h2, h3⟩ hg hr => ⟨Bx, h1, (Own.from (qsn (β := Unit) Bx _ rfl) _) s A C row h2 hg hr, h3⟩)
  ?assign ?body ?done ?stop
 case assign =>
  rintro l pre x W K ⟨⟨⟨v, hv, hrow, _⟩, hS⟩, hB⟩ hK
  simp only [Itm.vals]
  gi_wp2
  exact hK _ _ ((KeepsOthers.alloc _ _).from _) ⟨(below_alloc W _).block 9 (by have := hB.size; omega), (below_alloc W _).block (B + 1) hS.lt⟩ ⟨⟨⟨v, hv.alloc _, hrow.alloc _, trivial⟩, hS.alloc _⟩, hB.trans ((below_alloc W _).mono hB.size)⟩ ⟨W.heap.size, hS.lt, heap_alloc_new W _, rfl⟩
 case body =>
  rintro l pre x a' W hl hr ⟨⟨⟨v, hv, hrow, _⟩, hS⟩, hB⟩ ⟨Bx, hBx, hX, rfl⟩ hlt
  rw [HN.out] at hlt
  have hc := hv.cell
  have k0 : W.cell? ⟨Bx, 0, none⟩ = some (.int .i32 x.r) := cell_of_row _ _ 0 _ _ _ hX
  have k1 : W.cell? ⟨Bx, 1, none⟩ = some (.int .i64 0) := cell_of_row _ _ 1 _ _ _ hX
  have k2 : W.cell? ⟨Bx, 2, none⟩ = some (.int .i64 x.at_) := cell_of_row _ _ 2 _ _ _ hX
  have k3 : W.cell? ⟨Bx, 3, none⟩ = some (.int .i64 x.n) := cell_of_row _ _ 3 _ _ _ hX
  have k4 : W.cell? ⟨Bx, 4, none⟩ = some (.int .u8 0) := cell_of_row _ _ 4 _ _ _ hX
  have hml : (pre.map Itm.ch).length <= 100000 := by rw [List.length_map]; omega
  clear hX hr
  gi_wp2_with (gi_at_builtin; refine wpListIn_append_own _ rfl _ _ 32 rfl w.heap.size 52 i0 (.agg #[.int .i32 0, .int .i64 0, .int .i64 0, .int .i64 0, .int .u8 0]) 5 40 Tryz.underlying32 hi hz0 hz1 hz2 rfl (by decide) _ _ _ rfl (hrow.alloc _) ⟨W.heap.size, 0, none⟩ 1 1 (Itm.ch x).cells rfl rfl (World.news_of_block (MapKept.heap_alloc W _).1) (qq8 x) (by unfold maxLen; omega) (by omega) (by have := hB.size; simp; omega) ?_; intro v' w3 hown' hgrow _; obtain ⟨g', cap', rfl⟩ := ownsRow_succ hown'; obtain ⟨hv1, hv2, hr2, hk2, hb2⟩ := hv.appended (by decide) hrow hB.size hle hown' hgrow; have hc1 := hv1.cell; have hf1 := hv1.frozen)
  have hS3 := ((hS.alloc _).kept hgrow (hS.not_row (by decide) hrow)).other (B' := B) (by omega) (.slice (some ⟨g', 0, none⟩) ((pre.map Itm.ch).length + 1) cap')
  have hK2 : qkk (B + 1) W (w3.setCell ⟨B, 0, none⟩ (.slice (some ⟨g', 0, none⟩) ((pre.map Itm.ch).length + 1) cap')) := ⟨hb2.block 9 hpos, (show _ = _ from hS3).trans (show _ = _ from hS).symm⟩
  have he : (pre ++ [x]).map Itm.ch = pre.map Itm.ch ++ [Itm.ch x] := by simp
  rw [<- List.length_map (f := Itm.ch)]
  refine ⟨hk2.from _, hK2, ⟨⟨_, hv2, ?_, trivial⟩, hS3⟩, hB.trans hb2⟩
  rw [he, List.length_append, List.flatMap_append]
  simpa using hr2
 case done =>
  rintro D ys W hD rfl ⟨⟨⟨v, hv, hrow, _⟩, hS⟩, hB⟩ hK
  have hc := hv.cell
  gi_wp2
  refine ⟨by simp, .inl ⟨_, _, rfl, run_takeDeferred hK, ?_⟩⟩
  exact ⟨_, results_tmp rfl _ _ _, v, rfl, hB.trans (belowK_b (w := w) (Nat.le_refl _) W D _ _ (by have := hB0.size; omega) hK rfl rfl), ownsRow_putObj hrow _ hK rfl⟩
 case stop =>
  rintro D c pre W _ _ h _
  exact h.elim
end Ut
end Go.Proofs.YtmceblkjbpbcoaaGreatDoor
