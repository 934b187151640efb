/- Contract of package utf's reader of one character (utf.read). Conditions: the text is not empty; the table lies in memory as the program's text lays it. -/
import Derived.Test.YtgnalnppjhgmjaaDoorUP3
import Derived.Deep.RegionHeld3
namespace Go.Proofs.YtgnalnppjhgmjaaDoor
open Go.ChangeShapes Go.WideShapes Go.ChangeAt Go.RowKit

/-- a form in its box -/
def Bx (w : World) (g f l lo hi mk m : Nat) : Prop := w.cell? ⟨g, 0, none⟩ = some (.int .u8 f) ∧ w.cell? ⟨g, 1, none⟩ = some (.int .u8 l) ∧ w.cell? ⟨g, 2, none⟩ = some (.int .u8 lo) ∧ w.cell? ⟨g, 3, none⟩ = some (.int .u8 hi) ∧ w.cell? ⟨g, 4, none⟩ = some (.int .u8 mk) ∧ w.cell? ⟨g, 5, none⟩ = some (.int .i64 m)

set_option maxRecDepth 100000 in
set_option maxHeartbeats 4000000 in
theorem read_any (s : ByteArray) (w : World) (h0 : 0 < s.size) (hs : s.size ≤ 100000) (hT : Tab w) :
    Calls Tryd.prog 26 #[.string s] w fun e w' => e = .returned (.tuple #[.int .i32 (Utf.rune (bs s)), .int .i64 (Utf.size (bs s) : Nat), .bool (Utf.ok (bs s))]) ∧ Below w.heap.size w w' := by
  obtain ⟨c, hc⟩ : ∃ c : UInt8, s[0] = c := ⟨_, rfl⟩
  have hcb := byte_le c
  have hd0 := bs_drop s 0 h0
  rw [hc, List.drop_zero] at hd0
  have HD0 := Lib.hid hd0
  clear hd0
  have h0z : (0 : Int) < (s.size : Int) := by omega
  obtain ⟨cn, hcn⟩ : ∃ cn, c.toNat = cn := ⟨_, rfl⟩
  have C := Lib.hid (formOf_any c.toNat w hcb hT)
  clear hT
  rw [hcn] at hcb C HD0
  have HCN := Lib.hid hcn
  go_enter Tryd.func26, Tryd.ntmps26
  go_wp2_with fail
  refine (C.out).mono ?_
  rintro e w1 ⟨b1, (⟨i, hi, hF, rfl⟩ | ⟨hF, rfl⟩)⟩
  · obtain ⟨hl1, f, l, lo, hi2, hrow, hmay⟩ := row_says cn i hi hF
    have hl4 := Utf.long_le cn
    obtain ⟨hmk1, hmk2⟩ := mark_le cn hl1
    have R1 := Lib.hid (rd_first cn ((bs s).drop 1) hl1)
    rw [← HD0.out] at R1
    have HMAY := Lib.hid hmay
    rw [hrow]
    clear hrow hF hi hmay C
    obtain ⟨m, hm⟩ : ∃ m, Utf.long cn = m := ⟨_, rfl⟩
    obtain ⟨mk, hmk⟩ : ∃ mk, markOf m = mk := ⟨_, rfl⟩
    rw [hm] at hl1 hl4 hmk1 hmk2 R1 HMAY ⊢
    rw [hmk] at hmk1 hmk2 R1 ⊢
    have HM := Lib.hid hm
    clear hm hmk
    go_wp2_with fail
    obtain ⟨w2, hw2⟩ : ∃ w2, w1.alloc (.cells #[.int .u8 f, .int .u8 l, .int .u8 lo, .int .u8 hi2, .int .u8 mk, .int .i64 m] 51) = w2 := ⟨_, rfl⟩
    obtain ⟨g, hg⟩ : ∃ g, w1.heap.size = g := ⟨_, rfl⟩
    have hgl : g < w2.heap.size := by rw [← hw2, ← hg]; simp
    have b2 : Below w.heap.size w w2 := by rw [← hw2]; exact below_seq b1 (below_alloc _ _)
    have k0 : w2.cell? ⟨g, 0, none⟩ = some (.int .u8 f) := by rw [← hw2, ← hg]; simp
    have k1 : w2.cell? ⟨g, 1, none⟩ = some (.int .u8 l) := by rw [← hw2, ← hg]; simp
    have k2 : w2.cell? ⟨g, 2, none⟩ = some (.int .u8 lo) := by rw [← hw2, ← hg]; simp
    have k3 : w2.cell? ⟨g, 3, none⟩ = some (.int .u8 hi2) := by rw [← hw2, ← hg]; simp
    have k4 : w2.cell? ⟨g, 4, none⟩ = some (.int .u8 mk) := by rw [← hw2, ← hg]; simp
    have k5 : w2.cell? ⟨g, 5, none⟩ = some (.int .i64 m) := by rw [← hw2, ← hg]; simp
    rw [hw2, hg]
    clear hw2 hg b1
    have hmz : (mk : Int) ≤ (cn : Int) := by omega
    have e1 : IntKind.u8.wrap ((cn : Int) - (mk : Int)) = ((cn - mk : Nat) : Int) := by
      rw [show (cn : Int) - (mk : Int) = ((cn - mk : Nat) : Int) by omega]
      show ((cn - mk : Nat) : Int) % 256 = _
      omega
    have e2 : IntKind.i32.wrap ((cn - mk : Nat) : Int) = ((cn - mk : Nat) : Int) := IntWalk.i32_in _ (by omega)
    go_quiet (fail)
    clear e1 e2
    go_wp2_with fail
    go_loopg [2, 7] 99 (fun q s2 s7 wx => Below w.heap.size w wx ∧ g < wx.heap.size ∧ Bx wx g f l lo hi2 mk m ∧ ∃ k R : Nat, s7 = .int .i64 k ∧ s2 = .int .i32 R ∧ 1 ≤ k ∧ k ≤ m ∧ k ≤ s.size ∧ q = 100 - k ∧ Hid (Rd cn m (bs s) k R))
    case atStart => exact ⟨drawn_below b2 ⟨nq, rfl⟩, hgl, ⟨k0, k1, k2, k3, k4, k5⟩, 1, cn - mk, rfl, rfl, by omega, by omega, by omega, rfl, R1⟩
    case round =>
      obtain ⟨bel, hgl, ⟨k0, k1, k2, k3, k4, k5⟩, k, R, rfl, rfl, hk1, hkm, hks, rfl, HR⟩ := hrel
      by_cases h1 : k < m
      · have h1z : (k : Int) < (m : Int) := by omega
        have hk4 : k ≤ 4 := by omega
        have hRb : R < 524288 := by have := HR.out.2.2.2; omega
        by_cases h2 : k < s.size
        · have h2z : (k : Int) < (s.size : Int) := by omega
          have h2e : ((k : Int) == (s.size : Int)) = false := by simp; omega
          obtain ⟨d, hd⟩ : ∃ d : UInt8, s[k] = d := ⟨_, rfl⟩
          have hdb := byte_le d
          have hdk := bs_drop s k h2
          rw [hd] at hdk
          obtain ⟨dn, hdn⟩ : ∃ dn, d.toNat = dn := ⟨_, rfl⟩
          rw [hdn] at hdb hdk
          have HDK := Lib.hid hdk
          have HDN := Lib.hid hdn
          clear hdk
          have A : Hid (∀ w, Calls Tryd.prog 31 #[.agg #[.int .u8 f, .int .u8 l, .int .u8 lo, .int .u8 hi2, .int .u8 mk, .int .i64 m], .int .i64 k, .int .u8 dn] w fun e w' => e = .returned (.bool (Utf.may cn k dn)) ∧ Below w.heap.size w w') := fun w => by
            have h := allows_any f l lo hi2 mk m k dn w hk4 hdb
            rw [HMAY.out k dn hk1 h1] at h
            exact h
          have KK : Hid (∀ w3 : World, Below wr.drew.heap.size wr.drew w3 → (w3.cell? ⟨g, 0, none⟩ = some (.int .u8 f) ∧ w3.cell? ⟨g, 1, none⟩ = some (.int .u8 l) ∧ w3.cell? ⟨g, 2, none⟩ = some (.int .u8 lo) ∧ w3.cell? ⟨g, 3, none⟩ = some (.int .u8 hi2) ∧ w3.cell? ⟨g, 4, none⟩ = some (.int .u8 mk) ∧ w3.cell? ⟨g, 5, none⟩ = some (.int .i64 m)) ∧ Below wr.heap.size wr w3) := by
            intro w3 b
            have hx : ∀ j, w3.cell? ⟨g, j, none⟩ = wr.cell? ⟨g, j, none⟩ := fun j => b.cell (p := ⟨g, j, none⟩) hgl
            exact ⟨⟨(hx 0).trans k0, (hx 1).trans k1, (hx 2).trans k2, (hx 3).trans k3, (hx 4).trans k4, (hx 5).trans k5⟩, (Below.refl _ wr).drew.trans b⟩
          cases hmay : Utf.may cn k dn
          · rw [hmay] at A
            have ST := Lib.hid (rd_stop cn (bs s) k R ((bs s).drop 1) (by rw [HM.out]; exact HR.out) HD0.out (by rw [HM.out]; exact h1) hk1 (.inr ⟨dn, _, HDK.out, hmay⟩))
            clear hmay
            go_wp2_with fail
            go_region_held3 (fun w' => w'.cell? ⟨g, 0, none⟩ = some (.int .u8 f) ∧ w'.cell? ⟨g, 1, none⟩ = some (.int .u8 l) ∧ w'.cell? ⟨g, 2, none⟩ = some (.int .u8 lo) ∧ w'.cell? ⟨g, 3, none⟩ = some (.int .u8 hi2) ∧ w'.cell? ⟨g, 4, none⟩ = some (.int .u8 mk) ∧ w'.cell? ⟨g, 5, none⟩ = some (.int .i64 m)) (go_keep) (first
              | (go_at_call 31; refine (A.out _).mono ?_; rintro e w3 ⟨rfl, b3⟩; obtain ⟨⟨j0, j1, j2, j3, j4, j5⟩, BF⟩ := KK.out w3 b3))
            all_goals
              go_wp2_with fail
              refine bodyPost_ret (results_tmp3 rfl _ _ _) rfl ?_
              exact ⟨by rw [ST.out.1, ST.out.2.1, ST.out.2.2]; rfl, bel.trans (BF.mono bel.size)⟩
          · rw [hmay] at A
            have NX := Lib.hid (rd_next cn m (bs s) k R dn _ HR.out h1 (by omega) HDK.out hmay)
            have hbd := Utf.may_bd _ _ _ hmay
            have hd1 : 128 ≤ dn := hbd.1
            have hd2 : dn ≤ 191 := hbd.2.1
            clear hmay hbd
            go_wp2_with fail
            go_region_held3 (fun w' => w'.cell? ⟨g, 0, none⟩ = some (.int .u8 f) ∧ w'.cell? ⟨g, 1, none⟩ = some (.int .u8 l) ∧ w'.cell? ⟨g, 2, none⟩ = some (.int .u8 lo) ∧ w'.cell? ⟨g, 3, none⟩ = some (.int .u8 hi2) ∧ w'.cell? ⟨g, 4, none⟩ = some (.int .u8 mk) ∧ w'.cell? ⟨g, 5, none⟩ = some (.int .i64 m)) (go_keep) (first
              | (go_at_call 31; refine (A.out _).mono ?_; rintro e w3 ⟨rfl, b3⟩; obtain ⟨⟨j0, j1, j2, j3, j4, j5⟩, BF⟩ := KK.out w3 b3))
            all_goals
              go_wp2_with fail
              go_roundg (100 - (k + 1))
              case measure => omega
              case rel => exact ⟨bel.trans (BF.mono bel.size), Nat.lt_of_lt_of_le hgl BF.size, ⟨j0, j1, j2, j3, j4, j5⟩, k + 1, 64 * R + (dn - 128), by go_num, congrArg (Value.int .i32) (by omega), by omega, by omega, by omega, rfl, NX⟩
        · have hke : k = s.size := by omega
          have h2e : ((k : Int) == (s.size : Int)) = true := by simp; omega
          have ST := Lib.hid (rd_stop cn (bs s) k R ((bs s).drop 1) (by rw [HM.out]; exact HR.out) HD0.out (by rw [HM.out]; exact h1) hk1 (.inl (bs_end s k (by omega))))
          go_wp2_with fail
          go_quiet (fail)
          go_wp2_with fail
          refine bodyPost_ret (results_tmp3 rfl _ _ _) rfl ?_
          exact ⟨by rw [ST.out.1, ST.out.2.1, ST.out.2.2]; rfl, drawn_below bel ⟨_, rfl⟩⟩
      · have h1z : ¬ (k : Int) < (m : Int) := by omega
        have hkm2 : k = m := by omega
        subst hkm2
        have EN := Lib.hid (rd_end cn (bs s) R ((bs s).drop 1) (by rw [HM.out]; exact HR.out) HD0.out (by rw [HM.out]; exact hl1) (by rw [HM.out, bs_len]; exact hks))
        go_wp2_with fail
        go_quiet (fail)
        go_wp2_with fail
        refine bodyPost_ret (results_tmp3 rfl _ _ _) rfl ?_
        exact ⟨by rw [EN.out.1, EN.out.2.1, EN.out.2.2, HM.out]; rfl, drawn_below bel ⟨_, rfl⟩⟩
  · have hl0 := no_row cn hF
    have hok : Utf.ok (bs s) = false := by
      rw [HD0.out]
      simp [Utf.ok, Utf.begins, hl0]
    have NO : Hid (Utf.rune (bs s) = 65533 ∧ Utf.size (bs s) = 1 ∧ Utf.ok (bs s) = false) := by
      refine ⟨by unfold Utf.rune; rw [hok]; rfl, ?_, hok⟩
      unfold Utf.size
      rw [hok, HD0.out]
      simp [Utf.begins, hl0]
    clear hok hl0 hF C
    go_wp2_with fail
    refine bodyPost_ret (results_tmp3 rfl _ _ _) rfl ?_
    exact ⟨by rw [NO.out.1, NO.out.2.1, NO.out.2.2]; rfl, below_seq b1 (below_alloc _ _)⟩
end Go.Proofs.YtgnalnppjhgmjaaDoor
