/- The walk of the law PackReads: it answers true. -/
import Derived.Test.YtfhceblmjahgjaaPkReads
import Derived.Test.YtfhceblmjahgjaaPkHead
import Derived.Test.YtfhceblmjahgjaaPkOpen
namespace Go.Proofs.Ytfhceblmjahgjaa.packReads
open Go.ChangeShapes Go.WideShapes Go.ChangeAt Go.RowKit

theorem own : ownKnob Try.prog.godebug = none := by kernel_rfl
theorem laidOut : laidOutB Try.prog = true := by kernel_rfl
abbrev F := 4

set_option maxRecDepth 100000 in
set_option maxHeartbeats 8000000 in
theorem walk_main (b : ByteArray) (u : Value) (ks : List Nat) (w : World) (hu : Row (fun k => w.heap.size ≤ k) w u (cb ks)) (hks : ∀ k ∈ ks, k < 256) (hb : b.size ≤ 4000) (hn : ks.length ≤ 60) :
    Calls Try.prog F #[.string b, u] w fun e w' => e = .returned (.bool true) ∧ Below w.heap.size w w' := by
  obtain ⟨p, hp⟩ : ∃ p, w.heap.size = p := ⟨_, rfl⟩
  rw [hp] at hu
  obtain ⟨A, c, rfl⟩ := hu.form
  rw [cb_len] at hu ⊢
  have HU := Lib.hid hu
  have HKS := Lib.hid hks
  have hz1 : ¬ (4000 : Int) < (b.size : Int) := by omega
  have hz2 : ¬ (60 : Int) < (ks.length : Int) := by omega
  clear hu hks
  go_enter Try.func4, Try.ntmps4
  go_wp2_with fail
  refine (newReader_any b _).mono ?_
  rintro e w1 ⟨rfl, hw1⟩
  have HB1 : Hid (Below p w w1 ∧ Rdx w1 p (some (bs b)) ∧ w1.heap.size = p + 1) := by
    rw [hw1]
    refine ⟨by rw [← hp]; exact below_alloc _ _, by rw [← hp]; exact ⟨b, Rd.new b w, by omega⟩, by simp [hp]⟩
  have hz : w1.heap.size = p + 1 := HB1.out.2.2
  have HP := Lib.hid hp
  have T2 : Hid (Below p w (w1.alloc (.cells #[.string b, .bool true] 39)) ∧ Rdx (w1.alloc (.cells #[.string b, .bool true] 39)) p (some (bs b)) ∧ Blk (w1.alloc (.cells #[.string b, .bool true] 39)) (p + 1) 39 #[.string b, .bool true]) := by
    refine ⟨HB1.out.1.alloc (by omega) _, HB1.out.2.1.below (below_alloc _ _), ?_⟩
    rw [← hz]
    exact Blk.new _ _ _
  rw [hp]
  clear hw1 hp
  go_wp2_with fail
  have HZ := Lib.hid hz
  clear hz
  go_loopg [7] ks.length (fun g s7 wx => ∃ (k : Nat) (q : Pk.Left) (s : ByteArray), s7 = .int .i64 k ∧ k + g = ks.length ∧ Hid (Below p w wx ∧ Rdx wx p q ∧ Blk wx (p + 1) 39 #[.string s, .bool q.isSome] ∧ rdCells q s ∧ s.size ≤ 1000000000))
  case atStart => exact ⟨0, some (bs b), b, rfl, by omega, T2.out.1, T2.out.2.1, T2.out.2.2, rfl, by omega⟩
  case round =>
    obtain ⟨k, q, s, rfl, hk, HT⟩ := hrel
    clear T2
    have hpz : p + 1 < wr.heap.size := HT.out.2.2.1.lt
    by_cases hlt : k < ks.length
    · obtain ⟨y, hy⟩ : ∃ y, ks[k] = y := ⟨_, rfl⟩
      have hyb : y < 256 := HKS.out y (by rw [← hy]; exact List.getElem_mem hlt)
      obtain ⟨a, cap, ha, hab, hS, hcs⟩ := HU.out.at_ (by rw [cb_len]; omega)
      injection ha with ha1 ha2 ha3
      subst ha1
      have hap : a.block < p := by omega
      have hcell : wr.cell? (a.add k) = some (.int .u8 (y : Int)) := by
        rw [HT.out.1.cell (by rw [block_of_add]; exact hap)]
        exact hcs k _ (by unfold cb; rw [List.getElem?_map, List.getElem?_eq_getElem hlt, hy]; rfl)
      have c0 : wr.cell? ⟨p + 1, 0, none⟩ = some (.string s) := HT.out.2.2.1.cell 0
      have c1 : wr.cell? ⟨p + 1, 1, none⟩ = some (.bool q.isSome) := HT.out.2.2.1.cell 1
      obtain ⟨n, hn0⟩ : ∃ n, wr.heap.size = n := ⟨_, rfl⟩
      have B1 : Below n wr wr.drew := below_drewN (Below.refl _ _) 1
      have B2 : Below n wr (wr.alloc (.cells #[.string ⟨#[]⟩, .bool false] 39)).drew := by rw [← hn0]; exact below_drewN (below_alloc _ _) 1
      have C : Hid (∀ W, Below n wr W → Calls Try.prog 16 #[ptr p, rowV q s, .int .u8 (y : Int)] W (RdsPost W p (Pk.rd (y % 7) q).2)) := fun W hW => reads_any p q s y W (HT.out.2.1.below (by rw [hn0]; exact hW)) HT.out.2.2.2.1 HT.out.2.2.2.2 (by omega)
      have KK : Hid (∀ W w3, Below n wr W → Mod (At p) W w3 → (w3.cell? ⟨p + 1, 0, none⟩ = some (.string s) ∧ w3.cell? ⟨p + 1, 1, none⟩ = some (.bool q.isSome) ∧ w3.cell? (a.add k) = some (.int .u8 (y : Int))) ∧ Blk w3 (p + 1) 39 #[.string s, .bool q.isSome] ∧ Below p w w3 ∧ n ≤ w3.heap.size) := fun W w3 hW m => by
        have hnW : n ≤ W.heap.size := by rw [← hn0]; exact hW.size
        have hB3 : Blk w3 (p + 1) 39 #[.string s, .bool q.isSome] := (HT.out.2.2.1.keep (S := fun _ => False) (Mod.of_below (by rw [hn0]; exact hW)) id).keep m (by show ¬ p + 1 = p; omega)
        have hbel : Below p w w3 := (HT.out.1.trans (hW.mono (by omega))).trans (m.below (by omega) (fun k hk => by have : k = p := hk; omega))
        have hc3 : w3.cell? (a.add k) = wr.cell? (a.add k) := (m.cell (by rw [block_of_add]; omega) (by rw [block_of_add]; show ¬ a.block = p; omega)).trans (hW.cell (by rw [block_of_add]; omega))
        exact ⟨⟨hB3.cell 0, hB3.cell 1, hc3.trans hcell⟩, hB3, hbel, Nat.le_trans hnW m.size⟩
      have KN : Hid (∀ w3, Mod (At p) (wr.alloc (.cells #[.string ⟨#[]⟩, .bool false] 39)).drew w3 → Blk w3 n 39 #[.string ⟨#[]⟩, .bool false]) := fun w3 m => by
        have h0 := Blk.new wr 39 #[.string ⟨#[]⟩, .bool false]
        rw [hn0] at h0
        exact (h0.drewN 1).keep m (by show ¬ n = p; omega)
      have hkz : (k : Int) < (ks.length : Int) := by omega
      have hpn : ¬ (p + 1 = n) := by omega
      have hnp : ¬ (n = p + 1) := by omega
      have han : ¬ (a.block = n) := by omega
      have hkn : ¬ ((a.add k).block = n) := by rw [block_of_add]; exact han
      have hnk : ¬ (n = (a.add k).block) := fun h => hkn h.symm
      have HN0 := Lib.hid hn0
      clear hcs ha2 ha3 hy hn0
      generalize (Pk.rd (y % 7) q).2 = q2 at *
      go_wp2_with fail
      have hn0 := HN0.out
      go_region_held3 (fun w' => w'.cell? ⟨p + 1, 0, none⟩ = some (.string s) ∧ w'.cell? ⟨p + 1, 1, none⟩ = some (.bool q.isSome) ∧ w'.cell? (a.add k) = some (.int .u8 (y : Int))) (go_keep) (first
        | (go_at_call 16; (with_reducible refine (C.out _ B1).mono ?_); rintro e w3 ⟨⟨s', rfl, hq', hl'⟩, hx3, hm3⟩; obtain ⟨⟨j0, j1, j2⟩, hB3, hbel3, hz3⟩ := KK.out _ w3 B1 hm3; have n1 : ¬ (p + 1 = w3.heap.size) := (by have := hB3.lt; omega); have n2 : ¬ (a.block = w3.heap.size) := (by have := hB3.lt; omega))
        | (go_at_call 16; (with_reducible refine (C.out _ B2).mono ?_); rintro e w3 ⟨⟨s', rfl, hq', hl'⟩, hx3, hm3⟩; obtain ⟨⟨j0, j1, j2⟩, hB3, hbel3, hz3⟩ := KK.out _ w3 B2 hm3; have hN3 := KN.out w3 hm3; have g0 := hN3.cell 0; have g1 := hN3.cell 1; have g2 := hN3.frozen 0; have g3 := hN3.frozen 1))
      · have f0 := hB3.frozen 0
        have f1 := hB3.frozen 1
        have hz4 : p + 1 < w3.heap.size := hB3.lt
        clear hz3 hkn hnk hpn hnp han
        go_wp2_with fail
        go_roundg (ks.length - (k + 1))
        case measure => omega
        case rel =>
          refine ⟨k + 1, q2, s', by go_num, by omega, ?_⟩
          have m0 : Mod (At (p + 1)) w3 (((w3.setCell ⟨p + 1, 0, none⟩ (.string s')).setCell ⟨p + 1, 1, none⟩ (.bool q2.isSome)).alloc (.cells #[.string s', .bool q2.isSome] 39)) := (mod_at (mod_at (Mod.refl _ _) 0 _) 1 _).alloc _
          exact ⟨hbel3.trans (m0.below (by omega) (fun k hk => by have : k = p + 1 := hk; omega)), hx3.keep m0 (by show ¬ p = p + 1; omega), (two_set hB3).alloc _, hq', hl'⟩
      · have f0 := hB3.frozen 0
        have f1 := hB3.frozen 1
        have hz4 : p + 1 < w3.heap.size := hB3.lt
        have HPN : Hid (p + 1 < n) := Nat.lt_of_le_of_ne (by omega) hpn
        go_wp2_with fail
        go_roundg (ks.length - (k + 1))
        case measure => omega
        case rel =>
          refine ⟨k + 1, q2, s', by go_num, by omega, ?_⟩
          have m1 : Mod (At n) w3 ((w3.setCell ⟨n, 0, none⟩ (.string s')).setCell ⟨n, 1, none⟩ (.bool q2.isSome)) := mod_at (mod_at (Mod.refl _ _) 0 _) 1 _
          have m2 : Mod (At (p + 1)) ((w3.setCell ⟨n, 0, none⟩ (.string s')).setCell ⟨n, 1, none⟩ (.bool q2.isSome)) ((((w3.setCell ⟨n, 0, none⟩ (.string s')).setCell ⟨n, 1, none⟩ (.bool q2.isSome)).setCell ⟨p + 1, 0, none⟩ (.string s')).setCell ⟨p + 1, 1, none⟩ (.bool q2.isSome)) := mod_at (mod_at (Mod.refl _ _) 0 _) 1 _
          have hB4 := hB3.keep m1 (by show ¬ p + 1 = n; exact hpn)
          refine ⟨hbel3.trans ((m1.below (B := p) (by omega) (fun k hk => by have : k = n := hk; have := HPN.out; omega)).trans (m2.below (B := p) (by have := m1.size; omega) (fun k hk => by have : k = p + 1 := hk; omega))), ?_, two_set hB4, hq', hl'⟩
          exact (hx3.keep m1 (by show ¬ p = n; have := HPN.out; omega)).keep m2 (by show ¬ p = p + 1; omega)
    · obtain rfl : k = ks.length := by omega
      go_wp2_with fail
      refine (head_any _).mono ?_
      rintro e w6 ⟨rfl, b6⟩
      have B6 := Lib.hid (HT.out.1.trans (b6.mono (by omega)))
      clear b6
      go_wp2_with fail
      go_ret
      refine ⟨rfl, ?_⟩
      rw [HP.out]
      exact B6.out

set_option maxRecDepth 100000 in
set_option maxHeartbeats 2000000 in
theorem walk_long (b : ByteArray) (A : Option Addr) (n c : Nat) (w : World) (h : 4000 < b.size ∨ 60 < n) :
    Calls Try.prog F #[.string b, .slice A n c] w fun e w' => e = .returned (.bool true) ∧ Below w.heap.size w w' := by
  by_cases h1 : 4000 < b.size
  · have hz : (4000 : Int) < (b.size : Int) := by omega
    clear h
    go_enter Try.func4, Try.ntmps4
    go_wp2_with fail
    refine (head_any _).mono ?_
    rintro e w1 ⟨rfl, b1⟩
    go_wp2_with fail
    go_ret
    exact ⟨rfl, b1⟩
  · have hz : ¬ (4000 : Int) < (b.size : Int) := by omega
    have hz2 : (60 : Int) < (n : Int) := by omega
    clear h
    go_enter Try.func4, Try.ntmps4
    go_wp2_with fail
    refine (head_any _).mono ?_
    rintro e w1 ⟨rfl, b1⟩
    go_wp2_with fail
    go_ret
    exact ⟨rfl, b1⟩

theorem walk (b : ByteArray) (u : Value) (ks : List Nat) (w : World) (hu : Row (fun k => w.heap.size ≤ k) w u (cb ks)) (hks : ∀ k ∈ ks, k < 256) :
    Calls Try.prog F #[.string b, u] w fun e w' => e = .returned (.bool true) ∧ Below w.heap.size w w' := by
  by_cases h : 4000 < b.size ∨ 60 < ks.length
  · obtain ⟨A, c, rfl⟩ := hu.form
    rw [cb_len]
    exact walk_long b A _ c w h
  · exact walk_main b u ks w hu hks (by omega) (by omega)
end Go.Proofs.Ytfhceblmjahgjaa.packReads
