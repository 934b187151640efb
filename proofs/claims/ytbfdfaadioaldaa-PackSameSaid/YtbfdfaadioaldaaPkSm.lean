/- The walk of the law PackSame: it answers true. -/
import Derived.Test.YtbfdfaadioaldaaPkGot
import Derived.Test.YtbfdfaadioaldaaPkHead
import Derived.Test.YtbfdfaadioaldaaPkOpen
namespace Go.Proofs.Ytbfdfaadioaldaa.packSame
open Go.ChangeShapes Go.WideShapes Go.ChangeAt Go.RowKit

theorem own : ownKnob Try.prog.godebug = none := by kernel_rfl
theorem laidOut : laidOutB Try.prog = true := by kernel_rfl
abbrev F := 6

/-- a call that returns a known value and leaves the world, behind draws -/
theorem quiet_known {P : Program} {f : FuncId} {args : Array Value} {w : World} {n : Nat} {v : Value} (h : ∀ W, Calls P f args W fun e w' => e = .returned v ∧ W = w') : Calls P f args (w.drewN n) fun e w'' => e = .returned v ∧ ∃ m, w'' = w.drewN m :=
  (h _).mono fun _ _ hh => ⟨hh.1, n, hh.2.symm⟩

/-- an empty Item of a kind -/
def zero (c : Nat) : Itm := ⟨c, 0, 0, false, ByteArray.empty, .slice none 0 0, .slice none 0 0, .slice none 0 0, [], [], []⟩
theorem nil_row (S : Nat → Prop) (w : World) : Row S w (.slice none 0 0) [] := .inl ⟨rfl, rfl⟩

theorem sizes_le : ∀ t : List ByteArray, (t.map ByteArray.size).sum ≤ (t.flatMap txt).length
  | [] => by simp
  | a :: r => by
    have := sizes_le r
    rw [List.map_cons, List.sum_cons, List.flatMap_cons, List.length_append]
    have e : (txt a).length = (Pk.num (bs a).length).length + a.size := by unfold txt Pk.text; rw [List.length_append, bs_len]
    omega
theorem list_ge {α : Type} (e : α → List Nat) (l : List α) (h : ∀ x ∈ l, e x ≠ []) : l.length ≤ (Pk.list e l).length := by
  have := flat_ge (e := e) l h
  unfold Pk.list
  rw [List.length_append]
  omega

/-- what has been read and could be read fits -/
def Fits (x : Itm) : Prop := x.it.Ok → x.it.enc.length ≤ 4000 → x.Ok
theorem okz : Pk.OkI 0 := by unfold Pk.OkI; omega
theorem fit1 (z : Int) : Fits { zero 1 with z := z } := fun h _ => ⟨(show (1 : Nat) ≤ 255 by decide), (show (0 : Nat) < 18446744073709551616 by decide), h, by simp [zero], by simp [zero], (show ByteArray.empty.size ≤ 1000000 by decide), by simp [zero], by simp [zero], by simp [zero], by simp [zero]⟩
theorem fit2 (b : Bool) : Fits { zero 2 with b := b } := fun _ _ => ⟨(show (2 : Nat) ≤ 255 by decide), (show (0 : Nat) < 18446744073709551616 by decide), okz, by simp [zero], by simp [zero], (show ByteArray.empty.size ≤ 1000000 by decide), by simp [zero], by simp [zero], by simp [zero], by simp [zero]⟩
theorem fit3 (s : ByteArray) : Fits { zero 3 with s := s } := fun _ hl => ⟨(show (3 : Nat) ≤ 255 by decide), (show (0 : Nat) < 18446744073709551616 by decide), okz, by simp [zero], by simp [zero], by
  have e : (Pk.text (bs s)).length ≤ 4000 := hl
  unfold Pk.text at e
  rw [List.length_append, bs_len] at e
  show s.size ≤ 1000000
  omega, by simp [zero], by simp [zero], by simp [zero], by simp [zero]⟩
theorem fit4 (v : Value) (l : List Nat) : Fits { zero 4 with vl := v, l := l } := fun h hl => by
  have h2 : Pk.OkL Pk.OkN l := h
  have e : (Pk.list Pk.num l).length ≤ 4000 := hl
  have := list_ge Pk.num l (fun x _ => Pk.num_ne x)
  exact ⟨(show (4 : Nat) ≤ 255 by decide), (show (0 : Nat) < 18446744073709551616 by decide), okz, h2.2, by simp [zero], (show ByteArray.empty.size ≤ 1000000 by decide), by show l.length ≤ _; omega, by simp [zero], by simp [zero], by simp [zero]⟩
theorem fit5 (v : Value) (l : List Int) : Fits { zero 5 with vm := v, m := l } := fun h hl => by
  have h2 : Pk.OkL Pk.OkI l := h
  have e : (Pk.list Pk.int l).length ≤ 4000 := hl
  have := list_ge Pk.int l (fun x _ => Pk.num_ne _)
  exact ⟨(show (5 : Nat) ≤ 255 by decide), (show (0 : Nat) < 18446744073709551616 by decide), okz, by simp [zero], h2.2, (show ByteArray.empty.size ≤ 1000000 by decide), by simp [zero], by show l.length ≤ _; omega, by simp [zero], by simp [zero]⟩
theorem fit6 (v : Value) (t : List ByteArray) : Fits { zero 6 with vt := v, t := t } := fun h hl => by
  have e : (Pk.list Pk.text (t.map bs)).length ≤ 4000 := hl
  rw [list_txt] at e
  have h1 := list_ge txt t (fun x _ => by unfold txt Pk.text; intro he; exact Pk.num_ne _ (List.append_eq_nil_iff.1 he).1)
  have h3 := sizes_le t
  unfold Pk.list at e h1
  rw [List.length_append] at e h1
  exact ⟨(show (6 : Nat) ≤ 255 by decide), (show (0 : Nat) < 18446744073709551616 by decide), okz, by simp [zero], by simp [zero], (show ByteArray.empty.size ≤ 1000000 by decide), by simp [zero], by simp [zero], by show t.length ≤ _; omega, by show (t.map ByteArray.size).sum ≤ _; omega⟩
theorem fit0 (n : Nat) : Fits { zero 0 with n := n } := fun h _ => ⟨(show (0 : Nat) ≤ 255 by decide), h, okz, by simp [zero], by simp [zero], (show ByteArray.empty.size ≤ 1000000 by decide), by simp [zero], by simp [zero], by simp [zero], by simp [zero]⟩

/-- behind the reading of a thing of kind c: the Item x in block g has it -/
def Read (wo : World) (p g c : Nat) (rest : List Nat) (wx : World) : Prop :=
  ∃ x q2, Blk wx g 33 x.cells ∧ x.In (fun k => k < wo.heap.size) wx ∧ Pk.rd c (some rest) = (x.it, q2) ∧ Rdx wx p q2 ∧ Mod (At p) wo wx ∧ Fits x

theorem long_eq {x : Itm} {rest t : List Nat} {c : Nat} (hc : c < 7) (hr : ∀ b ∈ rest, b < 256) (h : Pk.rd c (some rest) = (x.it, some t)) : rest = x.enc ++ t ∧ x.it.Ok :=
  have := Pk.rd_same c hc rest x.it t hr h
  ⟨this.1, this.2.1⟩

set_option maxRecDepth 100000 in
set_option maxHeartbeats 8000000 in
theorem walk_main (b : ByteArray) (u : Value) (ks : List Nat) (w : World) (hu : Row (fun k => w.heap.size ≤ k) w u (cb ks)) (hks : ∀ k ∈ ks, k < 256) (hb : b.size ≤ 4000) (hn : ks.length ≤ 60) :
    Calls Try.prog F #[.string b, u] w fun e w' => e = .returned (.bool true) ∧ Below w.heap.size w w' := by
  obtain ⟨p, hp⟩ : ∃ p, w.heap.size = p := ⟨_, rfl⟩
  rw [hp] at hu
  obtain ⟨A, c, rfl⟩ := hu.form
  rw [cb_len] at hu ⊢
  have HU := Lib.hid hu
  have HKS := Lib.hid hks
  have hz1 : ¬ (4000 : Int) < (b.size : Int) := by omega
  have hz2 : ¬ (60 : Int) < (ks.length : Int) := by omega
  clear hu hks
  go_enter Try.func6, Try.ntmps6
  go_wp2_with fail
  refine (newReader_any b _).mono ?_
  rintro e w1 ⟨rfl, rfl⟩
  go_wp2_with fail
  refine (newWriter_any _).mono ?_
  rintro e w2 ⟨rfl, hw2⟩
  have hq : (w.alloc (.cells #[.bool true, .bool true, .string b] 56)).heap.size = p + 1 := by simp [hp]
  have T2 : Hid (Below p w w2 ∧ Rdx w2 p (some (bs b)) ∧ Wr w2 (p + 1) (.slice none 0 0) []) := by
    rw [hw2]
    refine ⟨?_, ?_, ?_⟩
    · rw [← hp]; exact below_seq (below_alloc _ _) (below_alloc _ _)
    · rw [← hp]; exact ⟨b, (Rd.new b w).alloc _, by omega⟩
    · have := Wr.new (w.alloc (.cells #[.bool true, .bool true, .string b] 56))
      rwa [hq] at this
  rw [hq]
  have HP := Lib.hid hp
  clear hw2 hq hp
  go_wp2_with fail
  go_loopg [7] ks.length (fun g s7 wx => ∃ (k : Nat) (xs rest : List Nat) (v' : Value), s7 = .int .i64 k ∧ k + g = ks.length ∧ Hid (Below p w wx ∧ Rdx wx p (some rest) ∧ Wr wx (p + 1) v' xs ∧ bs b = xs ++ rest))
  case atStart => exact ⟨0, [], bs b, _, rfl, by omega, T2.out.1, T2.out.2.1, T2.out.2.2, rfl⟩
  case round =>
    obtain ⟨k, xs, rest, v', rfl, hk, HT⟩ := hrel
    clear T2
    by_cases hlt : k < ks.length
    · obtain ⟨y, hy⟩ : ∃ y, ks[k] = y := ⟨_, rfl⟩
      have hyb : y < 256 := HKS.out y (by rw [← hy]; exact List.getElem_mem hlt)
      obtain ⟨a, cap, ha, hab, hS, hcs⟩ := HU.out.at_ (by rw [cb_len]; omega)
      injection ha with ha1 ha2 ha3
      subst ha1
      have hcell : wr.cell? (a.add k) = some (.int .u8 (y : Int)) := by
        rw [HT.out.1.cell (by rw [block_of_add]; omega)]
        exact hcs k _ (by unfold cb; rw [List.getElem?_map, List.getElem?_eq_getElem hlt, hy]; rfl)
      obtain ⟨c7, hc7⟩ : ∃ c7 : Nat, y % 7 = c7 := ⟨_, rfl⟩
      have e7 : (y : Int) % 7 = (c7 : Int) := by omega
      have hkz : (k : Int) < (ks.length : Int) := by omega
      clear hcs ha2 ha3 hy
      have hc7l : c7 < 7 := by omega
      obtain ⟨wo, rfl⟩ : ∃ wo : World, wo = wr := ⟨_, rfl⟩
      have hpz : p < wo.heap.size := HT.out.2.1.lt
      go_upto_block 2 with fail
      go_cut [41] (fun s41 wx => Read wo p wo.heap.size c7 rest wx)
      case first =>
        have HX0 : Hid (Rdx (wo.alloc (.cells #[.int .u8 (c7 : Int), .int .u64 0, .int .i64 0, .bool false, .string ⟨#[]⟩, .slice none 0 0, .slice none 0 0, .slice none 0 0] 33)) p (some rest)) := HT.out.2.1.below (below_alloc _ _)
        have HM0 : Hid (Mod (At p) wo (wo.alloc (.cells #[.int .u8 (c7 : Int), .int .u64 0, .int .i64 0, .bool false, .string ⟨#[]⟩, .slice none 0 0, .slice none 0 0, .slice none 0 0] 33))) := (Mod.refl _ _).alloc _
        have HB0 : Hid (Blk (wo.alloc (.cells #[.int .u8 (c7 : Int), .int .u64 0, .int .i64 0, .bool false, .string ⟨#[]⟩, .slice none 0 0, .slice none 0 0, .slice none 0 0] 33)) wo.heap.size 33 #[.int .u8 (c7 : Int), .int .u64 0, .int .i64 0, .bool false, .string ⟨#[]⟩, .slice none 0 0, .slice none 0 0, .slice none 0 0]) := Blk.new _ _ _
        have hne : ¬ wo.heap.size = p := by omega
        have hcases : c7 = 0 ∨ c7 = 1 ∨ c7 = 2 ∨ c7 = 3 ∨ c7 = 4 ∨ c7 = 5 ∨ c7 = 6 := by omega
        clear hcell e7 hc7l hkz
        rcases hcases with rfl | rfl | rfl | rfl | rfl | rfl | rfl
        · have C := Lib.hid (rnum_any p (some rest) _ HX0.out)
          go_wp2_with fail
          refine C.out.mono ?_
          rintro e w3 ⟨rfl, hx3, hm3⟩
          have HB1 := Lib.hid (HB0.out.keep hm3 hne)
          have hc1 : w3.cell? ⟨wo.heap.size, 1, none⟩ = some (.int .u64 0) := HB1.out.cell 1
          have hf1 := HB1.out.frozen 1
          skip
          go_wp2_with fail
          go_meet
          exact ⟨{ zero 0 with n := (Pk.rNum (some rest)).1 }, _, HB1.out.set_ 1 _, ⟨nil_row _ _, nil_row _ _, nil_row _ _⟩, rfl, hx3.keep (mod_at (p := wo.heap.size) (Mod.refl _ _) 1 _) (fun e => hne e.symm), (HM0.out.trans hm3).setCell (p := ⟨wo.heap.size, 1, none⟩) (.inr (Nat.le_refl _)) _, fit0 _⟩
        · have C := Lib.hid (rint_any p (some rest) _ HX0.out)
          go_wp2_with fail
          refine C.out.mono ?_
          rintro e w3 ⟨rfl, hx3, hm3⟩
          have HB1 := Lib.hid (HB0.out.keep hm3 hne)
          have hc1 : w3.cell? ⟨wo.heap.size, 2, none⟩ = some (.int .i64 0) := HB1.out.cell 2
          have hf1 := HB1.out.frozen 2
          skip
          go_wp2_with fail
          go_meet
          exact ⟨{ zero 1 with z := (Pk.rInt (some rest)).1 }, _, HB1.out.set_ 2 _, ⟨nil_row _ _, nil_row _ _, nil_row _ _⟩, rfl, hx3.keep (mod_at (p := wo.heap.size) (Mod.refl _ _) 2 _) (fun e => hne e.symm), (HM0.out.trans hm3).setCell (p := ⟨wo.heap.size, 2, none⟩) (.inr (Nat.le_refl _)) _, fit1 _⟩
        · have C := Lib.hid (rtruth_any p (some rest) _ HX0.out)
          go_wp2_with fail
          refine C.out.mono ?_
          rintro e w3 ⟨rfl, hx3, hm3⟩
          have HB1 := Lib.hid (HB0.out.keep hm3 hne)
          have hc1 : w3.cell? ⟨wo.heap.size, 3, none⟩ = some (.bool false) := HB1.out.cell 3
          have hf1 := HB1.out.frozen 3
          skip
          go_wp2_with fail
          go_meet
          exact ⟨{ zero 2 with b := (Pk.rTruth (some rest)).1 }, _, HB1.out.set_ 3 _, ⟨nil_row _ _, nil_row _ _, nil_row _ _⟩, rfl, hx3.keep (mod_at (p := wo.heap.size) (Mod.refl _ _) 3 _) (fun e => hne e.symm), (HM0.out.trans hm3).setCell (p := ⟨wo.heap.size, 3, none⟩) (.inr (Nat.le_refl _)) _, fit2 _⟩
        · have C := Lib.hid (rtext_any p (some rest) _ HX0.out)
          go_wp2_with fail
          refine C.out.mono ?_
          rintro e w3 ⟨⟨s3, rfl, hs3, hl3⟩, hx3, hm3⟩
          have HB1 := Lib.hid (HB0.out.keep hm3 hne)
          have hc1 : w3.cell? ⟨wo.heap.size, 4, none⟩ = some (.string ⟨#[]⟩) := HB1.out.cell 4
          have hf1 := HB1.out.frozen 4
          have HS3 := Lib.hid hs3
          clear hs3
          go_wp2_with fail
          go_meet
          exact ⟨{ zero 3 with s := s3 }, _, HB1.out.set_ 4 _, ⟨nil_row _ _, nil_row _ _, nil_row _ _⟩, by show _ = (Pk.It.text (bs s3), _); rw [HS3.out]; rfl, hx3.keep (mod_at (p := wo.heap.size) (Mod.refl _ _) 4 _) (fun e => hne e.symm), (HM0.out.trans hm3).setCell (p := ⟨wo.heap.size, 4, none⟩) (.inr (Nat.le_refl _)) _, fit3 _⟩
        · have C := Lib.hid (rnums_any p (some rest) _ HX0.out)
          go_wp2_with fail
          refine C.out.mono ?_
          rintro e w3 ⟨⟨v3, ys, rfl, ho, hy, hl3⟩, hx3, hm3⟩
          have HB1 := Lib.hid (HB0.out.keep hm3 hne)
          have hc1 : w3.cell? ⟨wo.heap.size, 5, none⟩ = some (.slice none 0 0) := HB1.out.cell 5
          have hf1 := HB1.out.frozen 5
          obtain ⟨A3, m3, c3, rfl⟩ : ∃ A m c, v3 = .slice A m c := by
            obtain ⟨A, c, e⟩ := (Row.of_own ho).form
            exact ⟨A, _, c, e⟩
          have HO := Lib.hid ho
          have HY := Lib.hid hy
          clear ho hy
          go_wp2_with fail
          go_meet
          exact ⟨{ zero 4 with vl := .slice A3 m3 c3, l := ys }, _, HB1.out.set_ 5 _, ⟨((Row.of_own HO.out).keep (mod_at (p := wo.heap.size) (Mod.refl _ _) 5 _) (fun k _ hk => by have : k = wo.heap.size := hk; simp; omega)).mono (fun k _ hk => by simp; omega), nil_row _ _, nil_row _ _⟩, by show _ = (Pk.It.nums ys, _); have := HY.out; rw [List.map_id'] at this; rw [this]; rfl, hx3.keep (mod_at (p := wo.heap.size) (Mod.refl _ _) 5 _) (fun e => hne e.symm), (HM0.out.trans hm3).setCell (p := ⟨wo.heap.size, 5, none⟩) (.inr (Nat.le_refl _)) _, fit4 _ _⟩
        · have C := Lib.hid (rints_any p (some rest) _ HX0.out)
          go_wp2_with fail
          refine C.out.mono ?_
          rintro e w3 ⟨⟨v3, ys, rfl, ho, hy, hl3⟩, hx3, hm3⟩
          have HB1 := Lib.hid (HB0.out.keep hm3 hne)
          have hc1 : w3.cell? ⟨wo.heap.size, 6, none⟩ = some (.slice none 0 0) := HB1.out.cell 6
          have hf1 := HB1.out.frozen 6
          obtain ⟨A3, m3, c3, rfl⟩ : ∃ A m c, v3 = .slice A m c := by
            obtain ⟨A, c, e⟩ := (Row.of_own ho).form
            exact ⟨A, _, c, e⟩
          have HO := Lib.hid ho
          have HY := Lib.hid hy
          clear ho hy
          go_wp2_with fail
          go_meet
          exact ⟨{ zero 5 with vm := .slice A3 m3 c3, m := ys }, _, HB1.out.set_ 6 _, ⟨nil_row _ _, ((Row.of_own HO.out).keep (mod_at (p := wo.heap.size) (Mod.refl _ _) 6 _) (fun k _ hk => by have : k = wo.heap.size := hk; simp; omega)).mono (fun k _ hk => by simp; omega), nil_row _ _⟩, by show _ = (Pk.It.ints ys, _); have := HY.out; rw [List.map_id'] at this; rw [this]; rfl, hx3.keep (mod_at (p := wo.heap.size) (Mod.refl _ _) 6 _) (fun e => hne e.symm), (HM0.out.trans hm3).setCell (p := ⟨wo.heap.size, 6, none⟩) (.inr (Nat.le_refl _)) _, fit5 _ _⟩
        · have C := Lib.hid (rtexts_any p (some rest) _ HX0.out)
          go_wp2_with fail
          refine C.out.mono ?_
          rintro e w3 ⟨⟨v3, ys, rfl, ho, hy, hl3⟩, hx3, hm3⟩
          have HB1 := Lib.hid (HB0.out.keep hm3 hne)
          have hc1 : w3.cell? ⟨wo.heap.size, 7, none⟩ = some (.slice none 0 0) := HB1.out.cell 7
          have hf1 := HB1.out.frozen 7
          obtain ⟨A3, m3, c3, rfl⟩ : ∃ A m c, v3 = .slice A m c := by
            obtain ⟨A, c, e⟩ := (Row.of_own ho).form
            exact ⟨A, _, c, e⟩
          have HO := Lib.hid ho
          have HY := Lib.hid hy
          clear ho hy
          go_wp2_with fail
          go_meet
          exact ⟨{ zero 6 with vt := .slice A3 m3 c3, t := ys }, _, HB1.out.set_ 7 _, ⟨nil_row _ _, nil_row _ _, ((Row.of_own HO.out).keep (mod_at (p := wo.heap.size) (Mod.refl _ _) 7 _) (fun k _ hk => by have : k = wo.heap.size := hk; simp; omega)).mono (fun k _ hk => by simp; omega)⟩, by show _ = (Pk.It.texts (ys.map bs), _); rw [HY.out]; rfl, hx3.keep (mod_at (p := wo.heap.size) (Mod.refl _ _) 7 _) (fun e => hne e.symm), (HM0.out.trans hm3).setCell (p := ⟨wo.heap.size, 7, none⟩) (.inr (Nat.le_refl _)) _, fit6 _ _⟩
      case rest =>
        obtain ⟨x, q2, hB, hIn, hRd, hX, hM, hF⟩ := hcut
        have hW : Wr wc (p + 1) v' xs := HT.out.2.2.1.keep hM (fun k hk e => by have h1 := (HT.out.2.2.1.fp_lt k hk).1; have h2 : k = p := e; omega)
        have BEL : Hid (Below p w wc) := HT.out.1.trans (hM.below (by omega) (fun k hk => by have : k = p := hk; omega))
        have HX := Lib.hid hX
        obtain ⟨s1, hr1, hs1⟩ := hX
        have CF := Lib.hid (rfine_any p q2 s1 wc hr1)
        have CL := Lib.hid (rleft_any p q2 s1 wc hr1)
        have hpc : p + 1 < wc.heap.size := hW.blk.lt
        clear hcell
        cases q2 with
        | none =>
          have es : s1 = ByteArray.empty := hr1.left
          subst es
          have CN := Lib.hid (rnum_any p none wc HX.out)
          rw [show Pk.rNum none = (0, none) from rfl] at CN
          clear hB hIn hRd hM hF hW hr1
          go_wp2_with fail
          refine CF.out.mono ?_
          rintro e w' ⟨rfl, rfl⟩
          go_wp2_with fail
          refine CL.out.mono ?_
          rintro e w' ⟨rfl, rfl⟩
          go_wp2_with fail
          refine CN.out.mono ?_
          rintro e w5 ⟨rfl, hx5, hm5⟩
          have B5 : Hid (Below p w w5) := BEL.out.trans (hm5.below (by omega) (fun k hk => by have : k = p := hk; omega))
          have C5 := Lib.hid (rfine_any p _ _ w5 (rdx_none hx5))
          have hp5 : p < w5.heap.size := hx5.lt
          clear hx5 hm5
          go_wp2_with fail
          refine C5.out.mono ?_
          rintro e w' ⟨rfl, rfl⟩
          go_wp2_with fail
          refine (head_any _).mono ?_
          rintro e w6 ⟨rfl, b6⟩
          have B6 := Lib.hid (B5.out.trans (b6.mono (by omega)))
          clear b6
          go_wp2_with fail
          go_ret
          refine ⟨rfl, ?_⟩
          rw [HP.out]
          exact B6.out
        | some t =>
          obtain ⟨hlong, hitok⟩ := long_eq (x := x) hc7l (HT.out.2.1.len).2 hRd
          have hlen : xs.length + x.enc.length + t.length = b.size := by
            have e := congrArg List.length HT.out.2.2.2
            rw [hlong, bs_len, List.length_append, List.length_append] at e
            omega
          have hxok : x.Ok := hF hitok (by show x.enc.length ≤ 4000; omega)
          have hts : t.length = s1.size := by
            have : bs s1 = t := hr1.left
            rw [← this, bs_len]
          have C2 := Lib.hid (writes_any (p + 1) v' xs x wc hW hxok (hIn.mono (fun k _ hk => by have := (HT.out.2.2.1.fp_lt k hk).2; exact this)) (by omega))
          obtain ⟨K, hK⟩ : ∃ K : Nat, b.size - s1.size = K := ⟨_, rfl⟩
          have HKE : Hid (bs (b.extract 0 K) = xs ++ x.enc) := by
            show _ = _
            rw [bs_extract, List.drop_zero, Nat.sub_zero, HT.out.2.2.2, hlong, ← List.append_assoc, List.take_left']
            rw [List.length_append]
            omega
          have HBL : Hid (bs b = (xs ++ x.enc) ++ t) := by show _ = _; rw [HT.out.2.2.2, hlong, List.append_assoc]
          have HLT : Hid (∀ z ∈ xs ++ x.enc, z < 256) := fun z hz => bs_lt b z (by rw [HBL.out]; exact List.mem_append.2 (.inl hz))
          have hKb : K ≤ b.size := by omega
          have hKz : (b.size : Int) - (s1.size : Int) = (K : Int) := by omega
          have HR1 := Lib.hid hr1
          have d0 : wc.cell? ⟨wo.heap.size, 0, none⟩ = some (.int .u8 x.k) := hB.cell 0
          have d1 : wc.cell? ⟨wo.heap.size, 1, none⟩ = some (.int .u64 x.n) := hB.cell 1
          have d2 : wc.cell? ⟨wo.heap.size, 2, none⟩ = some (.int .i64 x.z) := hB.cell 2
          have d3 : wc.cell? ⟨wo.heap.size, 3, none⟩ = some (.bool x.b) := hB.cell 3
          have d4 : wc.cell? ⟨wo.heap.size, 4, none⟩ = some (.string x.s) := hB.cell 4
          have d5 : wc.cell? ⟨wo.heap.size, 5, none⟩ = some (x.vl) := hB.cell 5
          have d6 : wc.cell? ⟨wo.heap.size, 6, none⟩ = some (x.vm) := hB.cell 6
          have d7 : wc.cell? ⟨wo.heap.size, 7, none⟩ = some (x.vt) := hB.cell 7
          have HW := Lib.hid hW
          have g1 : decide ((K : Int) < 0) = false := by simp
          have g2 : decide ((b.size : Int) < (K : Int)) = false := by simp; omega
          clear hB hIn hRd hM hF hW hlong hitok hlen hxok hts hr1 hK
          go_wp2_with fail
          refine CF.out.mono ?_
          rintro e w' ⟨rfl, rfl⟩
          go_wp2_with fail
          refine C2.out.mono ?_
          rintro e w5 ⟨⟨t5, rfl, ht5⟩, v5, hw5⟩
          have HR5 : Hid (Rd w5 p (some t) s1) := HR1.out.keep hw5.mod (fun e => by have := (HW.out.fp_lt p e).1; omega)
          have HT5 : Hid (Below p w w5 ∧ Wr w5 (p + 1) v5 (xs ++ x.enc)) := ⟨BEL.out.trans (hw5.low HW.out (by omega)), hw5.wr⟩
          have C5 := Lib.hid (rleft_any p _ s1 w5 HR5.out)
          have CB : Hid (∀ n, Calls Try.prog 14 #[.pointer (some ⟨p + 1, 0, none⟩)] (w5.drewN n) fun e w'' => e = .returned (.string (b.extract 0 K)) ∧ ∃ m, w'' = w5.drewN m) := fun n =>
            (wbytes_any (p + 1) v5 _ (w5.drewN n) (HT5.out.2.drewN n) HLT.out).mono fun e w'' hh => by
              obtain ⟨⟨s6, rfl, hs6⟩, rfl⟩ := hh
              have : s6 = b.extract 0 K := bs_inj _ _ (hs6.trans HKE.out.symm)
              exact ⟨by rw [this], n, rfl⟩
          clear hw5 ht5 d0 d1 d2 d3 d4 d5 d6 d7 C2
          go_wp2_with fail
          refine C5.out.mono ?_
          rintro e w' ⟨rfl, rfl⟩
          go_wp2_with fail
          go_quiet ((go_at_call 14; exact CB.out _))
          go_wp2_with fail
          go_roundg (ks.length - (k + 1))
          case measure => omega
          case rel => exact ⟨k + 1, xs ++ x.enc, t, v5, by go_num, by omega, below_drewN HT5.out.1 _, ⟨s1, HR5.out.drewN _, hs1⟩, HT5.out.2.drewN _, HBL.out⟩
    · obtain rfl : k = ks.length := by omega
      have hpz : p < wr.heap.size := HT.out.2.1.lt
      go_wp2_with fail
      refine (head_any _).mono ?_
      rintro e w6 ⟨rfl, b6⟩
      have B6 := Lib.hid (HT.out.1.trans (b6.mono (by omega)))
      clear b6
      go_wp2_with fail
      go_ret
      refine ⟨rfl, ?_⟩
      rw [HP.out]
      exact B6.out

set_option maxRecDepth 100000 in
set_option maxHeartbeats 2000000 in
theorem walk_long (b : ByteArray) (A : Option Addr) (n c : Nat) (w : World) (h : 4000 < b.size ∨ 60 < n) :
    Calls Try.prog F #[.string b, .slice A n c] w fun e w' => e = .returned (.bool true) ∧ Below w.heap.size w w' := by
  by_cases h1 : 4000 < b.size
  · have hz : (4000 : Int) < (b.size : Int) := by omega
    clear h
    go_enter Try.func6, Try.ntmps6
    go_wp2_with fail
    refine (head_any _).mono ?_
    rintro e w1 ⟨rfl, b1⟩
    go_wp2_with fail
    go_ret
    exact ⟨rfl, b1⟩
  · have hz : ¬ (4000 : Int) < (b.size : Int) := by omega
    have hz2 : (60 : Int) < (n : Int) := by omega
    clear h
    go_enter Try.func6, Try.ntmps6
    go_wp2_with fail
    refine (head_any _).mono ?_
    rintro e w1 ⟨rfl, b1⟩
    go_wp2_with fail
    go_ret
    exact ⟨rfl, b1⟩

theorem walk (b : ByteArray) (u : Value) (ks : List Nat) (w : World) (hu : Row (fun k => w.heap.size ≤ k) w u (cb ks)) (hks : ∀ k ∈ ks, k < 256) :
    Calls Try.prog F #[.string b, u] w fun e w' => e = .returned (.bool true) ∧ Below w.heap.size w w' := by
  by_cases h : 4000 < b.size ∨ 60 < ks.length
  · obtain ⟨A, c, rfl⟩ := hu.form
    rw [cb_len]
    exact walk_long b A _ c w h
  · exact walk_main b u ks w hu hks (by omega) (by omega)
end Go.Proofs.Ytbfdfaadioaldaa.packSame
