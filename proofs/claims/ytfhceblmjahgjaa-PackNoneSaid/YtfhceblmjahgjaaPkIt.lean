/- Things that are written, as the laws' type Item has them: their cells, their bytes; and the contract of the laws' own 'writes'. -/
import Derived.Test.YtfhceblmjahgjaaPkF2
import Derived.Test.YtfhceblmjahgjaaPkR2
namespace Go.Proofs.Ytfhceblmjahgjaa
open Go.ChangeShapes Go.WideShapes Go.ChangeAt Go.RowKit

/-- an Item: its numbers, texts and slices, and what the slices read as -/
structure Itm where
  k : Nat
  n : Nat
  z : Int
  b : Bool
  s : ByteArray
  vl : Value
  vm : Value
  vt : Value
  l : List Nat
  m : List Int
  t : List ByteArray

def Itm.cells (x : Itm) : Array Value := #[.int .u8 x.k, .int .u64 x.n, .int .i64 x.z, .bool x.b, .string x.s, x.vl, x.vm, x.vt]
/-- the Item as a value -/
def Itm.val (x : Itm) : Value := .agg x.cells

/-- what is written of it -/
def Itm.it (x : Itm) : Pk.It :=
  if x.k % 7 = 1 then .int x.z
  else if x.k % 7 = 2 then .truth x.b
  else if x.k % 7 = 3 then .text (bs x.s)
  else if x.k % 7 = 4 then .nums x.l
  else if x.k % 7 = 5 then .ints x.m
  else if x.k % 7 = 6 then .texts (x.t.map bs)
  else .num x.n
def Itm.enc (x : Itm) : List Nat := x.it.enc

structure Itm.Ok (x : Itm) : Prop where
  k : x.k ≤ 255
  n : x.n < 18446744073709551616
  z : Pk.OkI x.z
  l : ∀ y ∈ x.l, Pk.OkN y
  m : ∀ y ∈ x.m, Pk.OkI y
  s1 : x.s.size ≤ 1000000
  l1 : x.l.length ≤ 1000000
  m1 : x.m.length ≤ 1000000
  t1 : x.t.length ≤ 1000000
  t2 : (x.t.map ByteArray.size).sum ≤ 1000000

structure Itm.In (S : Nat → Prop) (w : World) (x : Itm) : Prop where
  l : Row S w x.vl (x.l.map fN)
  m : Row S w x.vm (x.m.map fI)
  t : Row S w x.vt (x.t.map fS)

theorem Itm.In.keep {S T : Nat → Prop} {w w' : World} {x : Itm} (h : x.In S w) (m : Mod T w w') (hT : ∀ k, k < w.heap.size → T k → S k) : x.In S w' := ⟨h.l.keep m hT, h.m.keep m hT, h.t.keep m hT⟩
theorem Itm.In.mono {S T : Nat → Prop} {w : World} {x : Itm} (h : x.In S w) (hT : ∀ k, k < w.heap.size → T k → S k) : x.In T w := ⟨h.l.mono hT, h.m.mono hT, h.t.mono hT⟩
theorem Itm.In.alloc {S : Nat → Prop} {w : World} {x : Itm} (h : x.In S w) (o : Obj) : x.In S (w.alloc o) := h.keep (T := fun _ => False) ((Mod.refl _ _).alloc o) (fun _ _ h => h.elim)
theorem Itm.In.below {S : Nat → Prop} {w w' : World} {x : Itm} (h : x.In S w) (b : Below w.heap.size w w') : x.In S w' := h.keep (T := fun _ => False) (Mod.of_below b) (fun _ _ h => h.elim)

/-! ### lengths -/
theorem num_le (n : Nat) (h : n < 18446744073709551616) : (Pk.num n).length ≤ 9 := (Pk.num_len n h).2
theorem int_le (z : Int) (h : Pk.OkI z) : (Pk.int z).length ≤ 9 := num_le _ (Pk.zig_lt z h.1 h.2)
theorem flat_le {α : Type} (e : α → List Nat) : ∀ (l : List α), (∀ x ∈ l, (e x).length ≤ 9) → (l.flatMap e).length ≤ 9 * l.length
  | [], _ => by simp
  | a :: r, h => by
    have h1 := h a (by simp)
    have h2 := flat_le e r (fun x hx => h x (by simp [hx]))
    rw [List.flatMap_cons, List.length_append, List.length_cons]
    omega
theorem nums_le (l : List Nat) (h : ∀ x ∈ l, Pk.OkN x) (hl : l.length ≤ 1000000) : (Pk.list Pk.num l).length ≤ 9000009 := by
  have := flat_le Pk.num l (fun x hx => num_le x (h x hx))
  have h2 := num_le l.length (by omega)
  unfold Pk.list
  rw [List.length_append]
  omega
theorem ints_le (l : List Int) (h : ∀ x ∈ l, Pk.OkI x) (hl : l.length ≤ 1000000) : (Pk.list Pk.int l).length ≤ 9000009 := by
  have := flat_le Pk.int l (fun x hx => int_le x (h x hx))
  have h2 := num_le l.length (by omega)
  unfold Pk.list
  rw [List.length_append]
  omega
theorem txt_le (s : ByteArray) (h : s.size ≤ 1000000000) : (txt s).length ≤ s.size + 9 := by
  unfold txt Pk.text
  rw [List.length_append, bs_len]
  have := num_le s.size (by omega)
  omega
theorem txts_le : ∀ t : List ByteArray, (t.map ByteArray.size).sum ≤ 1000000 → (t.flatMap txt).length ≤ (t.map ByteArray.size).sum + 9 * t.length
  | [], _ => by simp
  | a :: r, h => by
    rw [List.map_cons, List.sum_cons] at h ⊢
    have h1 := txt_le a (by omega)
    have h2 := txts_le r (by omega)
    rw [List.flatMap_cons, List.length_append, List.length_cons]
    omega
theorem texts_le (t : List ByteArray) (hs : (t.map ByteArray.size).sum ≤ 1000000) (hl : t.length ≤ 1000000) : (Pk.list txt t).length ≤ 10000009 := by
  have := txts_le t hs
  have h2 := num_le t.length (by omega)
  unfold Pk.list
  rw [List.length_append]
  omega
theorem size_le_sum : ∀ (t : List ByteArray) (x : ByteArray), x ∈ t → x.size ≤ (t.map ByteArray.size).sum
  | [], x, h => by simp at h
  | a :: r, x, h => by
    rw [List.map_cons, List.sum_cons]
    rcases List.mem_cons.1 h with rfl | h
    · omega
    · have := size_le_sum r x h
      omega

theorem list_txt (t : List ByteArray) : Pk.list Pk.text (t.map bs) = Pk.list txt t := by
  unfold Pk.list
  rw [List.length_map, List.flatMap_map]
  rfl

theorem Itm.it_ok (x : Itm) (h : x.Ok) : x.it.Ok := by
  unfold Itm.it
  split
  · exact h.z
  · split
    · trivial
    · split
      · exact ⟨by rw [bs_len]; have := h.s1; omega, bs_lt _⟩
      · split
        · exact ⟨by have := h.l1; omega, h.l⟩
        · split
          · exact ⟨by have := h.m1; omega, h.m⟩
          · split
            · refine ⟨by rw [List.length_map]; have := h.t1; omega, fun y hy => ?_⟩
              obtain ⟨s, hs, rfl⟩ := List.mem_map.1 hy
              have h1 := size_le_sum x.t s hs
              have h2 := h.t2
              exact ⟨by rw [bs_len]; omega, bs_lt _⟩
            · exact h.n
theorem Itm.enc_le (x : Itm) (h : x.Ok) : x.enc.length ≤ 10000009 := by
  unfold Itm.enc Itm.it
  split
  · have := int_le x.z h.z; simp only [Pk.It.enc]; omega
  · split
    · simp only [Pk.It.enc]
      have := num_le (if x.b = true then 1 else 0) (by split <;> omega)
      unfold Pk.truth
      omega
    · split
      · have := txt_le x.s (by have := h.s1; omega)
        have h2 := h.s1
        simp only [Pk.It.enc]
        unfold txt at this
        omega
      · split
        · have := nums_le x.l h.l h.l1; simp only [Pk.It.enc]; omega
        · split
          · have := ints_le x.m h.m h.m1; simp only [Pk.It.enc]; omega
          · split
            · have := texts_le x.t h.t2 h.t1; simp only [Pk.It.enc]; rw [list_txt]; omega
            · have := num_le x.n h.n; simp only [Pk.It.enc]; omega
theorem Itm.enc_lt (x : Itm) (h : x.Ok) : ∀ b ∈ x.enc, b < 256 := Pk.enc_lt x.it (x.it_ok h)

/-- the thing has been written, and its bytes are returned -/
def WrPost (w : World) (p : Nat) (v : Value) (xs l : List Nat) (e : Ending) (w' : World) : Prop := (∃ s, e = .returned (.string s) ∧ bs s = l) ∧ ∃ v', Wrote w p v xs w' v'

theorem row_after {S : Nat → Prop} {w w1 : World} {o : Obj} {v : Value} {xs : List Value} (h1 : Row S w v xs) (h2 : Row S (w.alloc o) v xs) (h : Below w.heap.size w w1 ∨ Mod S (w.alloc o) w1) : Row S w1 v xs := by
  rcases h with h | h
  · exact h1.below h
  · exact h2.keep h (fun _ _ hk => hk)

set_option maxRecDepth 100000 in
set_option maxHeartbeats 2000000 in
theorem writes_1 (p : Nat) (v : Value) (xs : List Nat) (x : Itm) (w : World) (h : Wr w p v xs) (hx : x.Ok) (hin : x.In (fp p v) w) (hl : xs.length ≤ 1000000000000) (hk : x.k % 7 = 1) :
    Calls Try.prog 13 #[ptr p, x.val] w (WrPost w p v (xs ++ x.enc) x.enc) := by
  have he : x.enc = Pk.int x.z := by unfold Itm.enc Itm.it; simp only [hk]; rfl
  rw [he]
  have hlen := x.enc_le hx
  rw [he] at hlen
  have hin2 : x.In (fp p v) (w.alloc (.cells x.cells 33)) := hin.alloc _
  have C1 := Lib.hid (wint_any p v xs x.z _ (h.alloc (.cells x.cells 33)) hx.z (by omega))
  have C2 : Hid (∀ w1, Below w.heap.size w w1 ∨ Mod (fp p v) (w.alloc (.cells x.cells 33)) w1 → Calls Try.prog 38 #[.int .i64 x.z] w1 (BPost w1 (Pk.int x.z))) := fun w1 hw1 => by
    exact fint_any x.z w1 hx.z
  have hp : p < w.heap.size := h.blk.lt
  have NF : Hid (¬ fp p v w.heap.size) := fun hf => by have := (h.fp_lt _ hf).2; omega
  have HW := Lib.hid ((Wrote.refl h).alloc (.cells x.cells 33))
  have hkk := hx.k
  obtain ⟨k, n, z, b, s, vl, vm, vt, l, m, t⟩ := x
  simp only [Itm.val, Itm.cells] at *
  have e7 : (k : Int) % 7 = 1 := by omega
  clear h hx hin hin2 he hk hlen
  go_enter Try.func13, Try.ntmps13
  go_wp2_with fail
  refine C1.out.mono ?_
  rintro e w1 ⟨rfl, v1, hw⟩
  have HB : Hid (Blk w1 w.heap.size 33 #[.int .u8 k, .int .u64 n, .int .i64 z, .bool b, .string s, vl, vm, vt]) := (Blk.new _ _ _).keep hw.mod NF.out
  have hc : w1.cell? ⟨w.heap.size, 2, none⟩ = some (.int .i64 z) := HB.out.cell 2
  have C3 := Lib.hid (C2.out w1 (.inr hw.mod))
  have HWW := Lib.hid (HW.out.trans hw)
  clear hw C2
  go_wp2_with fail
  refine C3.out.mono ?_
  rintro e w2 ⟨⟨s2, rfl, hs2⟩, b2⟩
  have HS2 := Lib.hid hs2
  clear hs2
  go_wp2_with fail
  go_ret
  exact ⟨⟨_, rfl, HS2.out⟩, v1, HWW.out.below b2⟩

set_option maxRecDepth 100000 in
set_option maxHeartbeats 2000000 in
theorem writes_2 (p : Nat) (v : Value) (xs : List Nat) (x : Itm) (w : World) (h : Wr w p v xs) (hx : x.Ok) (hin : x.In (fp p v) w) (hl : xs.length ≤ 1000000000000) (hk : x.k % 7 = 2) :
    Calls Try.prog 13 #[ptr p, x.val] w (WrPost w p v (xs ++ x.enc) x.enc) := by
  have he : x.enc = Pk.truth x.b := by unfold Itm.enc Itm.it; simp only [hk]; rfl
  rw [he]
  have hlen := x.enc_le hx
  rw [he] at hlen
  have hin2 : x.In (fp p v) (w.alloc (.cells x.cells 33)) := hin.alloc _
  have C1 := Lib.hid (wtruth_any p v xs x.b _ (h.alloc (.cells x.cells 33)) (by omega))
  have C2 : Hid (∀ w1, Below w.heap.size w w1 ∨ Mod (fp p v) (w.alloc (.cells x.cells 33)) w1 → Calls Try.prog 39 #[.bool x.b] w1 (BPost w1 (Pk.truth x.b))) := fun w1 hw1 => by
    exact ftruth_any x.b w1
  have hp : p < w.heap.size := h.blk.lt
  have NF : Hid (¬ fp p v w.heap.size) := fun hf => by have := (h.fp_lt _ hf).2; omega
  have HW := Lib.hid ((Wrote.refl h).alloc (.cells x.cells 33))
  have hkk := hx.k
  obtain ⟨k, n, z, b, s, vl, vm, vt, l, m, t⟩ := x
  simp only [Itm.val, Itm.cells] at *
  have e7 : (k : Int) % 7 = 2 := by omega
  clear h hx hin hin2 he hk hlen
  go_enter Try.func13, Try.ntmps13
  go_wp2_with fail
  refine C1.out.mono ?_
  rintro e w1 ⟨rfl, v1, hw⟩
  have HB : Hid (Blk w1 w.heap.size 33 #[.int .u8 k, .int .u64 n, .int .i64 z, .bool b, .string s, vl, vm, vt]) := (Blk.new _ _ _).keep hw.mod NF.out
  have hc : w1.cell? ⟨w.heap.size, 3, none⟩ = some (.bool b) := HB.out.cell 3
  have C3 := Lib.hid (C2.out w1 (.inr hw.mod))
  have HWW := Lib.hid (HW.out.trans hw)
  clear hw C2
  go_wp2_with fail
  refine C3.out.mono ?_
  rintro e w2 ⟨⟨s2, rfl, hs2⟩, b2⟩
  have HS2 := Lib.hid hs2
  clear hs2
  go_wp2_with fail
  go_ret
  exact ⟨⟨_, rfl, HS2.out⟩, v1, HWW.out.below b2⟩

set_option maxRecDepth 100000 in
set_option maxHeartbeats 2000000 in
theorem writes_3 (p : Nat) (v : Value) (xs : List Nat) (x : Itm) (w : World) (h : Wr w p v xs) (hx : x.Ok) (hin : x.In (fp p v) w) (hl : xs.length ≤ 1000000000000) (hk : x.k % 7 = 3) :
    Calls Try.prog 13 #[ptr p, x.val] w (WrPost w p v (xs ++ x.enc) x.enc) := by
  have he : x.enc = txt x.s := by unfold Itm.enc Itm.it; simp only [hk]; rfl
  rw [he]
  have hlen := x.enc_le hx
  rw [he] at hlen
  have hin2 : x.In (fp p v) (w.alloc (.cells x.cells 33)) := hin.alloc _
  have C1 := Lib.hid (wtext_any p v xs x.s _ (h.alloc (.cells x.cells 33)) (by have := hx.s1; omega))
  have C2 : Hid (∀ w1, Below w.heap.size w w1 ∨ Mod (fp p v) (w.alloc (.cells x.cells 33)) w1 → Calls Try.prog 40 #[.string x.s] w1 (BPost w1 (txt x.s))) := fun w1 hw1 => by
    exact ftext_any x.s w1 (by have := hx.s1; omega)
  have hp : p < w.heap.size := h.blk.lt
  have NF : Hid (¬ fp p v w.heap.size) := fun hf => by have := (h.fp_lt _ hf).2; omega
  have HW := Lib.hid ((Wrote.refl h).alloc (.cells x.cells 33))
  have hkk := hx.k
  obtain ⟨k, n, z, b, s, vl, vm, vt, l, m, t⟩ := x
  simp only [Itm.val, Itm.cells] at *
  have e7 : (k : Int) % 7 = 3 := by omega
  clear h hx hin hin2 he hk hlen
  go_enter Try.func13, Try.ntmps13
  go_wp2_with fail
  refine C1.out.mono ?_
  rintro e w1 ⟨rfl, v1, hw⟩
  have HB : Hid (Blk w1 w.heap.size 33 #[.int .u8 k, .int .u64 n, .int .i64 z, .bool b, .string s, vl, vm, vt]) := (Blk.new _ _ _).keep hw.mod NF.out
  have hc : w1.cell? ⟨w.heap.size, 4, none⟩ = some (.string s) := HB.out.cell 4
  have C3 := Lib.hid (C2.out w1 (.inr hw.mod))
  have HWW := Lib.hid (HW.out.trans hw)
  clear hw C2
  go_wp2_with fail
  refine C3.out.mono ?_
  rintro e w2 ⟨⟨s2, rfl, hs2⟩, b2⟩
  have HS2 := Lib.hid hs2
  clear hs2
  go_wp2_with fail
  go_ret
  exact ⟨⟨_, rfl, HS2.out⟩, v1, HWW.out.below b2⟩

set_option maxRecDepth 100000 in
set_option maxHeartbeats 2000000 in
theorem writes_4 (p : Nat) (v : Value) (xs : List Nat) (x : Itm) (w : World) (h : Wr w p v xs) (hx : x.Ok) (hin : x.In (fp p v) w) (hl : xs.length ≤ 1000000000000) (hk : x.k % 7 = 4) :
    Calls Try.prog 13 #[ptr p, x.val] w (WrPost w p v (xs ++ x.enc) x.enc) := by
  have he : x.enc = Pk.list Pk.num x.l := by unfold Itm.enc Itm.it; simp only [hk]; rfl
  rw [he]
  have hlen := x.enc_le hx
  rw [he] at hlen
  have hin2 : x.In (fp p v) (w.alloc (.cells x.cells 33)) := hin.alloc _
  have C1 := Lib.hid (wnums_any p v xs x.vl x.l _ (h.alloc (.cells x.cells 33)) hin2.l hx.l (by have := hx.l1; omega) (by omega))
  have C2 : Hid (∀ w1, Below w.heap.size w w1 ∨ Mod (fp p v) (w.alloc (.cells x.cells 33)) w1 → Calls Try.prog 41 #[x.vl] w1 (BPost w1 (Pk.list Pk.num x.l))) := fun w1 hw1 => by
    exact fnums_any _ x.vl x.l w1 (row_after hin.l hin2.l hw1) hx.l (by have := hx.l1; omega) (by omega)
  have hp : p < w.heap.size := h.blk.lt
  have NF : Hid (¬ fp p v w.heap.size) := fun hf => by have := (h.fp_lt _ hf).2; omega
  have HW := Lib.hid ((Wrote.refl h).alloc (.cells x.cells 33))
  have hkk := hx.k
  obtain ⟨k, n, z, b, s, vl, vm, vt, l, m, t⟩ := x
  simp only [Itm.val, Itm.cells] at *
  have e7 : (k : Int) % 7 = 4 := by omega
  clear h hx hin hin2 he hk hlen
  go_enter Try.func13, Try.ntmps13
  go_wp2_with fail
  refine C1.out.mono ?_
  rintro e w1 ⟨rfl, v1, hw⟩
  have HB : Hid (Blk w1 w.heap.size 33 #[.int .u8 k, .int .u64 n, .int .i64 z, .bool b, .string s, vl, vm, vt]) := (Blk.new _ _ _).keep hw.mod NF.out
  have hc : w1.cell? ⟨w.heap.size, 5, none⟩ = some (vl) := HB.out.cell 5
  have C3 := Lib.hid (C2.out w1 (.inr hw.mod))
  have HWW := Lib.hid (HW.out.trans hw)
  clear hw C2
  go_wp2_with fail
  refine C3.out.mono ?_
  rintro e w2 ⟨⟨s2, rfl, hs2⟩, b2⟩
  have HS2 := Lib.hid hs2
  clear hs2
  go_wp2_with fail
  go_ret
  exact ⟨⟨_, rfl, HS2.out⟩, v1, HWW.out.below b2⟩

set_option maxRecDepth 100000 in
set_option maxHeartbeats 2000000 in
theorem writes_5 (p : Nat) (v : Value) (xs : List Nat) (x : Itm) (w : World) (h : Wr w p v xs) (hx : x.Ok) (hin : x.In (fp p v) w) (hl : xs.length ≤ 1000000000000) (hk : x.k % 7 = 5) :
    Calls Try.prog 13 #[ptr p, x.val] w (WrPost w p v (xs ++ x.enc) x.enc) := by
  have he : x.enc = Pk.list Pk.int x.m := by unfold Itm.enc Itm.it; simp only [hk]; rfl
  rw [he]
  have hlen := x.enc_le hx
  rw [he] at hlen
  have hin2 : x.In (fp p v) (w.alloc (.cells x.cells 33)) := hin.alloc _
  have C1 := Lib.hid (wints_any p v xs x.vm x.m _ (h.alloc (.cells x.cells 33)) hin2.m hx.m (by have := hx.m1; omega) (by omega))
  have C2 : Hid (∀ w1, Below w.heap.size w w1 ∨ Mod (fp p v) (w.alloc (.cells x.cells 33)) w1 → Calls Try.prog 42 #[x.vm] w1 (BPost w1 (Pk.list Pk.int x.m))) := fun w1 hw1 => by
    exact fints_any _ x.vm x.m w1 (row_after hin.m hin2.m hw1) hx.m (by have := hx.m1; omega) (by omega)
  have hp : p < w.heap.size := h.blk.lt
  have NF : Hid (¬ fp p v w.heap.size) := fun hf => by have := (h.fp_lt _ hf).2; omega
  have HW := Lib.hid ((Wrote.refl h).alloc (.cells x.cells 33))
  have hkk := hx.k
  obtain ⟨k, n, z, b, s, vl, vm, vt, l, m, t⟩ := x
  simp only [Itm.val, Itm.cells] at *
  have e7 : (k : Int) % 7 = 5 := by omega
  clear h hx hin hin2 he hk hlen
  go_enter Try.func13, Try.ntmps13
  go_wp2_with fail
  refine C1.out.mono ?_
  rintro e w1 ⟨rfl, v1, hw⟩
  have HB : Hid (Blk w1 w.heap.size 33 #[.int .u8 k, .int .u64 n, .int .i64 z, .bool b, .string s, vl, vm, vt]) := (Blk.new _ _ _).keep hw.mod NF.out
  have hc : w1.cell? ⟨w.heap.size, 6, none⟩ = some (vm) := HB.out.cell 6
  have C3 := Lib.hid (C2.out w1 (.inr hw.mod))
  have HWW := Lib.hid (HW.out.trans hw)
  clear hw C2
  go_wp2_with fail
  refine C3.out.mono ?_
  rintro e w2 ⟨⟨s2, rfl, hs2⟩, b2⟩
  have HS2 := Lib.hid hs2
  clear hs2
  go_wp2_with fail
  go_ret
  exact ⟨⟨_, rfl, HS2.out⟩, v1, HWW.out.below b2⟩

set_option maxRecDepth 100000 in
set_option maxHeartbeats 2000000 in
theorem writes_6 (p : Nat) (v : Value) (xs : List Nat) (x : Itm) (w : World) (h : Wr w p v xs) (hx : x.Ok) (hin : x.In (fp p v) w) (hl : xs.length ≤ 1000000000000) (hk : x.k % 7 = 6) :
    Calls Try.prog 13 #[ptr p, x.val] w (WrPost w p v (xs ++ x.enc) x.enc) := by
  have he : x.enc = Pk.list txt x.t := by unfold Itm.enc Itm.it; simp only [hk]; exact list_txt _
  rw [he]
  have hlen := x.enc_le hx
  rw [he] at hlen
  have hin2 : x.In (fp p v) (w.alloc (.cells x.cells 33)) := hin.alloc _
  have C1 := Lib.hid (wtexts_any p v xs x.vt x.t _ (h.alloc (.cells x.cells 33)) hin2.t (fun _ _ => trivial) (by have := hx.t1; omega) (by omega))
  have C2 : Hid (∀ w1, Below w.heap.size w w1 ∨ Mod (fp p v) (w.alloc (.cells x.cells 33)) w1 → Calls Try.prog 43 #[x.vt] w1 (BPost w1 (Pk.list txt x.t))) := fun w1 hw1 => by
    exact ftexts_any _ x.vt x.t w1 (row_after hin.t hin2.t hw1) (fun _ _ => trivial) (by have := hx.t1; omega) (by omega)
  have hp : p < w.heap.size := h.blk.lt
  have NF : Hid (¬ fp p v w.heap.size) := fun hf => by have := (h.fp_lt _ hf).2; omega
  have HW := Lib.hid ((Wrote.refl h).alloc (.cells x.cells 33))
  have hkk := hx.k
  obtain ⟨k, n, z, b, s, vl, vm, vt, l, m, t⟩ := x
  simp only [Itm.val, Itm.cells] at *
  have e7 : (k : Int) % 7 = 6 := by omega
  clear h hx hin hin2 he hk hlen
  go_enter Try.func13, Try.ntmps13
  go_wp2_with fail
  refine C1.out.mono ?_
  rintro e w1 ⟨rfl, v1, hw⟩
  have HB : Hid (Blk w1 w.heap.size 33 #[.int .u8 k, .int .u64 n, .int .i64 z, .bool b, .string s, vl, vm, vt]) := (Blk.new _ _ _).keep hw.mod NF.out
  have hc : w1.cell? ⟨w.heap.size, 7, none⟩ = some (vt) := HB.out.cell 7
  have C3 := Lib.hid (C2.out w1 (.inr hw.mod))
  have HWW := Lib.hid (HW.out.trans hw)
  clear hw C2
  go_wp2_with fail
  refine C3.out.mono ?_
  rintro e w2 ⟨⟨s2, rfl, hs2⟩, b2⟩
  have HS2 := Lib.hid hs2
  clear hs2
  go_wp2_with fail
  go_ret
  exact ⟨⟨_, rfl, HS2.out⟩, v1, HWW.out.below b2⟩

set_option maxRecDepth 100000 in
set_option maxHeartbeats 2000000 in
theorem writes_0 (p : Nat) (v : Value) (xs : List Nat) (x : Itm) (w : World) (h : Wr w p v xs) (hx : x.Ok) (hin : x.In (fp p v) w) (hl : xs.length ≤ 1000000000000) (hk : x.k % 7 = 0) :
    Calls Try.prog 13 #[ptr p, x.val] w (WrPost w p v (xs ++ x.enc) x.enc) := by
  have he : x.enc = Pk.num x.n := by unfold Itm.enc Itm.it; simp only [hk]; rfl
  rw [he]
  have hlen := x.enc_le hx
  rw [he] at hlen
  have hin2 : x.In (fp p v) (w.alloc (.cells x.cells 33)) := hin.alloc _
  have C1 := Lib.hid (wnum_any p v xs x.n _ (h.alloc (.cells x.cells 33)) hx.n (by omega))
  have C2 : Hid (∀ w1, Below w.heap.size w w1 ∨ Mod (fp p v) (w.alloc (.cells x.cells 33)) w1 → Calls Try.prog 44 #[.int .u64 x.n] w1 (BPost w1 (Pk.num x.n))) := fun w1 hw1 => by
    exact fnum_any x.n w1 hx.n
  have hp : p < w.heap.size := h.blk.lt
  have NF : Hid (¬ fp p v w.heap.size) := fun hf => by have := (h.fp_lt _ hf).2; omega
  have HW := Lib.hid ((Wrote.refl h).alloc (.cells x.cells 33))
  have hkk := hx.k
  obtain ⟨k, n, z, b, s, vl, vm, vt, l, m, t⟩ := x
  simp only [Itm.val, Itm.cells] at *
  have e7 : (k : Int) % 7 = 0 := by omega
  clear h hx hin hin2 he hk hlen
  go_enter Try.func13, Try.ntmps13
  go_wp2_with fail
  refine C1.out.mono ?_
  rintro e w1 ⟨rfl, v1, hw⟩
  have HB : Hid (Blk w1 w.heap.size 33 #[.int .u8 k, .int .u64 n, .int .i64 z, .bool b, .string s, vl, vm, vt]) := (Blk.new _ _ _).keep hw.mod NF.out
  have hc : w1.cell? ⟨w.heap.size, 1, none⟩ = some (.int .u64 n) := HB.out.cell 1
  have C3 := Lib.hid (C2.out w1 (.inr hw.mod))
  have HWW := Lib.hid (HW.out.trans hw)
  clear hw C2
  go_wp2_with fail
  refine C3.out.mono ?_
  rintro e w2 ⟨⟨s2, rfl, hs2⟩, b2⟩
  have HS2 := Lib.hid hs2
  clear hs2
  go_wp2_with fail
  go_ret
  exact ⟨⟨_, rfl, HS2.out⟩, v1, HWW.out.below b2⟩

theorem writes_any (p : Nat) (v : Value) (xs : List Nat) (x : Itm) (w : World) (h : Wr w p v xs) (hx : x.Ok) (hin : x.In (fp p v) w) (hl : xs.length ≤ 1000000000000) :
    Calls Try.prog 13 #[ptr p, x.val] w (WrPost w p v (xs ++ x.enc) x.enc) := by
  have hc : x.k % 7 = 0 ∨ x.k % 7 = 1 ∨ x.k % 7 = 2 ∨ x.k % 7 = 3 ∨ x.k % 7 = 4 ∨ x.k % 7 = 5 ∨ x.k % 7 = 6 := by omega
  rcases hc with hk | hk | hk | hk | hk | hk | hk
  · exact writes_0 p v xs x w h hx hin hl hk
  · exact writes_1 p v xs x w h hx hin hl hk
  · exact writes_2 p v xs x w h hx hin hl hk
  · exact writes_3 p v xs x w h hx hin hl hk
  · exact writes_4 p v xs x w h hx hin hl hk
  · exact writes_5 p v xs x w h hx hin hl hk
  · exact writes_6 p v xs x w h hx hin hl hk
end Go.Proofs.Ytfhceblmjahgjaa
