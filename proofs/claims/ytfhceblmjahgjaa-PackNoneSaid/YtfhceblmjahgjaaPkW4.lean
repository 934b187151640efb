/- Contracts of package pack: writeList at its three types, (*Writer).Nums, Ints, Texts. Conditions: the pointer is a writer's; the slice reads as the list, and lies in no block of the writer's; there is room. -/
import Derived.Test.YtfhceblmjahgjaaPkW3
namespace Go.Proofs.Ytfhceblmjahgjaa
open Go.ChangeShapes Go.WideShapes Go.ChangeAt Go.RowKit

def fN (n : Nat) : Value := .int .u64 (n : Int)
def fI (z : Int) : Value := .int .i64 z
def fS (s : ByteArray) : Value := .string s
/-- a text's bytes -/
def txt (s : ByteArray) : List Nat := Pk.text (bs s)
def OkB (_ : ByteArray) : Prop := True

set_option maxRecDepth 100000 in
set_option maxHeartbeats 2000000 in
theorem wlist_num (p : Nat) (v : Value) (xs : List Nat) (u : Value) (l : List Nat) (w : World) (h : Wr w p v xs) (hr : Row (fp p v) w u (l.map fN)) (hok : ∀ x ∈ l, Pk.OkN x) (hn : l.length ≤ 140737488355328)
    (hl : xs.length + (Pk.list Pk.num l).length + 9 ≤ 140737488355328) :
    Calls Try.prog 63 #[.pointer (some ⟨p, 0, none⟩), u, .func (.func 34) #[.pointer (some ⟨p, 0, none⟩)] #[]] w (WPost w p v (xs ++ Pk.list Pk.num l)) := by
  have hl2 : xs.length + ((Pk.num l.length).length + (l.flatMap Pk.num).length) + 9 ≤ 140737488355328 := by
    have := hl
    unfold Pk.list at this
    rwa [List.length_append] at this
  clear hl
  have C := Lib.hid (wnum_any p v xs l.length w h (by omega) (by omega))
  obtain ⟨A, c, rfl⟩ := hr.form
  have hlen : (l.map fN).length = l.length := List.length_map _
  rw [hlen] at hr ⊢
  have HR := Lib.hid hr
  have HOK := Lib.hid hok
  have H := Lib.hid h
  have HL := Lib.hid hl2
  clear hr hlen hok h hl2
  go_enter Try.func63, Try.ntmps63
  go_wp2_with fail
  refine C.out.mono ?_
  rintro e w1 ⟨rfl, v1, hw⟩
  have HW := Lib.hid hw
  clear hw
  go_wp2_with fail
  go_loopg [15] l.length (fun g s15 wx => ∃ (k : Nat) (v' : Value), s15 = .int .i64 k ∧ k + g = l.length ∧ Wrote w p v (xs ++ (Pk.num l.length ++ (l.take k).flatMap Pk.num)) wx v')
  case atStart =>
    refine ⟨0, v1, rfl, by omega, ?_⟩
    have := HW.out
    simpa using this
  case round =>
    obtain ⟨k, v', rfl, hk, hW⟩ := hrel
    have HW2 := Lib.hid hW
    clear hW HW
    by_cases hlt : k < l.length
    · obtain ⟨x, hx⟩ : ∃ x, l[k] = x := ⟨_, rfl⟩
      have hmem : x ∈ l := by rw [← hx]; exact List.getElem_mem hlt
      have hR : Row (fp p v) wr (.slice A l.length c) (l.map fN) := HR.out.keep HW2.out.mod (fun _ _ hk => hk)
      obtain ⟨a, cap, ha, hab, hS, hcs⟩ := hR.at_ (by simpa using (by omega : 0 < l.length))
      injection ha with ha1 ha2 ha3
      subst ha1
      have hcell : wr.cell? (a.add k) = some (fN x) := hcs k _ (by rw [List.getElem?_map, List.getElem?_eq_getElem hlt, hx]; rfl)
      have htk : (l.take (k + 1)).flatMap Pk.num = (l.take k).flatMap Pk.num ++ Pk.num x := by
        rw [List.take_succ_eq_append_getElem hlt, hx, List.flatMap_append]
        simp
      have hle : ((l.take k).flatMap Pk.num).length + (Pk.num x).length ≤ (l.flatMap Pk.num).length := by
        have e1 : l.flatMap Pk.num = (l.take (k + 1)).flatMap Pk.num ++ (l.drop (k + 1)).flatMap Pk.num := by rw [← List.flatMap_append, List.take_append_drop]
        rw [e1, htk, List.length_append, List.length_append]
        omega
      have hlx := HL.out
      have hok := HOK.out x hmem
      have C3 := Lib.hid (wnum_any p v' (xs ++ (Pk.num l.length ++ (l.take k).flatMap Pk.num)) x wr HW2.out.wr hok (by
        rw [List.length_append, List.length_append]
        omega))
      have HT := Lib.hid htk
      clear hcs htk hle hx hmem hok hR ha2 ha3 hlx
      go_wp2_with fail
      refine C3.out.mono ?_
      rintro e w2 ⟨rfl, v2, hw2⟩
      have HW3 := Lib.hid hw2
      clear hw2 hcell
      go_wp2_with fail
      go_roundg (l.length - (k + 1))
      case measure => omega
      case rel =>
        refine ⟨k + 1, v2, by go_num, by omega, ?_⟩
        have := HW2.out.trans HW3.out
        rw [HT.out]
        first | exact this | (rw [List.append_assoc, List.append_assoc] at this; exact this)
    · obtain rfl : k = l.length := by omega
      go_wp2_with fail
      go_end0
      refine ⟨rfl, v', ?_⟩
      have := HW2.out
      rw [List.take_length] at this
      exact this

set_option maxRecDepth 100000 in
set_option maxHeartbeats 1000000 in
theorem wnums_any (p : Nat) (v : Value) (xs : List Nat) (u : Value) (l : List Nat) (w : World) (h : Wr w p v xs) (hr : Row (fp p v) w u (l.map fN)) (hok : ∀ x ∈ l, Pk.OkN x) (hn : l.length ≤ 140737488355328)
    (hl : xs.length + (Pk.list Pk.num l).length + 9 ≤ 140737488355328) :
    Calls Try.prog 31 #[.pointer (some ⟨p, 0, none⟩), u] w (WPost w p v (xs ++ Pk.list Pk.num l)) := by
  have C := Lib.hid (wlist_num p v xs u l w h hr hok hn hl)
  clear h hr hok hl
  go_enter Try.func31, Try.ntmps31
  go_wp2_with fail
  refine C.out.mono ?_
  rintro e w' ⟨rfl, hw⟩
  go_wp2_with fail
  go_end0
  exact ⟨rfl, hw⟩

set_option maxRecDepth 100000 in
set_option maxHeartbeats 2000000 in
theorem wlist_int (p : Nat) (v : Value) (xs : List Nat) (u : Value) (l : List Int) (w : World) (h : Wr w p v xs) (hr : Row (fp p v) w u (l.map fI)) (hok : ∀ x ∈ l, Pk.OkI x) (hn : l.length ≤ 140737488355328)
    (hl : xs.length + (Pk.list Pk.int l).length + 9 ≤ 140737488355328) :
    Calls Try.prog 64 #[.pointer (some ⟨p, 0, none⟩), u, .func (.func 35) #[.pointer (some ⟨p, 0, none⟩)] #[]] w (WPost w p v (xs ++ Pk.list Pk.int l)) := by
  have hl2 : xs.length + ((Pk.num l.length).length + (l.flatMap Pk.int).length) + 9 ≤ 140737488355328 := by
    have := hl
    unfold Pk.list at this
    rwa [List.length_append] at this
  clear hl
  have C := Lib.hid (wnum_any p v xs l.length w h (by omega) (by omega))
  obtain ⟨A, c, rfl⟩ := hr.form
  have hlen : (l.map fI).length = l.length := List.length_map _
  rw [hlen] at hr ⊢
  have HR := Lib.hid hr
  have HOK := Lib.hid hok
  have H := Lib.hid h
  have HL := Lib.hid hl2
  clear hr hlen hok h hl2
  go_enter Try.func64, Try.ntmps64
  go_wp2_with fail
  refine C.out.mono ?_
  rintro e w1 ⟨rfl, v1, hw⟩
  have HW := Lib.hid hw
  clear hw
  go_wp2_with fail
  go_loopg [15] l.length (fun g s15 wx => ∃ (k : Nat) (v' : Value), s15 = .int .i64 k ∧ k + g = l.length ∧ Wrote w p v (xs ++ (Pk.num l.length ++ (l.take k).flatMap Pk.int)) wx v')
  case atStart =>
    refine ⟨0, v1, rfl, by omega, ?_⟩
    have := HW.out
    simpa using this
  case round =>
    obtain ⟨k, v', rfl, hk, hW⟩ := hrel
    have HW2 := Lib.hid hW
    clear hW HW
    by_cases hlt : k < l.length
    · obtain ⟨x, hx⟩ : ∃ x, l[k] = x := ⟨_, rfl⟩
      have hmem : x ∈ l := by rw [← hx]; exact List.getElem_mem hlt
      have hR : Row (fp p v) wr (.slice A l.length c) (l.map fI) := HR.out.keep HW2.out.mod (fun _ _ hk => hk)
      obtain ⟨a, cap, ha, hab, hS, hcs⟩ := hR.at_ (by simpa using (by omega : 0 < l.length))
      injection ha with ha1 ha2 ha3
      subst ha1
      have hcell : wr.cell? (a.add k) = some (fI x) := hcs k _ (by rw [List.getElem?_map, List.getElem?_eq_getElem hlt, hx]; rfl)
      have htk : (l.take (k + 1)).flatMap Pk.int = (l.take k).flatMap Pk.int ++ Pk.int x := by
        rw [List.take_succ_eq_append_getElem hlt, hx, List.flatMap_append]
        simp
      have hle : ((l.take k).flatMap Pk.int).length + (Pk.int x).length ≤ (l.flatMap Pk.int).length := by
        have e1 : l.flatMap Pk.int = (l.take (k + 1)).flatMap Pk.int ++ (l.drop (k + 1)).flatMap Pk.int := by rw [← List.flatMap_append, List.take_append_drop]
        rw [e1, htk, List.length_append, List.length_append]
        omega
      have hlx := HL.out
      have hok := HOK.out x hmem
      have C3 := Lib.hid (wint_any p v' (xs ++ (Pk.num l.length ++ (l.take k).flatMap Pk.int)) x wr HW2.out.wr hok (by
        rw [List.length_append, List.length_append]
        omega))
      have HT := Lib.hid htk
      clear hcs htk hle hx hmem hok hR ha2 ha3 hlx
      go_wp2_with fail
      refine C3.out.mono ?_
      rintro e w2 ⟨rfl, v2, hw2⟩
      have HW3 := Lib.hid hw2
      clear hw2 hcell
      go_wp2_with fail
      go_roundg (l.length - (k + 1))
      case measure => omega
      case rel =>
        refine ⟨k + 1, v2, by go_num, by omega, ?_⟩
        have := HW2.out.trans HW3.out
        rw [HT.out]
        first | exact this | (rw [List.append_assoc, List.append_assoc] at this; exact this)
    · obtain rfl : k = l.length := by omega
      go_wp2_with fail
      go_end0
      refine ⟨rfl, v', ?_⟩
      have := HW2.out
      rw [List.take_length] at this
      exact this

set_option maxRecDepth 100000 in
set_option maxHeartbeats 1000000 in
theorem wints_any (p : Nat) (v : Value) (xs : List Nat) (u : Value) (l : List Int) (w : World) (h : Wr w p v xs) (hr : Row (fp p v) w u (l.map fI)) (hok : ∀ x ∈ l, Pk.OkI x) (hn : l.length ≤ 140737488355328)
    (hl : xs.length + (Pk.list Pk.int l).length + 9 ≤ 140737488355328) :
    Calls Try.prog 32 #[.pointer (some ⟨p, 0, none⟩), u] w (WPost w p v (xs ++ Pk.list Pk.int l)) := by
  have C := Lib.hid (wlist_int p v xs u l w h hr hok hn hl)
  clear h hr hok hl
  go_enter Try.func32, Try.ntmps32
  go_wp2_with fail
  refine C.out.mono ?_
  rintro e w' ⟨rfl, hw⟩
  go_wp2_with fail
  go_end0
  exact ⟨rfl, hw⟩

set_option maxRecDepth 100000 in
set_option maxHeartbeats 2000000 in
theorem wlist_text (p : Nat) (v : Value) (xs : List Nat) (u : Value) (l : List ByteArray) (w : World) (h : Wr w p v xs) (hr : Row (fp p v) w u (l.map fS)) (hok : ∀ x ∈ l, OkB x) (hn : l.length ≤ 140737488355328)
    (hl : xs.length + (Pk.list txt l).length + 9 ≤ 140737488355328) :
    Calls Try.prog 65 #[.pointer (some ⟨p, 0, none⟩), u, .func (.func 36) #[.pointer (some ⟨p, 0, none⟩)] #[]] w (WPost w p v (xs ++ Pk.list txt l)) := by
  have hl2 : xs.length + ((Pk.num l.length).length + (l.flatMap txt).length) + 9 ≤ 140737488355328 := by
    have := hl
    unfold Pk.list at this
    rwa [List.length_append] at this
  clear hl
  have C := Lib.hid (wnum_any p v xs l.length w h (by omega) (by omega))
  obtain ⟨A, c, rfl⟩ := hr.form
  have hlen : (l.map fS).length = l.length := List.length_map _
  rw [hlen] at hr ⊢
  have HR := Lib.hid hr
  have HOK := Lib.hid hok
  have H := Lib.hid h
  have HL := Lib.hid hl2
  clear hr hlen hok h hl2
  go_enter Try.func65, Try.ntmps65
  go_wp2_with fail
  refine C.out.mono ?_
  rintro e w1 ⟨rfl, v1, hw⟩
  have HW := Lib.hid hw
  clear hw
  go_wp2_with fail
  go_loopg [15] l.length (fun g s15 wx => ∃ (k : Nat) (v' : Value), s15 = .int .i64 k ∧ k + g = l.length ∧ Wrote w p v (xs ++ (Pk.num l.length ++ (l.take k).flatMap txt)) wx v')
  case atStart =>
    refine ⟨0, v1, rfl, by omega, ?_⟩
    have := HW.out
    simpa using this
  case round =>
    obtain ⟨k, v', rfl, hk, hW⟩ := hrel
    have HW2 := Lib.hid hW
    clear hW HW
    by_cases hlt : k < l.length
    · obtain ⟨x, hx⟩ : ∃ x, l[k] = x := ⟨_, rfl⟩
      have hmem : x ∈ l := by rw [← hx]; exact List.getElem_mem hlt
      have hR : Row (fp p v) wr (.slice A l.length c) (l.map fS) := HR.out.keep HW2.out.mod (fun _ _ hk => hk)
      obtain ⟨a, cap, ha, hab, hS, hcs⟩ := hR.at_ (by simpa using (by omega : 0 < l.length))
      injection ha with ha1 ha2 ha3
      subst ha1
      have hcell : wr.cell? (a.add k) = some (fS x) := hcs k _ (by rw [List.getElem?_map, List.getElem?_eq_getElem hlt, hx]; rfl)
      have htk : (l.take (k + 1)).flatMap txt = (l.take k).flatMap txt ++ txt x := by
        rw [List.take_succ_eq_append_getElem hlt, hx, List.flatMap_append]
        simp
      have hle : ((l.take k).flatMap txt).length + (txt x).length ≤ (l.flatMap txt).length := by
        have e1 : l.flatMap txt = (l.take (k + 1)).flatMap txt ++ (l.drop (k + 1)).flatMap txt := by rw [← List.flatMap_append, List.take_append_drop]
        rw [e1, htk, List.length_append, List.length_append]
        omega
      have hlx := HL.out
      have hok := HOK.out x hmem
      have C3 := Lib.hid (wtext_any p v' (xs ++ (Pk.num l.length ++ (l.take k).flatMap txt)) x wr HW2.out.wr (by
        rw [List.length_append, List.length_append]
        have ht : (txt x).length = (Pk.num (bs x).length).length + x.size := by unfold txt Pk.text; rw [List.length_append, bs_len]
        omega))
      have HT := Lib.hid htk
      clear hcs htk hle hx hmem hok hR ha2 ha3 hlx
      go_wp2_with fail
      refine C3.out.mono ?_
      rintro e w2 ⟨rfl, v2, hw2⟩
      have HW3 := Lib.hid hw2
      clear hw2 hcell
      go_wp2_with fail
      go_roundg (l.length - (k + 1))
      case measure => omega
      case rel =>
        refine ⟨k + 1, v2, by go_num, by omega, ?_⟩
        have := HW2.out.trans HW3.out
        rw [HT.out]
        first | exact this | (rw [List.append_assoc, List.append_assoc] at this; exact this)
    · obtain rfl : k = l.length := by omega
      go_wp2_with fail
      go_end0
      refine ⟨rfl, v', ?_⟩
      have := HW2.out
      rw [List.take_length] at this
      exact this

set_option maxRecDepth 100000 in
set_option maxHeartbeats 1000000 in
theorem wtexts_any (p : Nat) (v : Value) (xs : List Nat) (u : Value) (l : List ByteArray) (w : World) (h : Wr w p v xs) (hr : Row (fp p v) w u (l.map fS)) (hok : ∀ x ∈ l, OkB x) (hn : l.length ≤ 140737488355328)
    (hl : xs.length + (Pk.list txt l).length + 9 ≤ 140737488355328) :
    Calls Try.prog 33 #[.pointer (some ⟨p, 0, none⟩), u] w (WPost w p v (xs ++ Pk.list txt l)) := by
  have C := Lib.hid (wlist_text p v xs u l w h hr hok hn hl)
  clear h hr hok hl
  go_enter Try.func33, Try.ntmps33
  go_wp2_with fail
  refine C.out.mono ?_
  rintro e w' ⟨rfl, hw⟩
  go_wp2_with fail
  go_end0
  exact ⟨rfl, hw⟩
end Go.Proofs.Ytfhceblmjahgjaa
