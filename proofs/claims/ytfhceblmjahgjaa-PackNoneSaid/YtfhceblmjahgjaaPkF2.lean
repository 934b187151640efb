/- Contracts of the document's answers for layer 3 (package stickfulref03): Int, Truth, Text, Nums, Ints, Texts. Conditions: numbers fit their kinds; slices read as their lists; all bytes are at most 1000000000. -/
import Derived.Test.YtfhceblmjahgjaaPkF1
namespace Go.Proofs.Ytfhceblmjahgjaa
open Go.ChangeShapes Go.WideShapes Go.ChangeAt Go.RowKit

set_option maxRecDepth 100000 in
set_option maxHeartbeats 1000000 in
theorem fint_any (z : Int) (w : World) (h : Pk.OkI z) :
    Calls Try.prog 38 #[.int .i64 z] w (BPost w (Pk.int z)) := by
  obtain ⟨hz1, hz2⟩ := h
  have C := Lib.hid (fnum_any (Pk.zig z) w (Pk.zig_lt z hz1 hz2))
  obtain ⟨q, hq⟩ : ∃ q, Pk.zig z = q := ⟨_, rfl⟩
  unfold Pk.int
  rw [hq] at C ⊢
  by_cases h0 : z < 0
  · have e : (q : Int) = 2 * (-(z + 1)) + 1 := by rw [← hq]; unfold Pk.zig; rw [if_neg (by omega)]; omega
    obtain ⟨y, hy⟩ : ∃ y : Int, -(z + 1) = y := ⟨_, rfl⟩
    have hy0 : 0 ≤ y := by omega
    have hy1 : y ≤ 9223372036854775807 := by omega
    have w0 : IntKind.i64.wrap (-(z + 1)) = y := by rw [hy]; exact IntWalk.i64_in _ (by omega)
    have w1 : IntKind.u64.wrap y = y := by show y % 18446744073709551616 = y; omega
    obtain ⟨t, ht⟩ : ∃ t : Int, 2 * y = t := ⟨_, rfl⟩
    have w2 : IntKind.u64.wrap (2 * y) = t := by show (2 * y) % 18446744073709551616 = t; omega
    have w3 : IntKind.u64.wrap (t + 1) = (q : Int) := by show (t + 1) % 18446744073709551616 = _; omega
    have hng : ¬ (0 ≤ z) := by omega
    clear hq e hy ht
    go_enter Try.func38, Try.ntmps38
    go_wp2_with fail
    with_reducible refine C.out.mono ?_
    rintro e w' ⟨⟨s, rfl, hs⟩, hb⟩
    have HS := Lib.hid hs
    clear hs
    go_wp2_with fail
    go_ret
    exact ⟨⟨_, rfl, HS.out⟩, hb⟩
  · have e : (q : Int) = 2 * z := by rw [← hq]; unfold Pk.zig; rw [if_pos (by omega)]; omega
    clear hq
    rw [e] at C
    clear e
    have hng : 0 ≤ z := by omega
    go_enter Try.func38, Try.ntmps38
    go_wp2_with fail
    with_reducible refine C.out.mono ?_
    rintro e w' ⟨⟨s, rfl, hs⟩, hb⟩
    have HS := Lib.hid hs
    clear hs
    go_wp2_with fail
    go_ret
    exact ⟨⟨_, rfl, HS.out⟩, hb⟩

set_option maxRecDepth 100000 in
theorem ftruth_any (b : Bool) (w : World) :
    Calls Try.prog 39 #[.bool b] w (BPost w (Pk.truth b)) := by
  cases b
  · have C := Lib.hid (fnum_any 0 w (by omega))
    go_enter Try.func39, Try.ntmps39
    go_wp2_with fail
    refine C.out.mono ?_
    rintro e w' ⟨⟨s, rfl, hs⟩, hb⟩
    have HS := Lib.hid hs
    clear hs
    go_wp2_with fail
    go_ret
    exact ⟨⟨_, rfl, HS.out⟩, hb⟩
  · have C := Lib.hid (fnum_any 1 w (by omega))
    go_enter Try.func39, Try.ntmps39
    go_wp2_with fail
    refine C.out.mono ?_
    rintro e w' ⟨⟨s, rfl, hs⟩, hb⟩
    have HS := Lib.hid hs
    clear hs
    go_wp2_with fail
    go_ret
    exact ⟨⟨_, rfl, HS.out⟩, hb⟩

set_option maxRecDepth 100000 in
set_option maxHeartbeats 1000000 in
theorem ftext_any (s : ByteArray) (w : World) (h : s.size ≤ 1000000000) :
    Calls Try.prog 40 #[.string s] w (BPost w (txt s)) := by
  have C := Lib.hid (fnum_any s.size w (by omega))
  have hl := Pk.num_len s.size (by omega)
  have HL := Lib.hid hl.2
  clear hl
  go_enter Try.func40, Try.ntmps40
  go_wp2_with fail
  refine C.out.mono ?_
  rintro e w' ⟨⟨t, rfl, hs⟩, hb⟩
  have ht : t.size ≤ 9 := by rw [← bs_len, hs]; exact HL.out
  have HS := Lib.hid hs
  clear hs
  go_wp2_with fail
  go_ret
  refine ⟨⟨_, rfl, ?_⟩, hb⟩
  rw [bs_append, HS.out]
  unfold txt Pk.text
  rw [bs_len]

set_option maxRecDepth 100000 in
set_option maxHeartbeats 2000000 in
theorem fnums_any (S : Nat → Prop) (u : Value) (l : List Nat) (w : World) (hr : Row S w u (l.map fN)) (hok : ∀ x ∈ l, Pk.OkN x) (hn : l.length ≤ 1000000000) (hl : (Pk.list Pk.num l).length ≤ 1000000000) :
    Calls Try.prog 41 #[u] w (BPost w (Pk.list Pk.num l)) := by
  have hl2 : (Pk.num l.length).length + (l.flatMap Pk.num).length ≤ 1000000000 := by
    have := hl
    unfold Pk.list at this
    rwa [List.length_append] at this
  clear hl
  have C := Lib.hid (fnum_any l.length w (by omega))
  obtain ⟨A, c, rfl⟩ := hr.form
  have hlen : (l.map fN).length = l.length := List.length_map _
  rw [hlen] at hr ⊢
  have HR := Lib.hid hr
  have HOK := Lib.hid hok
  have HL := Lib.hid hl2
  clear hr hlen hok hl2
  go_enter Try.func41, Try.ntmps41
  go_wp2_with fail
  refine C.out.mono ?_
  rintro e w1 ⟨⟨t1, rfl, ht1⟩, hb1⟩
  have HT1 := Lib.hid ht1
  clear ht1
  go_wp2_with fail
  go_loopg [3, 4] l.length (fun g s3 s4 wx => Below w.heap.size w wx ∧ ∃ (k : Nat) (t : ByteArray), s3 = .string t ∧ s4 = .int .i64 k ∧ k + g = l.length ∧ Hid (bs t = Pk.num l.length ++ (l.take k).flatMap Pk.num))
  case atStart =>
    refine ⟨hb1, 0, t1, rfl, rfl, by omega, ?_⟩
    rw [HT1.out]
    simp [Hid]
  case round =>
    obtain ⟨bel, k, t, rfl, rfl, hk, HT⟩ := hrel
    by_cases hlt : k < l.length
    · obtain ⟨x, hx⟩ : ∃ x, l[k] = x := ⟨_, rfl⟩
      have hmem : x ∈ l := by rw [← hx]; exact List.getElem_mem hlt
      have hR : Row S wr (.slice A l.length c) (l.map fN) := HR.out.below bel
      obtain ⟨a, cap, ha, hab, hS, hcs⟩ := hR.at_ (by simpa using (by omega : 0 < l.length))
      injection ha with ha1 ha2 ha3
      subst ha1
      have hcell : wr.cell? (a.add k) = some (fN x) := hcs k _ (by rw [List.getElem?_map, List.getElem?_eq_getElem hlt, hx]; rfl)
      have htk : (l.take (k + 1)).flatMap Pk.num = (l.take k).flatMap Pk.num ++ Pk.num x := by
        rw [List.take_succ_eq_append_getElem hlt, hx, List.flatMap_append]
        simp
      have hle : ((l.take k).flatMap Pk.num).length + (Pk.num x).length ≤ (l.flatMap Pk.num).length := by
        have e1 : l.flatMap Pk.num = (l.take (k + 1)).flatMap Pk.num ++ (l.drop (k + 1)).flatMap Pk.num := by rw [← List.flatMap_append, List.take_append_drop]
        rw [e1, htk, List.length_append, List.length_append]
        omega
      have hlx := HL.out
      have hok := HOK.out x hmem
      have hts : t.size ≤ 1000000000 := by
        have := congrArg List.length HT.out
        rw [bs_len, List.length_append] at this
        omega
      have hex : (Pk.num x).length ≤ 1000000000 := by omega
      have C3 := Lib.hid (fnum_any x wr hok)
      have HTK := Lib.hid htk
      have HEX := Lib.hid hex
      clear hcs htk hle hx hmem hok hR ha2 ha3 hlx hex
      go_wp2_with fail
      refine C3.out.mono ?_
      rintro e w2 ⟨⟨t2, rfl, ht2⟩, hb2⟩
      have ht2s : t2.size ≤ 1000000000 := by rw [← bs_len, ht2]; exact HEX.out
      have HT2 := Lib.hid ht2
      clear ht2 hcell
      go_wp2_with fail
      go_roundg (l.length - (k + 1))
      case measure => omega
      case rel =>
        refine ⟨bel.trans (hb2.mono bel.size), k + 1, _, rfl, by go_num, by omega, ?_⟩
        show _ = _
        rw [bs_append, HT.out, HT2.out, HTK.out, List.append_assoc]
    · obtain rfl : k = l.length := by omega
      go_wp2_with fail
      go_ret
      refine ⟨⟨_, rfl, ?_⟩, bel⟩
      have := HT.out
      rwa [List.take_length] at this

set_option maxRecDepth 100000 in
set_option maxHeartbeats 2000000 in
theorem fints_any (S : Nat → Prop) (u : Value) (l : List Int) (w : World) (hr : Row S w u (l.map fI)) (hok : ∀ x ∈ l, Pk.OkI x) (hn : l.length ≤ 1000000000) (hl : (Pk.list Pk.int l).length ≤ 1000000000) :
    Calls Try.prog 42 #[u] w (BPost w (Pk.list Pk.int l)) := by
  have hl2 : (Pk.num l.length).length + (l.flatMap Pk.int).length ≤ 1000000000 := by
    have := hl
    unfold Pk.list at this
    rwa [List.length_append] at this
  clear hl
  have C := Lib.hid (fnum_any l.length w (by omega))
  obtain ⟨A, c, rfl⟩ := hr.form
  have hlen : (l.map fI).length = l.length := List.length_map _
  rw [hlen] at hr ⊢
  have HR := Lib.hid hr
  have HOK := Lib.hid hok
  have HL := Lib.hid hl2
  clear hr hlen hok hl2
  go_enter Try.func42, Try.ntmps42
  go_wp2_with fail
  refine C.out.mono ?_
  rintro e w1 ⟨⟨t1, rfl, ht1⟩, hb1⟩
  have HT1 := Lib.hid ht1
  clear ht1
  go_wp2_with fail
  go_loopg [3, 4] l.length (fun g s3 s4 wx => Below w.heap.size w wx ∧ ∃ (k : Nat) (t : ByteArray), s3 = .string t ∧ s4 = .int .i64 k ∧ k + g = l.length ∧ Hid (bs t = Pk.num l.length ++ (l.take k).flatMap Pk.int))
  case atStart =>
    refine ⟨hb1, 0, t1, rfl, rfl, by omega, ?_⟩
    rw [HT1.out]
    simp [Hid]
  case round =>
    obtain ⟨bel, k, t, rfl, rfl, hk, HT⟩ := hrel
    by_cases hlt : k < l.length
    · obtain ⟨x, hx⟩ : ∃ x, l[k] = x := ⟨_, rfl⟩
      have hmem : x ∈ l := by rw [← hx]; exact List.getElem_mem hlt
      have hR : Row S wr (.slice A l.length c) (l.map fI) := HR.out.below bel
      obtain ⟨a, cap, ha, hab, hS, hcs⟩ := hR.at_ (by simpa using (by omega : 0 < l.length))
      injection ha with ha1 ha2 ha3
      subst ha1
      have hcell : wr.cell? (a.add k) = some (fI x) := hcs k _ (by rw [List.getElem?_map, List.getElem?_eq_getElem hlt, hx]; rfl)
      have htk : (l.take (k + 1)).flatMap Pk.int = (l.take k).flatMap Pk.int ++ Pk.int x := by
        rw [List.take_succ_eq_append_getElem hlt, hx, List.flatMap_append]
        simp
      have hle : ((l.take k).flatMap Pk.int).length + (Pk.int x).length ≤ (l.flatMap Pk.int).length := by
        have e1 : l.flatMap Pk.int = (l.take (k + 1)).flatMap Pk.int ++ (l.drop (k + 1)).flatMap Pk.int := by rw [← List.flatMap_append, List.take_append_drop]
        rw [e1, htk, List.length_append, List.length_append]
        omega
      have hlx := HL.out
      have hok := HOK.out x hmem
      have hts : t.size ≤ 1000000000 := by
        have := congrArg List.length HT.out
        rw [bs_len, List.length_append] at this
        omega
      have hex : (Pk.int x).length ≤ 1000000000 := by omega
      have C3 := Lib.hid (fint_any x wr hok)
      have HTK := Lib.hid htk
      have HEX := Lib.hid hex
      clear hcs htk hle hx hmem hok hR ha2 ha3 hlx hex
      go_wp2_with fail
      refine C3.out.mono ?_
      rintro e w2 ⟨⟨t2, rfl, ht2⟩, hb2⟩
      have ht2s : t2.size ≤ 1000000000 := by rw [← bs_len, ht2]; exact HEX.out
      have HT2 := Lib.hid ht2
      clear ht2 hcell
      go_wp2_with fail
      go_roundg (l.length - (k + 1))
      case measure => omega
      case rel =>
        refine ⟨bel.trans (hb2.mono bel.size), k + 1, _, rfl, by go_num, by omega, ?_⟩
        show _ = _
        rw [bs_append, HT.out, HT2.out, HTK.out, List.append_assoc]
    · obtain rfl : k = l.length := by omega
      go_wp2_with fail
      go_ret
      refine ⟨⟨_, rfl, ?_⟩, bel⟩
      have := HT.out
      rwa [List.take_length] at this

set_option maxRecDepth 100000 in
set_option maxHeartbeats 2000000 in
theorem ftexts_any (S : Nat → Prop) (u : Value) (l : List ByteArray) (w : World) (hr : Row S w u (l.map fS)) (hok : ∀ x ∈ l, OkB x) (hn : l.length ≤ 1000000000) (hl : (Pk.list txt l).length ≤ 1000000000) :
    Calls Try.prog 43 #[u] w (BPost w (Pk.list txt l)) := by
  have hl2 : (Pk.num l.length).length + (l.flatMap txt).length ≤ 1000000000 := by
    have := hl
    unfold Pk.list at this
    rwa [List.length_append] at this
  clear hl
  have C := Lib.hid (fnum_any l.length w (by omega))
  obtain ⟨A, c, rfl⟩ := hr.form
  have hlen : (l.map fS).length = l.length := List.length_map _
  rw [hlen] at hr ⊢
  have HR := Lib.hid hr
  have HOK := Lib.hid hok
  have HL := Lib.hid hl2
  clear hr hlen hok hl2
  go_enter Try.func43, Try.ntmps43
  go_wp2_with fail
  refine C.out.mono ?_
  rintro e w1 ⟨⟨t1, rfl, ht1⟩, hb1⟩
  have HT1 := Lib.hid ht1
  clear ht1
  go_wp2_with fail
  go_loopg [3, 4] l.length (fun g s3 s4 wx => Below w.heap.size w wx ∧ ∃ (k : Nat) (t : ByteArray), s3 = .string t ∧ s4 = .int .i64 k ∧ k + g = l.length ∧ Hid (bs t = Pk.num l.length ++ (l.take k).flatMap txt))
  case atStart =>
    refine ⟨hb1, 0, t1, rfl, rfl, by omega, ?_⟩
    rw [HT1.out]
    simp [Hid]
  case round =>
    obtain ⟨bel, k, t, rfl, rfl, hk, HT⟩ := hrel
    by_cases hlt : k < l.length
    · obtain ⟨x, hx⟩ : ∃ x, l[k] = x := ⟨_, rfl⟩
      have hmem : x ∈ l := by rw [← hx]; exact List.getElem_mem hlt
      have hR : Row S wr (.slice A l.length c) (l.map fS) := HR.out.below bel
      obtain ⟨a, cap, ha, hab, hS, hcs⟩ := hR.at_ (by simpa using (by omega : 0 < l.length))
      injection ha with ha1 ha2 ha3
      subst ha1
      have hcell : wr.cell? (a.add k) = some (fS x) := hcs k _ (by rw [List.getElem?_map, List.getElem?_eq_getElem hlt, hx]; rfl)
      have htk : (l.take (k + 1)).flatMap txt = (l.take k).flatMap txt ++ txt x := by
        rw [List.take_succ_eq_append_getElem hlt, hx, List.flatMap_append]
        simp
      have hle : ((l.take k).flatMap txt).length + (txt x).length ≤ (l.flatMap txt).length := by
        have e1 : l.flatMap txt = (l.take (k + 1)).flatMap txt ++ (l.drop (k + 1)).flatMap txt := by rw [← List.flatMap_append, List.take_append_drop]
        rw [e1, htk, List.length_append, List.length_append]
        omega
      have hlx := HL.out
      have hok := HOK.out x hmem
      have hts : t.size ≤ 1000000000 := by
        have := congrArg List.length HT.out
        rw [bs_len, List.length_append] at this
        omega
      have hex : (txt x).length ≤ 1000000000 := by omega
      have C3 := Lib.hid (ftext_any x wr (Nat.le_trans (by unfold txt Pk.text; rw [List.length_append, bs_len]; omega) hex))
      have HTK := Lib.hid htk
      have HEX := Lib.hid hex
      clear hcs htk hle hx hmem hok hR ha2 ha3 hlx hex
      go_wp2_with fail
      refine C3.out.mono ?_
      rintro e w2 ⟨⟨t2, rfl, ht2⟩, hb2⟩
      have ht2s : t2.size ≤ 1000000000 := by rw [← bs_len, ht2]; exact HEX.out
      have HT2 := Lib.hid ht2
      clear ht2 hcell
      go_wp2_with fail
      go_roundg (l.length - (k + 1))
      case measure => omega
      case rel =>
        refine ⟨bel.trans (hb2.mono bel.size), k + 1, _, rfl, by go_num, by omega, ?_⟩
        show _ = _
        rw [bs_append, HT.out, HT2.out, HTK.out, List.append_assoc]
    · obtain rfl : k = l.length := by omega
      go_wp2_with fail
      go_ret
      refine ⟨⟨_, rfl, ?_⟩, bel⟩
      have := HT.out
      rwa [List.take_length] at this
end Go.Proofs.Ytfhceblmjahgjaa
