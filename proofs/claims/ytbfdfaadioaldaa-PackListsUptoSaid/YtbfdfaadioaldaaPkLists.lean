/- The walk of the law PackLists: it answers true. Condition: all texts have together at most 1048576 bytes. -/
import Derived.Test.YtbfdfaadioaldaaPkAp1
namespace Go.Proofs.Ytbfdfaadioaldaa.packLists
open Go.ChangeShapes Go.WideShapes Go.ChangeAt Go.RowKit

theorem own : ownKnob Try.prog.godebug = none := by kernel_rfl
theorem laidOut : laidOutB Try.prog = true := by kernel_rfl
abbrev F := 9

theorem _root_.Go.Proofs.Ytbfdfaadioaldaa.Row.low {w wx : World} {p : Nat} {v : Value} {xs : List Value} (h : Row (fun k => p ≤ k) w v xs) (b : Below p w wx) : Row (fun k => p ≤ k) wx v xs := by
  rcases h with h | ⟨a, cap, rfl, hb, hc⟩
  · exact .inl h
  · refine .inr ⟨a, cap, rfl, ?_, fun j u hu => ?_⟩
    · rcases hb with hb | ⟨hb, hS⟩
      · exact .inl hb
      · exact .inr ⟨Nat.lt_of_lt_of_le hb b.size, hS⟩
    · rcases hb with rfl | ⟨hb, hS⟩
      · simp at hu
      · rw [b.cell (by rw [block_of_add]; omega)]
        exact hc j u hu

/-- two writers, at p and p + 1, with these bytes; nothing below p has changed -/
def Two (w : World) (p : Nat) (xa xb : List Nat) (wx : World) : Prop := ∃ va vb, Wr wx p va xa ∧ Wr wx (p + 1) vb xb ∧ (∀ k, fp p va k → ¬ fp (p + 1) vb k) ∧ Below p w wx

theorem two_a {w wx w2 : World} {p : Nat} {va vb v2 : Value} {xa xb ys : List Nat} (hA : Wr wx p va xa) (hB : Wr wx (p + 1) vb xb) (hd : ∀ k, fp p va k → ¬ fp (p + 1) vb k) (hb : Below p w wx) (hw : Wrote wx p va ys w2 v2) : Two w p ys xb w2 := by
  obtain ⟨h1, h2⟩ := two_keep hB hw hd
  exact ⟨v2, vb, hw.wr, h1, h2, hb.trans (hw.low hA (Nat.le_refl _))⟩
theorem two_b {w wx w2 : World} {p : Nat} {va vb v2 : Value} {xa xb ys : List Nat} (hA : Wr wx p va xa) (hB : Wr wx (p + 1) vb xb) (hd : ∀ k, fp p va k → ¬ fp (p + 1) vb k) (hb : Below p w wx) (hw : Wrote wx (p + 1) vb ys w2 v2) : Two w p xa ys w2 := by
  obtain ⟨h1, h2⟩ := two_keep hA hw (fun k hk hk2 => hd k hk2 hk)
  exact ⟨va, v2, h1, hw.wr, fun k hk hk2 => h2 k hk2 hk, hb.trans (hw.low hB (by omega))⟩

theorem app3 (a b c d : List Nat) : a ++ (b ++ (c ++ d)) = a ++ (b ++ c) ++ d := by simp [List.append_assoc]

theorem nums_small (l : List Nat) (h : l.length ≤ 200) (ok : ∀ x ∈ l, Pk.OkN x) : (l.flatMap Pk.num).length ≤ 1800 := by
  have : ∀ l : List Nat, (∀ x ∈ l, Pk.OkN x) → (l.flatMap Pk.num).length ≤ 9 * l.length := by
    intro l
    induction l with
    | nil => simp
    | cons a r ih =>
      intro h
      have h1 := (Pk.num_len a (h a (by simp))).2
      have h2 := ih (fun x hx => h x (by simp [hx]))
      rw [List.flatMap_cons, List.length_append, List.length_cons]
      omega
  have := this l ok
  omega
theorem ints_small (l : List Int) (h : l.length ≤ 200) (ok : ∀ x ∈ l, Pk.OkI x) : (l.flatMap Pk.int).length ≤ 1800 := by
  have : ∀ l : List Int, (∀ x ∈ l, Pk.OkI x) → (l.flatMap Pk.int).length ≤ 9 * l.length := by
    intro l
    induction l with
    | nil => simp
    | cons a r ih =>
      intro h
      have ha := h a (by simp)
      have h1 : (Pk.int a).length ≤ 9 := (Pk.num_len (Pk.zig a) (Pk.zig_lt a ha.1 ha.2)).2
      have h2 := ih (fun x hx => h x (by simp [hx]))
      rw [List.flatMap_cons, List.length_append, List.length_cons]
      omega
  have := this l ok
  omega
theorem txt_len (s : ByteArray) (h : s.size ≤ 1000000000) : (txt s).length ≤ s.size + 9 := by
  unfold txt Pk.text
  rw [List.length_append, bs_len]
  have := (Pk.num_len s.size (by omega)).2
  omega
theorem size_le : ∀ (t : List ByteArray) (x : ByteArray), x ∈ t → x.size ≤ (t.map ByteArray.size).sum
  | [], x, h => by simp at h
  | a :: r, x, h => by
    rw [List.map_cons, List.sum_cons]
    rcases List.mem_cons.1 h with rfl | h
    · omega
    · have := size_le r x h
      omega
theorem texts_small (t : List ByteArray) (h : t.length ≤ 60) (hs : (t.map ByteArray.size).sum ≤ 1048576) : (t.flatMap txt).length ≤ 1049116 := by
  have : ∀ t : List ByteArray, (t.map ByteArray.size).sum ≤ 1048576 → (t.flatMap txt).length ≤ (t.map ByteArray.size).sum + 9 * t.length := by
    intro t
    induction t with
    | nil => simp
    | cons a r ih =>
      intro h
      rw [List.map_cons, List.sum_cons] at h ⊢
      have h1 := txt_len a (by omega)
      have h2 := ih (by omega)
      rw [List.flatMap_cons, List.length_append, List.length_cons]
      omega
  have := this t hs
  omega

set_option maxRecDepth 100000 in
set_option maxHeartbeats 2000000 in
theorem walk_long (ul um ut : Value) (l : List Nat) (m : List Int) (t : List ByteArray) (w : World) (hl : Row (fun k => w.heap.size ≤ k) w ul (l.map fN)) (hm : Row (fun k => w.heap.size ≤ k) w um (m.map fI)) (ht : Row (fun k => w.heap.size ≤ k) w ut (t.map fS))
    (h : 200 < l.length ∨ 200 < m.length ∨ 60 < t.length) :
    Calls Try.prog F #[ul, um, ut] w fun e w' => e = .returned (.bool true) ∧ Below w.heap.size w w' := by
  obtain ⟨A0, c0, rfl⟩ := hl.form
  obtain ⟨A1, c1, rfl⟩ := hm.form
  obtain ⟨A2, c2, rfl⟩ := ht.form
  rw [List.length_map, List.length_map, List.length_map]
  clear hl hm ht
  by_cases h1 : 200 < l.length
  · have hz : (200 : Int) < (l.length : Int) := by omega
    clear h
    go_enter Try.func9, Try.ntmps9
    go_wp2_with fail
    refine (head_any _).mono ?_
    rintro e w1 ⟨rfl, b1⟩
    go_wp2_with fail
    go_ret
    exact ⟨rfl, b1⟩
  · have hz : ¬ (200 : Int) < (l.length : Int) := by omega
    by_cases h2 : 200 < m.length
    · have hz2 : (200 : Int) < (m.length : Int) := by omega
      clear h
      go_enter Try.func9, Try.ntmps9
      go_wp2_with fail
      refine (head_any _).mono ?_
      rintro e w1 ⟨rfl, b1⟩
      go_wp2_with fail
      go_ret
      exact ⟨rfl, b1⟩
    · have hz2 : ¬ (200 : Int) < (m.length : Int) := by omega
      have hz3 : (60 : Int) < (t.length : Int) := by omega
      clear h
      go_enter Try.func9, Try.ntmps9
      go_wp2_with fail
      refine (head_any _).mono ?_
      rintro e w1 ⟨rfl, b1⟩
      go_wp2_with fail
      go_ret
      exact ⟨rfl, b1⟩

set_option maxRecDepth 100000 in
set_option maxHeartbeats 8000000 in
theorem walk_main (ul um ut : Value) (l : List Nat) (m : List Int) (t : List ByteArray) (w : World) (hl : Row (fun k => w.heap.size ≤ k) w ul (l.map fN)) (hm : Row (fun k => w.heap.size ≤ k) w um (m.map fI)) (ht : Row (fun k => w.heap.size ≤ k) w ut (t.map fS))
    (okl : ∀ x ∈ l, Pk.OkN x) (okm : ∀ x ∈ m, Pk.OkI x) (h0 : l.length ≤ 200) (h1 : m.length ≤ 200) (h2 : t.length ≤ 60) (hs : (t.map ByteArray.size).sum ≤ 1048576) :
    Calls Try.prog F #[ul, um, ut] w fun e w' => e = .returned (.bool true) ∧ Below w.heap.size w w' := by
  obtain ⟨A0, c0, rfl⟩ := hl.form
  obtain ⟨A1, c1, rfl⟩ := hm.form
  obtain ⟨A2, c2, rfl⟩ := ht.form
  rw [List.length_map] at hl hm ht
  rw [List.length_map, List.length_map, List.length_map]
  obtain ⟨p, hp⟩ : ∃ p, w.heap.size = p := ⟨_, rfl⟩
  rw [hp] at hl hm ht
  have R0 := Lib.hid hl
  have R1 := Lib.hid hm
  have R2 := Lib.hid ht
  have OK0 := Lib.hid okl
  have OK1 := Lib.hid okm
  have OK2 : Hid (∀ x ∈ t, OkB x) := fun _ _ => trivial
  have SM : Hid ((l.flatMap Pk.num).length ≤ 1800 ∧ (m.flatMap Pk.int).length ≤ 1800 ∧ (t.flatMap txt).length ≤ 1049116 ∧ (Pk.num l.length).length ≤ 9 ∧ (Pk.num m.length).length ≤ 9 ∧ (Pk.num t.length).length ≤ 9) :=
    ⟨nums_small l h0 okl, ints_small m h1 okm, texts_small t h2 hs, (Pk.num_len _ (by omega)).2, (Pk.num_len _ (by omega)).2, (Pk.num_len _ (by omega)).2⟩
  have LT : Hid (∀ b ∈ Pk.list Pk.num l ++ Pk.list Pk.int m ++ Pk.list txt t, b < 256) := by
    intro b hb
    rcases List.mem_append.1 hb with hb | hb
    · rcases List.mem_append.1 hb with hb | hb
      · exact Pk.list_lt Pk.num l ⟨by omega, okl⟩ (fun n hn => Pk.num_lt n hn) b hb
      · exact Pk.list_lt Pk.int m ⟨by omega, okm⟩ Pk.int_lt b hb
    · refine Pk.list_lt (ok := fun s => s.size ≤ 1048576) txt t ⟨by omega, fun x hx => ?_⟩ (fun s hs => Pk.text_lt (bs s) ⟨by rw [bs_len]; omega, bs_lt s⟩) b hb
      exact Nat.le_trans (size_le t x hx) hs
  have HP := Lib.hid hp
  have hz0 : ¬ (200 : Int) < (l.length : Int) := by omega
  have hz1 : ¬ (200 : Int) < (m.length : Int) := by omega
  have hz2 : ¬ (60 : Int) < (t.length : Int) := by omega
  clear hl hm ht okl okm hs
  go_enter Try.func9, Try.ntmps9
  go_wp2_with fail
  refine (newWriter_any _).mono ?_
  rintro e w1 ⟨rfl, rfl⟩
  go_wp2_with fail
  refine (newWriter_any _).mono ?_
  rintro e w2 ⟨rfl, hw2⟩
  have hq : (w.alloc (.cells #[.bool true, .slice none 0 0] 53)).heap.size = p + 1 := by simp [hp]
  have T0 : Hid (Two w p [] [] w2) := by
    refine ⟨.slice none 0 0, .slice none 0 0, ?_, ?_, ?_, ?_⟩
    · rw [← hp, hw2]; exact (Wr.new w).alloc _
    · have := Wr.new (w.alloc (.cells #[.bool true, .slice none 0 0] 53))
      rw [hq] at this
      rw [hw2]
      exact this
    · intro k hk hk2
      rcases hk with rfl | hk
      · rcases hk2 with hk2 | hk2
        · omega
        · simp [Value.ownBlock] at hk2
      · simp [Value.ownBlock] at hk
    · rw [← hp, hw2]; exact below_seq (below_alloc _ _) (below_alloc _ _)
  rw [hq]
  clear hw2 hq hp
  go_wp2_with fail
  obtain ⟨va, vb, hA, hB, hd, hbel⟩ := T0.out
  refine (wnums_any p va [] _ l w2 hA ((R0.out.low hbel).mono (fun k _ hk => (hA.fp_lt k hk).1)) OK0.out (by omega) (by
    have := SM.out
    unfold Pk.list
    simp only [List.length_append, List.length_nil]
    omega)).mono ?_
  rintro e w3 ⟨rfl, v3, hw⟩
  have T1 := Lib.hid (two_a hA hB hd hbel hw)
  clear hw hA hB hd hbel T0
  go_wp2_with fail
  obtain ⟨va, vb, hA, hB, hd, hbel⟩ := T1.out
  refine (wints_any p va ([] ++ Pk.list Pk.num l) _ m w3 hA ((R1.out.low hbel).mono (fun k _ hk => (hA.fp_lt k hk).1)) OK1.out (by omega) (by
    have := SM.out
    unfold Pk.list
    simp only [List.length_append, List.length_nil]
    omega)).mono ?_
  rintro e w4 ⟨rfl, v4, hw⟩
  have T2 := Lib.hid (two_a hA hB hd hbel hw)
  clear hw hA hB hd hbel T1
  go_wp2_with fail
  obtain ⟨va, vb, hA, hB, hd, hbel⟩ := T2.out
  refine (wtexts_any p va ([] ++ Pk.list Pk.num l ++ Pk.list Pk.int m) _ t w4 hA ((R2.out.low hbel).mono (fun k _ hk => (hA.fp_lt k hk).1)) OK2.out (by omega) (by
    have := SM.out
    unfold Pk.list
    simp only [List.length_append, List.length_nil]
    omega)).mono ?_
  rintro e w5 ⟨rfl, v5, hw⟩
  have T3 := Lib.hid (two_a hA hB hd hbel hw)
  clear hw hA hB hd hbel T2
  go_wp2_with fail
  obtain ⟨XA, hXA⟩ : ∃ XA, ([] ++ Pk.list Pk.num l ++ Pk.list Pk.int m ++ Pk.list txt t : List Nat) = XA := ⟨_, rfl⟩
  have T4 : Hid (Two w p XA [] w5) := by rw [← hXA]; exact T3.out
  have HXA : Hid (Pk.list Pk.num l ++ Pk.list Pk.int m ++ Pk.list txt t = XA) := hXA
  clear hXA T3
  obtain ⟨va, vb, hA, hB, hd, hbel⟩ := T4.out
  refine (wnum_any (p + 1) vb [] l.length w5 hB (by omega) (by
    have := SM.out
    rw [List.length_nil]
    omega)).mono ?_
  rintro e w6 ⟨rfl, vv, hw⟩
  have T5 := Lib.hid (two_b hA hB hd hbel hw)
  clear hw hA hB hd hbel T4
  go_wp2_with fail
  go_loopg [9] l.length (fun g s9 wx => ∃ k : Nat, s9 = .int .i64 k ∧ k + g = l.length ∧ Two w p XA ([] ++ (Pk.num l.length ++ (l.take k).flatMap Pk.num)) wx)
  case atStart =>
    refine ⟨0, rfl, by omega, ?_⟩
    simpa using T5.out
  case round =>
    obtain ⟨k, rfl, hk, hT0⟩ := hrel
    have HT0 := Lib.hid hT0
    clear hT0 T5
    by_cases hlt : k < l.length
    · obtain ⟨x, hx⟩ : ∃ x, l[k] = x := ⟨_, rfl⟩
      have hmem : x ∈ l := by rw [← hx]; exact List.getElem_mem hlt
      obtain ⟨va, vb, hA, hB, hd, hbel⟩ := HT0.out
      have hR : Row (fun k => p ≤ k) wr (.slice A0 l.length c0) (l.map fN) := R0.out.low hbel
      obtain ⟨a, cap, ha, hab, hS, hcs⟩ := hR.at_ (by simpa using (by omega : 0 < l.length))
      injection ha with ha1 ha2 ha3
      subst ha1
      have hcell : wr.cell? (a.add k) = some (fN x) := hcs k _ (by rw [List.getElem?_map, List.getElem?_eq_getElem hlt, hx]; rfl)
      have htk : (l.take (k + 1)).flatMap Pk.num = (l.take k).flatMap Pk.num ++ Pk.num x := by
        rw [List.take_succ_eq_append_getElem hlt, hx, List.flatMap_append]
        simp
      have hle : ((l.take k).flatMap Pk.num).length + (Pk.num x).length ≤ (l.flatMap Pk.num).length := by
        have e1 : l.flatMap Pk.num = (l.take (k + 1)).flatMap Pk.num ++ (l.drop (k + 1)).flatMap Pk.num := by rw [← List.flatMap_append, List.take_append_drop]
        rw [e1, htk, List.length_append, List.length_append]
        omega
      have hok := OK0.out x hmem
      have hsmall := SM.out
      have C3 := Lib.hid (wnum_any (p + 1) vb ([] ++ (Pk.num l.length ++ (l.take k).flatMap Pk.num)) x wr hB hok (by
        simp only [List.length_append, List.length_nil]
        omega))
      have HTK := Lib.hid htk
      have HH := Lib.hid (And.intro hA (And.intro hB (And.intro hd hbel)))
      clear hcs htk hle hx hmem hok hR ha2 ha3 hsmall hA hB hd hbel
      go_wp2_with fail
      refine C3.out.mono ?_
      rintro e w2 ⟨rfl, v2, hw2⟩
      have HT2 := Lib.hid (two_b HH.out.1 HH.out.2.1 HH.out.2.2.1 HH.out.2.2.2 hw2)
      clear hw2 hcell
      go_wp2_with fail
      go_roundg (l.length - (k + 1))
      case measure => omega
      case rel =>
        refine ⟨k + 1, by go_num, by omega, ?_⟩
        rw [HTK.out, app3]
        exact HT2.out
    · obtain rfl : k = l.length := by omega
      have hT := HT0.out
      rw [List.take_length] at hT
      have HT := Lib.hid hT
      clear hT HT0
      go_wp2_with fail
      obtain ⟨va, vb, hA, hB, hd, hbel⟩ := HT.out
      refine (wnum_any (p + 1) vb ([] ++ (Pk.num l.length ++ l.flatMap Pk.num)) m.length wr hB (by omega) (by
        have := SM.out
        simp only [List.length_append, List.length_nil]
        omega)).mono ?_
      rintro e w7 ⟨rfl, vv, hw⟩
      have T7 := Lib.hid (two_b hA hB hd hbel hw)
      clear hw hA hB hd hbel HT
      go_wp2_with fail
      go_loopg [10] m.length (fun g s10 wx => ∃ k : Nat, s10 = .int .i64 k ∧ k + g = m.length ∧ Two w p XA (([] ++ (Pk.num l.length ++ l.flatMap Pk.num)) ++ (Pk.num m.length ++ (m.take k).flatMap Pk.int)) wx)
      case atStart =>
        refine ⟨0, rfl, by omega, ?_⟩
        simpa using T7.out
      case round =>
        obtain ⟨k, rfl, hk, hT1⟩ := hrel
        have HT1 := Lib.hid hT1
        clear hT1 T7
        by_cases hlt : k < m.length
        · obtain ⟨x, hx⟩ : ∃ x, m[k] = x := ⟨_, rfl⟩
          have hmem : x ∈ m := by rw [← hx]; exact List.getElem_mem hlt
          obtain ⟨va, vb, hA, hB, hd, hbel⟩ := HT1.out
          have hR : Row (fun k => p ≤ k) wr (.slice A1 m.length c1) (m.map fI) := R1.out.low hbel
          obtain ⟨a, cap, ha, hab, hS, hcs⟩ := hR.at_ (by simpa using (by omega : 0 < m.length))
          injection ha with ha1 ha2 ha3
          subst ha1
          have hcell : wr.cell? (a.add k) = some (fI x) := hcs k _ (by rw [List.getElem?_map, List.getElem?_eq_getElem hlt, hx]; rfl)
          have htk : (m.take (k + 1)).flatMap Pk.int = (m.take k).flatMap Pk.int ++ Pk.int x := by
            rw [List.take_succ_eq_append_getElem hlt, hx, List.flatMap_append]
            simp
          have hle : ((m.take k).flatMap Pk.int).length + (Pk.int x).length ≤ (m.flatMap Pk.int).length := by
            have e1 : m.flatMap Pk.int = (m.take (k + 1)).flatMap Pk.int ++ (m.drop (k + 1)).flatMap Pk.int := by rw [← List.flatMap_append, List.take_append_drop]
            rw [e1, htk, List.length_append, List.length_append]
            omega
          have hok := OK1.out x hmem
          have hsmall := SM.out
          have C3 := Lib.hid (wint_any (p + 1) vb (([] ++ (Pk.num l.length ++ l.flatMap Pk.num)) ++ (Pk.num m.length ++ (m.take k).flatMap Pk.int)) x wr hB hok (by
            simp only [List.length_append, List.length_nil]
            omega))
          have HTK := Lib.hid htk
          have HH := Lib.hid (And.intro hA (And.intro hB (And.intro hd hbel)))
          clear hcs htk hle hx hmem hok hR ha2 ha3 hsmall hA hB hd hbel
          go_wp2_with fail
          refine C3.out.mono ?_
          rintro e w2 ⟨rfl, v2, hw2⟩
          have HT2 := Lib.hid (two_b HH.out.1 HH.out.2.1 HH.out.2.2.1 HH.out.2.2.2 hw2)
          clear hw2 hcell
          go_wp2_with fail
          go_roundg (m.length - (k + 1))
          case measure => omega
          case rel =>
            refine ⟨k + 1, by go_num, by omega, ?_⟩
            rw [HTK.out, app3]
            exact HT2.out
        · obtain rfl : k = m.length := by omega
          have hT := HT1.out
          rw [List.take_length] at hT
          have HT := Lib.hid hT
          clear hT HT1
          go_wp2_with fail
          obtain ⟨va, vb, hA, hB, hd, hbel⟩ := HT.out
          refine (wnum_any (p + 1) vb ([] ++ (Pk.num l.length ++ l.flatMap Pk.num) ++ (Pk.num m.length ++ m.flatMap Pk.int)) t.length wr hB (by omega) (by
            have := SM.out
            simp only [List.length_append, List.length_nil]
            omega)).mono ?_
          rintro e w8 ⟨rfl, vv, hw⟩
          have T8 := Lib.hid (two_b hA hB hd hbel hw)
          clear hw hA hB hd hbel HT
          go_wp2_with fail
          go_loopg [11] t.length (fun g s11 wx => ∃ k : Nat, s11 = .int .i64 k ∧ k + g = t.length ∧ Two w p XA (([] ++ (Pk.num l.length ++ l.flatMap Pk.num) ++ (Pk.num m.length ++ m.flatMap Pk.int)) ++ (Pk.num t.length ++ (t.take k).flatMap txt)) wx)
          case atStart =>
            refine ⟨0, rfl, by omega, ?_⟩
            simpa using T8.out
          case round =>
            obtain ⟨k, rfl, hk, hT2⟩ := hrel
            have HT2 := Lib.hid hT2
            clear hT2 T8
            by_cases hlt : k < t.length
            · obtain ⟨x, hx⟩ : ∃ x, t[k] = x := ⟨_, rfl⟩
              have hmem : x ∈ t := by rw [← hx]; exact List.getElem_mem hlt
              obtain ⟨va, vb, hA, hB, hd, hbel⟩ := HT2.out
              have hR : Row (fun k => p ≤ k) wr (.slice A2 t.length c2) (t.map fS) := R2.out.low hbel
              obtain ⟨a, cap, ha, hab, hS, hcs⟩ := hR.at_ (by simpa using (by omega : 0 < t.length))
              injection ha with ha1 ha2 ha3
              subst ha1
              have hcell : wr.cell? (a.add k) = some (fS x) := hcs k _ (by rw [List.getElem?_map, List.getElem?_eq_getElem hlt, hx]; rfl)
              have htk : (t.take (k + 1)).flatMap txt = (t.take k).flatMap txt ++ txt x := by
                rw [List.take_succ_eq_append_getElem hlt, hx, List.flatMap_append]
                simp
              have hle : ((t.take k).flatMap txt).length + (txt x).length ≤ (t.flatMap txt).length := by
                have e1 : t.flatMap txt = (t.take (k + 1)).flatMap txt ++ (t.drop (k + 1)).flatMap txt := by rw [← List.flatMap_append, List.take_append_drop]
                rw [e1, htk, List.length_append, List.length_append]
                omega
              have hok := OK2.out x hmem
              have hsmall := SM.out
              have C3 := Lib.hid (wtext_any (p + 1) vb (([] ++ (Pk.num l.length ++ l.flatMap Pk.num) ++ (Pk.num m.length ++ m.flatMap Pk.int)) ++ (Pk.num t.length ++ (t.take k).flatMap txt)) x wr hB (by
                simp only [List.length_append, List.length_nil]
                have ht2 : (txt x).length = (Pk.num (bs x).length).length + x.size := by (unfold txt Pk.text; rw [List.length_append, bs_len])
                omega))
              have HTK := Lib.hid htk
              have HH := Lib.hid (And.intro hA (And.intro hB (And.intro hd hbel)))
              clear hcs htk hle hx hmem hok hR ha2 ha3 hsmall hA hB hd hbel
              by_cases h300 : 300 < x.size
              · have hz3 : (300 : Int) < (x.size : Int) := by omega
                have hcell2 : wr.cell? (a.add k) = some (.string x) := hcell
                clear hcell
                go_wp2_with fail
                refine (head_any _).mono ?_
                rintro e w9 ⟨rfl, b9⟩
                have B9 := Lib.hid (HH.out.2.2.2.trans (b9.mono (by have := HH.out.1.blk.lt; omega)))
                clear b9
                go_wp2_with fail
                go_ret
                refine ⟨rfl, ?_⟩
                rw [HP.out]
                exact B9.out
              · have hz3 : ¬ (300 : Int) < (x.size : Int) := by omega
                have hcell2 : wr.cell? (a.add k) = some (.string x) := hcell
                clear hcell
                go_wp2_with fail
                refine C3.out.mono ?_
                rintro e w2 ⟨rfl, v2, hw2⟩
                have HT2 := Lib.hid (two_b HH.out.1 HH.out.2.1 HH.out.2.2.1 HH.out.2.2.2 hw2)
                clear hw2 hcell2
                go_wp2_with fail
                go_roundg (t.length - (k + 1))
                case measure => omega
                case rel =>
                  refine ⟨k + 1, by go_num, by omega, ?_⟩
                  rw [HTK.out, app3]
                  exact HT2.out
            · obtain rfl : k = t.length := by omega
              have hT := HT2.out
              rw [List.take_length] at hT
              have HT := Lib.hid hT
              clear hT HT2
              obtain ⟨va, vb, hA, hB, hd, hbel⟩ := HT.out
              have HB : Hid (Wr wr (p + 1) vb XA) := by
                rw [← HXA.out]
                exact hB
              have HA := Lib.hid hA
              have HBel := Lib.hid hbel
              clear hA hB hd hbel HT
              go_wp2_with fail
              refine (wbytes_any p va _ wr HA.out (by rw [← HXA.out]; exact LT.out)).mono ?_
              rintro e w' ⟨⟨sa, rfl, hsa⟩, rfl⟩
              have HSA := Lib.hid hsa
              clear hsa
              go_wp2_with fail
              refine (wbytes_any (p + 1) vb _ wr HB.out (by rw [← HXA.out]; exact LT.out)).mono ?_
              rintro e w' ⟨⟨sb, rfl, hsb⟩, rfl⟩
              obtain rfl : sa = sb := bs_inj _ _ (HSA.out.trans hsb.symm)
              clear hsb
              go_wp2_with fail
              refine (head_any _).mono ?_
              rintro e w9 ⟨rfl, b9⟩
              have B9 := Lib.hid (HBel.out.trans (b9.mono (by have := HA.out.blk.lt; omega)))
              clear b9
              go_wp2_with fail
              go_ret
              refine ⟨rfl, ?_⟩
              rw [HP.out]
              exact B9.out

theorem walk (ul um ut : Value) (l : List Nat) (m : List Int) (t : List ByteArray) (w : World) (hl : Row (fun k => w.heap.size ≤ k) w ul (l.map fN)) (hm : Row (fun k => w.heap.size ≤ k) w um (m.map fI)) (ht : Row (fun k => w.heap.size ≤ k) w ut (t.map fS))
    (okl : ∀ x ∈ l, Pk.OkN x) (okm : ∀ x ∈ m, Pk.OkI x) (hs : (t.map ByteArray.size).sum ≤ 1048576) :
    Calls Try.prog F #[ul, um, ut] w fun e w' => e = .returned (.bool true) ∧ Below w.heap.size w w' := by
  by_cases h : 200 < l.length ∨ 200 < m.length ∨ 60 < t.length
  · exact walk_long ul um ut l m t w hl hm ht h
  · exact walk_main ul um ut l m t w hl hm ht okl okm (by omega) (by omega) (by omega) hs
end Go.Proofs.Ytbfdfaadioaldaa.packLists
