/- Lists of declarations and of styles in memory; contracts of style.validParents, validDecls and of slices' ContainsFunc, IndexFunc at it. Conditions: the lists lie where the slices say, at most 1000 elements; bits are 16-bit numbers. -/
import Derived.Test.YtgpobhnonjdamaaDoorY6
import Derived.Test.YtgpobhnonjdamaaDoorYRows
import Derived.Test.YtgpobhnonjdamaaDoorYLists
namespace Go.Proofs.YtgpobhnonjdamaaDoor
open Go.ChangeShapes Go.WideShapes Go.ChangeAt Go.RowKit

/-- v is a slice of declarations that reads as ds -/
def Ds (w : World) (v : Value) (ds : List Dcl) : Prop := RowN 10 (fun _ => False) w v (ds.map fun d => d.cells.toList)
/-- v is a slice of styles that reads as l -/
def Ss (w : World) (v : Value) (l : List Sty) : Prop := RowN 9 (fun _ => False) w v (l.map fun s => s.cells.toList)
theorem Ds.below {w w' : World} {v : Value} {ds : List Dcl} (h : Ds w v ds) (b : Below w.heap.size w w') : Ds w' v ds := RowN.below h b
theorem Ss.below {w w' : World} {v : Value} {l : List Sty} (h : Ss w v l) (b : Below w.heap.size w w') : Ss w' v l := RowN.below h b
theorem Ds.form {w : World} {v : Value} {ds : List Dcl} (h : Ds w v ds) : ∃ A c, v = .slice A ds.length c := by
  have := RowN.form h
  rwa [List.length_map] at this
theorem Ss.form {w : World} {v : Value} {l : List Sty} (h : Ss w v l) : ∃ A c, v = .slice A l.length c := by
  have := RowN.form h
  rwa [List.length_map] at this
theorem lies_of {w : World} {p : Addr} {cs : Array Value} {g o : Nat} (hp : p = ⟨g, o, none⟩) (h : ∀ j u, cs.toList[j]? = some u → w.cell? ⟨g, o + j, none⟩ = some u) : Lies w p cs := by
  subst hp
  intro j v hv
  have : (⟨g, o, none⟩ : Addr).add j = ⟨g, o + j, none⟩ := by unfold Addr.add; split <;> simp_all
  rw [this]
  exact h j v (by simpa using hv)
theorem Ds.get {w wx : World} {v : Value} {ds : List Dcl} (h : Ds w v ds) (b : Below w.heap.size w wx) {i : Nat} {d : Dcl} (hi : ds[i]? = some d) :
    ∃ a cap o, v = .slice (some a) ds.length cap ∧ a.block < w.heap.size ∧ a.add (i * 10) = ⟨a.block, o, none⟩ ∧ Lies wx ⟨a.block, o, none⟩ d.cells := by
  obtain ⟨a, cap, o, hv, hb, _, ha, hc⟩ := RowN.get h b (x := d.cells.toList) (by rw [List.getElem?_map, hi]; rfl) (by simp [Dcl.cells])
  rw [List.length_map] at hv
  exact ⟨a, cap, o, hv, hb, ha, lies_of rfl hc⟩
theorem Ss.get {w wx : World} {v : Value} {l : List Sty} (h : Ss w v l) (b : Below w.heap.size w wx) {i : Nat} {s : Sty} (hi : l[i]? = some s) :
    ∃ a cap o, v = .slice (some a) l.length cap ∧ a.block < w.heap.size ∧ a.add (i * 9) = ⟨a.block, o, none⟩ ∧ Lies wx ⟨a.block, o, none⟩ s.cells := by
  obtain ⟨a, cap, o, hv, hb, _, ha, hc⟩ := RowN.get h b (x := s.cells.toList) (by rw [List.getElem?_map, hi]; rfl) (by simp [Sty.cells])
  rw [List.length_map] at hv
  exact ⟨a, cap, o, hv, hb, ha, lies_of rfl hc⟩
/-- a declaration's style, and its bits, at a plain address -/
theorem Lies.sub {w : World} {g o : Nat} {d : Dcl} (h : Lies w ⟨g, o, none⟩ d.cells) : Lies w ⟨g, o + 1, none⟩ d.s.cells := fun j v hv => by
  have hj : j < 9 := (Array.getElem?_eq_some_iff.1 hv).1
  have h2 := h (1 + j) v (by
    match j, hj with
    | 0, _ => exact hv
    | 1, _ => exact hv
    | 2, _ => exact hv
    | 3, _ => exact hv
    | 4, _ => exact hv
    | 5, _ => exact hv
    | 6, _ => exact hv
    | 7, _ => exact hv
    | 8, _ => exact hv)
  have e1 : (⟨g, o + 1, none⟩ : Addr).add j = ⟨g, o + 1 + j, none⟩ := by unfold Addr.add; split <;> simp_all
  have e2 : (⟨g, o, none⟩ : Addr).add (1 + j) = ⟨g, o + (1 + j), none⟩ := by unfold Addr.add; split <;> simp_all
  rw [e2] at h2
  rw [e1, Nat.add_assoc]
  exact h2
theorem Lies.bits {w : World} {g o : Nat} {d : Dcl} (h : Lies w ⟨g, o, none⟩ d.cells) : w.cell? ⟨g, o, none⟩ = some (.int .u16 d.n) := h 0 _ rfl

/-- all bits are 16-bit numbers -/
def Wf16 (ds : List Dcl) : Prop := ∀ i, i < ds.length → (ds.getD i .zero).n < 65536
theorem getD_of {α : Type} {l : List α} {i : Nat} (z : α) (h : i < l.length) : l[i]? = some (l.getD i z) := by
  rw [List.getD_eq_getElem?_getD, List.getElem?_eq_getElem h]
  rfl

set_option maxRecDepth 100000 in
set_option maxHeartbeats 2000000 in
theorem yvp_any (v : Value) (ps : List Int) (b : Bool) (w : World) (hR : Row (fun _ => False) w v (ps.map (Value.int .i64))) (hn : ps.length ≤ 1000) (hb : b = true ↔ okP ps) :
    Calls Tryd.prog 49 #[v] w fun e w' => e = .returned (.bool b) ∧ w = w' := by
  have HR := Lib.hid hR
  have HB := Lib.hid hb
  obtain ⟨A, cap, rfl⟩ := hR.form
  rw [List.length_map] at HR ⊢
  obtain ⟨n, hl⟩ : ∃ n, ps.length = n := ⟨_, rfl⟩
  have HL := Lib.hid hl
  rw [hl] at hn HR ⊢
  clear hR hb hl
  go_enter Tryd.func49, Tryd.ntmps49
  go_wp2_with fail
  go_loopg [7] n (fun kx s7 wr => w = wr ∧ ∃ k : Nat, s7 = .int .i64 k ∧ k ≤ n ∧ kx = n - k ∧ Hid (∀ i, i < k → -1 ≤ ps.getD i 0 ∧ ps.getD i 0 < i))
  case atStart => exact ⟨rfl, 0, rfl, by omega, rfl, Lib.hid (fun i hi => by omega)⟩
  case round =>
    obtain ⟨rfl, k, rfl, hk, rfl, HK⟩ := hrel
    by_cases hlt : k < n
    · have hkl : k < ps.length := by rw [HL.out]; exact hlt
      have hz : (k : Int) < n := by omega
      obtain ⟨p, hp⟩ : ∃ p, ps.getD k 0 = p := ⟨_, rfl⟩
      have hpk := getD_of (0 : Int) hkl
      rw [hp] at hpk
      obtain ⟨a, cap2, hv, hab, _, hcell⟩ := HR.out.at_ (by simp; omega)
      injection hv with hv1 hv2 hv3
      subst hv1 hv3
      have hc : w.cell? (a.add k) = some (.int .i64 p) := hcell k _ (by rw [List.getElem?_map, hpk]; rfl)
      have HP := Lib.hid hp
      clear hv2 hcell hpk hkl hp
      by_cases h1 : p < -1
      · go_wp2_with fail
        go_ret
        refine ⟨retb ?_, rfl⟩
        apply Eq.symm
        apply Bool.eq_false_iff.2
        intro hb
        have := HB.out.1 hb k (by rw [HL.out]; exact hlt)
        rw [HP.out] at this
        omega
      · by_cases h2 : p < k
        · have h3 : -1 ≤ p := by omega
          clear h1
          go_wp2_with fail
          go_roundg (n - (k + 1))
          case measure => omega
          case rel => exact ⟨rfl, k + 1, by go_num, by omega, rfl, Lib.hid (upto_succ (p := fun i => -1 ≤ ps.getD i 0 ∧ ps.getD i 0 < i) HK.out (by rw [HP.out]; exact ⟨h3, h2⟩))⟩
        · have h3 : -1 ≤ p := by omega
          have h4 : (k : Int) ≤ p := by omega
          clear h1 h2
          go_wp2_with fail
          go_ret
          refine ⟨retb ?_, rfl⟩
          apply Eq.symm
          apply Bool.eq_false_iff.2
          intro hb
          have := HB.out.1 hb k (by rw [HL.out]; exact hlt)
          rw [HP.out] at this
          omega
    · obtain rfl : k = n := by omega
      go_wp2_with fail
      go_ret
      exact ⟨retb (HB.out.2 (fun i hi => HK.out i (by rw [← HL.out]; exact hi))).symm, rfl⟩

theorem yclo_any (d : Dcl) (w : World) (hn : d.n < 65536) :
    Calls Tryd.prog 65 #[.agg d.cells] w fun e w' => e = .returned (.bool (!vldD d)) ∧ Below w.heap.size w w' := by
  have C := Lib.hid (fun w => ychkd_any d w hn)
  rcases chkD_cases d with ⟨hv, hc⟩ | ⟨hv, hc⟩
  · rw [hv]
    rw [hc] at C
    clear hv hc
    go_enter Tryd.func65, Tryd.ntmps65
    go_wp2_with (first
      | (refine bxDV rfl (.tmp 0) rfl d rfl ?_; intro w1 b1 B1)
      | (refine ldD rfl (.tmp 1) rfl _ rfl d B1.lies ?_))
    refine (C.out _).mono ?_
    rintro e w2 ⟨rfl, b2⟩
    go_wp2_with fail
    go_ret
    exact ⟨rfl, below_seq b1 b2⟩
  · rw [hv]
    rw [hc] at C
    clear hv hc
    go_enter Tryd.func65, Tryd.ntmps65
    go_wp2_with (first
      | (refine bxDV rfl (.tmp 0) rfl d rfl ?_; intro w1 b1 B1)
      | (refine ldD rfl (.tmp 1) rfl _ rfl d B1.lies ?_))
    refine (C.out _).mono ?_
    rintro e w2 ⟨rfl, b2⟩
    go_wp2_with fail
    go_ret
    exact ⟨rfl, below_seq b1 b2⟩

/-- what IndexFunc says: the first that may not be, or -1 -/
def IdxOf (ds : List Dcl) (z : Int) : Prop := (z = -1 ∧ okD ds) ∨ (0 ≤ z ∧ ¬ okD ds)
theorem IdxOf.none_ {ds : List Dcl} (h : okD ds) : IdxOf ds (-1) := .inl ⟨rfl, h⟩
theorem IdxOf.some_ {ds : List Dcl} {k : Nat} (hk : k < ds.length) (h : vldD (ds.getD k .zero) = false) : IdxOf ds k := .inr ⟨by omega, fun h2 => by rw [h2 k hk] at h; cases h⟩
/-- an answer in the world behind it -/
def Idx (w : World) (ds : List Dcl) (e : Ending) (w' : World) : Prop := ∃ z : Int, e = .returned (.int .i64 z) ∧ IdxOf ds z ∧ Below w.heap.size w w'

set_option maxRecDepth 100000 in
set_option maxHeartbeats 2000000 in
theorem yidx_any (v : Value) (ds : List Dcl) (w : World) (hR : Ds w v ds) (h16 : Wf16 ds) (hn : ds.length ≤ 1000) :
    Calls Tryd.prog 96 #[v, .func (.func 65) #[] #[]] w (Idx w ds) := by
  have HR := Lib.hid hR
  have H16 := Lib.hid h16
  obtain ⟨A, cap, rfl⟩ := hR.form
  obtain ⟨n, hl⟩ : ∃ n, ds.length = n := ⟨_, rfl⟩
  have HL := Lib.hid hl
  rw [hl] at hn HR ⊢
  clear hR h16 hl
  go_enter Tryd.func96, Tryd.ntmps96
  go_wp2_with fail
  go_loopg [8] n (fun kx s8 wr => ∃ k : Nat, s8 = .int .i64 k ∧ k ≤ n ∧ kx = n - k ∧ Below w.heap.size w wr ∧ Hid (∀ i, i < k → vldD (ds.getD i .zero) = true))
  case atStart => exact ⟨0, rfl, by omega, rfl, Below.refl _ _, Lib.hid (fun i hi => by omega)⟩
  case round =>
    obtain ⟨k, rfl, hk, rfl, bel, HK⟩ := hrel
    by_cases hlt : k < n
    · have hkl : k < ds.length := by rw [HL.out]; exact hlt
      have hz : (k : Int) < n := by omega
      obtain ⟨d, hd⟩ : ∃ d, ds.getD k .zero = d := ⟨_, rfl⟩
      have hdk := getD_of Dcl.zero hkl
      have hd16 := H16.out k hkl
      rw [hd] at hdk hd16
      have C := Lib.hid (fun w => yclo_any d w hd16)
      obtain ⟨a, cap2, o, hv, hab, ha, hL⟩ := HR.out.get bel hdk
      injection hv with hv1 hv2 hv3
      subst hv1 hv3
      have HD := Lib.hid hd
      have HK2 := Lib.hid hkl
      clear hv2 hdk hkl hd hd16
      obtain ⟨b, hb⟩ : ∃ b, vldD d = b := ⟨_, rfl⟩
      have HBD := Lib.hid hb
      rw [hb] at C
      clear hb
      cases b with
      | true =>
        go_wp2_with (refine ldD rfl (.tmp 14) rfl _ rfl d hL ?_)
        refine (C.out _).mono ?_
        rintro e w2 ⟨rfl, b2⟩
        go_wp2_with fail
        go_roundg (n - (k + 1))
        case measure => omega
        case rel => exact ⟨k + 1, by go_num, by omega, rfl, bel.trans (b2.mono bel.size), Lib.hid (upto_succ (p := fun i => vldD (ds.getD i .zero) = true) HK.out (by rw [HD.out]; exact HBD.out))⟩
      | false =>
        go_wp2_with (refine ldD rfl (.tmp 14) rfl _ rfl d hL ?_)
        refine (C.out _).mono ?_
        rintro e w2 ⟨rfl, b2⟩
        go_wp2_with fail
        go_ret
        exact ⟨k, rfl, IdxOf.some_ HK2.out (by rw [HD.out]; exact HBD.out), bel.trans (b2.mono bel.size)⟩
    · obtain rfl : k = n := by omega
      go_wp2_with fail
      go_ret
      exact ⟨-1, rfl, IdxOf.none_ (fun i hi => HK.out i (by rw [← HL.out]; exact hi)), bel⟩

theorem ycont_any (v : Value) (ds : List Dcl) (b : Bool) (w : World) (hR : Ds w v ds) (h16 : Wf16 ds) (hn : ds.length ≤ 1000) (hb : b = true ↔ okD ds) :
    Calls Tryd.prog 64 #[v, .func (.func 65) #[] #[]] w fun e w' => e = .returned (.bool (!b)) ∧ Below w.heap.size w w' := by
  have C := Lib.hid (yidx_any v ds w hR h16 hn)
  have HB := Lib.hid hb
  clear hR h16 hn hb
  go_enter Tryd.func64, Tryd.ntmps64
  go_wp2_with fail
  refine C.out.mono ?_
  rintro e w2 ⟨z, rfl, hi, b2⟩
  rcases hi with ⟨rfl, hi⟩ | ⟨hz, hi⟩
  · have HI := Lib.hid hi
    clear hi
    go_wp2_with fail
    go_ret
    exact ⟨retb (by rw [HB.out.2 HI.out]; rfl), b2⟩
  · have HI := Lib.hid hi
    clear hi
    go_wp2_with fail
    go_ret
    exact ⟨retb (by rw [Bool.eq_false_iff.2 (fun h => HI.out (HB.out.1 h))]; rfl), b2⟩

theorem yvd_any (v : Value) (ds : List Dcl) (b : Bool) (w : World) (hR : Ds w v ds) (h16 : Wf16 ds) (hn : ds.length ≤ 1000) (hb : b = true ↔ okD ds) :
    Calls Tryd.prog 51 #[v] w fun e w' => e = .returned (.bool b) ∧ Below w.heap.size w w' := by
  have C := Lib.hid (ycont_any v ds b w hR h16 hn hb)
  clear hR h16 hn hb
  go_enter Tryd.func51, Tryd.ntmps51
  go_wp2_with fail
  refine C.out.mono ?_
  rintro e w2 ⟨rfl, b2⟩
  go_wp2_with fail
  go_ret
  exact ⟨retb (by simp), b2⟩
end Go.Proofs.YtgpobhnonjdamaaDoor
