/- Contracts of the document's answers for layer 3 (package stickfulref03): SameNums, SameInts, SameTexts: lists that are the same are told so. -/
import Derived.Test.YtfhceblmjahgjaaPkF2
namespace Go.Proofs.Ytfhceblmjahgjaa
open Go.ChangeShapes Go.WideShapes Go.ChangeAt Go.RowKit

/-- some truth is told, and it is true if p; nothing but draws -/
def TPost (w : World) (p : Prop) (e : Ending) (w' : World) : Prop := (∃ b : Bool, e = .returned (.bool b) ∧ (p → b = true)) ∧ Drawn w w'

theorem Drawn.cell' {w w' : World} (h : Drawn w w') (p : Addr) : w'.cell? p = w.cell? p := by
  obtain ⟨n, rfl⟩ := h
  rfl

set_option maxRecDepth 100000 in
set_option maxHeartbeats 2000000 in
theorem same_num (S1 S2 : Nat → Prop) (u v : Value) (l m : List Nat) (w : World) (hu : Row S1 w u (l.map fN)) (hv : Row S2 w v (m.map fN)) (hl : l.length ≤ 1000000000) (hm : m.length ≤ 140737488355328) :
    Calls Try.prog 50 #[u, v] w (TPost w (l = m)) := by
  obtain ⟨A, c, rfl⟩ := hu.form
  obtain ⟨B, d, rfl⟩ := hv.form
  rw [List.length_map] at hu hv
  rw [List.length_map, List.length_map]
  by_cases hlm : l.length = m.length
  · have HU := Lib.hid hu
    have HV := Lib.hid hv
    have HLM := Lib.hid hlm
    rw [← hlm] at hv ⊢
    have HV2 := Lib.hid hv
    clear hu hv hlm HV
    go_enter Try.func50, Try.ntmps50
    go_wp2_with fail
    go_loopg [5] l.length (fun g s5 wx => Drawn w wx ∧ ∃ k : Nat, s5 = .int .i64 k ∧ k + g = l.length)
    case atStart => exact ⟨Drawn.refl _, 0, rfl, by omega⟩
    case round =>
      obtain ⟨dw, k, rfl, hk⟩ := hrel
      by_cases hlt : k < l.length
      · have hltm : k < m.length := by have := HLM.out; omega
        obtain ⟨x, hx⟩ : ∃ x, l[k] = x := ⟨_, rfl⟩
        obtain ⟨y, hy⟩ : ∃ y, m[k] = y := ⟨_, rfl⟩
        obtain ⟨a, cap, ha, _, _, hcs⟩ := HU.out.at_ (by simpa using (by omega : 0 < l.length))
        injection ha with ha1 ha2 ha3
        subst ha1
        obtain ⟨b, cap2, hb, _, _, hcs2⟩ := HV2.out.at_ (by simpa using (by omega : 0 < m.length))
        injection hb with hb1 hb2 hb3
        subst hb1
        have h1 : wr.cell? (a.add k) = some (.int .u64 (x : Int)) := (dw.cell' _).trans (hcs k _ (by rw [List.getElem?_map, List.getElem?_eq_getElem hlt, hx]; rfl))
        have h2 : wr.cell? (b.add k) = some (.int .u64 (y : Int)) := (dw.cell' _).trans (hcs2 k _ (by rw [List.getElem?_map, List.getElem?_eq_getElem hltm, hy]; rfl))
        have hkz : (k : Int) < (l.length : Int) := by omega
        have HXY : Hid (l = m → x = y) := fun e => by subst e; rw [← hx, ← hy]
        clear ha2 ha3 hb2 hb3 hcs hcs2 hx hy
        by_cases hxy : x = y
        · subst hxy
          go_wp2_with fail
          go_quiet (fail)
          go_wp2_with fail
          go_roundg (l.length - (k + 1))
          case measure => omega
          case rel => exact ⟨dw.drewN _, k + 1, by go_num, by omega⟩
        · have q1 : ((x : Int) != (y : Int)) = true := by simp; omega
          have HNE := Lib.hid hxy
          clear hxy
          go_wp2_with fail
          go_quiet (fail)
          go_wp2_with fail
          go_ret
          exact ⟨⟨false, rfl, fun e => absurd (HXY.out e) HNE.out⟩, dw.drewN _⟩
      · obtain rfl : k = l.length := by omega
        go_wp2_with fail
        go_ret
        exact ⟨⟨true, rfl, fun _ => rfl⟩, dw⟩
  · have hne : ((l.length : Int) != (m.length : Int)) = true := by simp; omega
    have HNE := Lib.hid hlm
    clear hu hv hlm
    go_enter Try.func50, Try.ntmps50
    go_wp2_with fail
    go_ret
    exact ⟨⟨false, rfl, fun e => absurd (by rw [e]) HNE.out⟩, Drawn.refl _⟩

set_option maxRecDepth 100000 in
set_option maxHeartbeats 2000000 in
theorem same_int (S1 S2 : Nat → Prop) (u v : Value) (l m : List Int) (w : World) (hu : Row S1 w u (l.map fI)) (hv : Row S2 w v (m.map fI)) (hl : l.length ≤ 1000000000) (hm : m.length ≤ 140737488355328) :
    Calls Try.prog 52 #[u, v] w (TPost w (l = m)) := by
  obtain ⟨A, c, rfl⟩ := hu.form
  obtain ⟨B, d, rfl⟩ := hv.form
  rw [List.length_map] at hu hv
  rw [List.length_map, List.length_map]
  by_cases hlm : l.length = m.length
  · have HU := Lib.hid hu
    have HV := Lib.hid hv
    have HLM := Lib.hid hlm
    rw [← hlm] at hv ⊢
    have HV2 := Lib.hid hv
    clear hu hv hlm HV
    go_enter Try.func52, Try.ntmps52
    go_wp2_with fail
    go_loopg [5] l.length (fun g s5 wx => Drawn w wx ∧ ∃ k : Nat, s5 = .int .i64 k ∧ k + g = l.length)
    case atStart => exact ⟨Drawn.refl _, 0, rfl, by omega⟩
    case round =>
      obtain ⟨dw, k, rfl, hk⟩ := hrel
      by_cases hlt : k < l.length
      · have hltm : k < m.length := by have := HLM.out; omega
        obtain ⟨x, hx⟩ : ∃ x, l[k] = x := ⟨_, rfl⟩
        obtain ⟨y, hy⟩ : ∃ y, m[k] = y := ⟨_, rfl⟩
        obtain ⟨a, cap, ha, _, _, hcs⟩ := HU.out.at_ (by simpa using (by omega : 0 < l.length))
        injection ha with ha1 ha2 ha3
        subst ha1
        obtain ⟨b, cap2, hb, _, _, hcs2⟩ := HV2.out.at_ (by simpa using (by omega : 0 < m.length))
        injection hb with hb1 hb2 hb3
        subst hb1
        have h1 : wr.cell? (a.add k) = some (.int .i64 x) := (dw.cell' _).trans (hcs k _ (by rw [List.getElem?_map, List.getElem?_eq_getElem hlt, hx]; rfl))
        have h2 : wr.cell? (b.add k) = some (.int .i64 y) := (dw.cell' _).trans (hcs2 k _ (by rw [List.getElem?_map, List.getElem?_eq_getElem hltm, hy]; rfl))
        have hkz : (k : Int) < (l.length : Int) := by omega
        have HXY : Hid (l = m → x = y) := fun e => by subst e; rw [← hx, ← hy]
        clear ha2 ha3 hb2 hb3 hcs hcs2 hx hy
        by_cases hxy : x = y
        · subst hxy
          go_wp2_with fail
          go_quiet (fail)
          go_wp2_with fail
          go_roundg (l.length - (k + 1))
          case measure => omega
          case rel => exact ⟨dw.drewN _, k + 1, by go_num, by omega⟩
        · have q1 : (x != y) = true := by simp; omega
          have HNE := Lib.hid hxy
          clear hxy
          go_wp2_with fail
          go_quiet (fail)
          go_wp2_with fail
          go_ret
          exact ⟨⟨false, rfl, fun e => absurd (HXY.out e) HNE.out⟩, dw.drewN _⟩
      · obtain rfl : k = l.length := by omega
        go_wp2_with fail
        go_ret
        exact ⟨⟨true, rfl, fun _ => rfl⟩, dw⟩
  · have hne : ((l.length : Int) != (m.length : Int)) = true := by simp; omega
    have HNE := Lib.hid hlm
    clear hu hv hlm
    go_enter Try.func52, Try.ntmps52
    go_wp2_with fail
    go_ret
    exact ⟨⟨false, rfl, fun e => absurd (by rw [e]) HNE.out⟩, Drawn.refl _⟩

set_option maxRecDepth 100000 in
set_option maxHeartbeats 2000000 in
theorem same_text (S1 S2 : Nat → Prop) (u v : Value) (l m : List ByteArray) (w : World) (hu : Row S1 w u (l.map fS)) (hv : Row S2 w v (m.map fS)) (hl : l.length ≤ 1000000000) (hm : m.length ≤ 140737488355328) :
    Calls Try.prog 54 #[u, v] w (TPost w (l = m)) := by
  obtain ⟨A, c, rfl⟩ := hu.form
  obtain ⟨B, d, rfl⟩ := hv.form
  rw [List.length_map] at hu hv
  rw [List.length_map, List.length_map]
  by_cases hlm : l.length = m.length
  · have HU := Lib.hid hu
    have HV := Lib.hid hv
    have HLM := Lib.hid hlm
    rw [← hlm] at hv ⊢
    have HV2 := Lib.hid hv
    clear hu hv hlm HV
    go_enter Try.func54, Try.ntmps54
    go_wp2_with fail
    go_loopg [5] l.length (fun g s5 wx => Drawn w wx ∧ ∃ k : Nat, s5 = .int .i64 k ∧ k + g = l.length)
    case atStart => exact ⟨Drawn.refl _, 0, rfl, by omega⟩
    case round =>
      obtain ⟨dw, k, rfl, hk⟩ := hrel
      by_cases hlt : k < l.length
      · have hltm : k < m.length := by have := HLM.out; omega
        obtain ⟨x, hx⟩ : ∃ x, l[k] = x := ⟨_, rfl⟩
        obtain ⟨y, hy⟩ : ∃ y, m[k] = y := ⟨_, rfl⟩
        obtain ⟨a, cap, ha, _, _, hcs⟩ := HU.out.at_ (by simpa using (by omega : 0 < l.length))
        injection ha with ha1 ha2 ha3
        subst ha1
        obtain ⟨b, cap2, hb, _, _, hcs2⟩ := HV2.out.at_ (by simpa using (by omega : 0 < m.length))
        injection hb with hb1 hb2 hb3
        subst hb1
        have h1 : wr.cell? (a.add k) = some (.string x) := (dw.cell' _).trans (hcs k _ (by rw [List.getElem?_map, List.getElem?_eq_getElem hlt, hx]; rfl))
        have h2 : wr.cell? (b.add k) = some (.string y) := (dw.cell' _).trans (hcs2 k _ (by rw [List.getElem?_map, List.getElem?_eq_getElem hltm, hy]; rfl))
        have hkz : (k : Int) < (l.length : Int) := by omega
        have HXY : Hid (l = m → x = y) := fun e => by subst e; rw [← hx, ← hy]
        clear ha2 ha3 hb2 hb3 hcs hcs2 hx hy
        by_cases hxy : x = y
        · subst hxy
          go_wp2_with fail
          go_quiet (fail)
          go_wp2_with fail
          go_roundg (l.length - (k + 1))
          case measure => omega
          case rel => exact ⟨dw.drewN _, k + 1, by go_num, by omega⟩
        · have q0 : bs x ≠ bs y := fun e => hxy (bs_inj _ _ e)
          have q1 : ¬ x.toList = y.toList := fun e => q0 (by unfold bs; rw [← ByteArray.toList_eq, ← ByteArray.toList_eq, e])
          have q2 : (x.toList == y.toList) = false := by simpa using q1
          have q3 : (x.toList != y.toList) = true := by simpa using q1
          clear q0
          have HNE := Lib.hid hxy
          clear hxy
          go_wp2_with fail
          go_quiet (fail)
          go_wp2_with fail
          go_ret
          exact ⟨⟨false, rfl, fun e => absurd (HXY.out e) HNE.out⟩, dw.drewN _⟩
      · obtain rfl : k = l.length := by omega
        go_wp2_with fail
        go_ret
        exact ⟨⟨true, rfl, fun _ => rfl⟩, dw⟩
  · have hne : ((l.length : Int) != (m.length : Int)) = true := by simp; omega
    have HNE := Lib.hid hlm
    clear hu hv hlm
    go_enter Try.func54, Try.ntmps54
    go_wp2_with fail
    go_ret
    exact ⟨⟨false, rfl, fun e => absurd (by rw [e]) HNE.out⟩, Drawn.refl _⟩
end Go.Proofs.Ytfhceblmjahgjaa
