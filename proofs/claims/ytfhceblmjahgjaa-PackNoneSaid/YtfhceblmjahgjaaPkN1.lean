/- Contracts of package pack at a writer that is none, and at a reader that is none: each does nothing, and answers zero values. -/
import Derived.Test.YtfhceblmjahgjaaPkR4
namespace Go.Proofs.Ytfhceblmjahgjaa
open Go.ChangeShapes Go.WideShapes Go.ChangeAt Go.RowKit

set_option maxRecDepth 100000 in
set_option maxHeartbeats 1000000 in
theorem nwnum (v : Value) (n : Int) (w : World) (h : NoWr w v) :
    Calls Try.prog 34 #[v, .int .u64 n] w fun e w' => e = .returned (.tuple #[]) ∧ w = w' := by
  have C := Lib.hid (wis_no v w h)
  clear h
  go_enter Try.func34, Try.ntmps34
  go_wp2_with fail
  refine (C.out).mono ?_
  rintro e w' ⟨rfl, rfl⟩
  go_wp2_with fail
  (try simp only [Exit.inBlock, Exit.then])
  refine bodyPost_ret (results_none rfl _ _ _) rfl ?_
  exact ⟨rfl, rfl⟩

set_option maxRecDepth 100000 in
set_option maxHeartbeats 1000000 in
theorem nwint (v : Value) (z : Int) (w : World) (h : NoWr w v) :
    Calls Try.prog 35 #[v, .int .i64 z] w fun e w' => e = .returned (.tuple #[]) ∧ w = w' := by
  have C : Hid (∀ n : Int, Calls Try.prog 34 #[v, .int .u64 n] w fun e w' => e = .returned (.tuple #[]) ∧ w = w') := fun n => nwnum v n w h
  clear h
  by_cases h0 : z < 0
  · go_enter Try.func35, Try.ntmps35
    go_wp2_with fail
    refine (C.out _).mono ?_
    rintro e w' ⟨rfl, rfl⟩
    go_wp2_with fail
    (try simp only [Exit.inBlock, Exit.then])
    refine bodyPost_ret (results_none rfl _ _ _) rfl ?_
    exact ⟨rfl, rfl⟩
  · go_enter Try.func35, Try.ntmps35
    go_wp2_with fail
    refine (C.out _).mono ?_
    rintro e w' ⟨rfl, rfl⟩
    go_wp2_with fail
    go_end0
    exact ⟨rfl, rfl⟩

set_option maxRecDepth 100000 in
set_option maxHeartbeats 1000000 in
theorem nwtruth (v : Value) (b : Bool) (w : World) (h : NoWr w v) :
    Calls Try.prog 37 #[v, .bool b] w fun e w' => e = .returned (.tuple #[]) ∧ w = w' := by
  have C : Hid (∀ n : Int, Calls Try.prog 34 #[v, .int .u64 n] w fun e w' => e = .returned (.tuple #[]) ∧ w = w') := fun n => nwnum v n w h
  clear h
  cases b
  · go_enter Try.func37, Try.ntmps37
    go_wp2_with fail
    refine (C.out _).mono ?_
    rintro e w' ⟨rfl, rfl⟩
    go_wp2_with fail
    go_end0
    exact ⟨rfl, rfl⟩
  · go_enter Try.func37, Try.ntmps37
    go_wp2_with fail
    refine (C.out _).mono ?_
    rintro e w' ⟨rfl, rfl⟩
    go_wp2_with fail
    (try simp only [Exit.inBlock, Exit.then])
    refine bodyPost_ret (results_none rfl _ _ _) rfl ?_
    exact ⟨rfl, rfl⟩

set_option maxRecDepth 100000 in
set_option maxHeartbeats 1000000 in
theorem nwtext (v : Value) (s : ByteArray) (w : World) (h : NoWr w v) :
    Calls Try.prog 36 #[v, .string s] w fun e w' => e = .returned (.tuple #[]) ∧ w = w' := by
  have C := Lib.hid (wis_no v w h)
  clear h
  go_enter Try.func36, Try.ntmps36
  go_wp2_with fail
  refine (C.out).mono ?_
  rintro e w' ⟨rfl, rfl⟩
  go_wp2_with fail
  (try simp only [Exit.inBlock, Exit.then])
  refine bodyPost_ret (results_none rfl _ _ _) rfl ?_
  exact ⟨rfl, rfl⟩

set_option maxRecDepth 100000 in
set_option maxHeartbeats 1000000 in
theorem nwbytes (v : Value)  (w : World) (h : NoWr w v) :
    Calls Try.prog 14 #[v] w fun e w' => e = .returned (.string ⟨#[]⟩) ∧ w = w' := by
  have C := Lib.hid (wis_no v w h)
  clear h
  go_enter Try.func14, Try.ntmps14
  go_wp2_with fail
  refine (C.out).mono ?_
  rintro e w' ⟨rfl, rfl⟩
  go_wp2_with fail
  go_ret
  exact ⟨rfl, rfl⟩

set_option maxRecDepth 100000 in
set_option maxHeartbeats 2000000 in
theorem nwlist_num (v : Value) (u : Value) (l : List Nat) (w : World) (h : NoWr w v) (S : Nat → Prop) (hr : Row S w u (l.map fN)) (hn : l.length ≤ 140737488355328) :
    Calls Try.prog 63 #[v, u, .func (.func 34) #[v] #[]] w fun e w' => e = .returned (.tuple #[]) ∧ w = w' := by
  have C := Lib.hid (nwnum v (l.length : Int) w h)
  have C3 : Hid (∀ x, x ∈ l → Calls Try.prog 34 #[v, fN x] w fun e w' => e = .returned (.tuple #[]) ∧ w = w') := fun _ _ => nwnum v _ w h
  obtain ⟨A, c, rfl⟩ := hr.form
  have hlen : (l.map fN).length = l.length := List.length_map _
  rw [hlen] at hr ⊢
  have HR := Lib.hid hr
  clear hr hlen h 
  go_enter Try.func63, Try.ntmps63
  go_wp2_with fail
  refine C.out.mono ?_
  rintro e w' ⟨rfl, rfl⟩
  go_wp2_with fail
  go_loopg [15] l.length (fun g s15 wx => ∃ k : Nat, s15 = .int .i64 k ∧ k + g = l.length ∧ wx = w)
  case atStart => exact ⟨0, rfl, by omega, rfl⟩
  case round =>
    obtain ⟨k, rfl, hk, rfl⟩ := hrel
    by_cases hlt : k < l.length
    · obtain ⟨x, hx⟩ : ∃ x, l[k] = x := ⟨_, rfl⟩
      have hmem : x ∈ l := by rw [← hx]; exact List.getElem_mem hlt
      obtain ⟨a, cap, ha, hab, hS, hcs⟩ := HR.out.at_ (by simpa using (by omega : 0 < l.length))
      injection ha with ha1 ha2 ha3
      subst ha1
      have hcell : wr.cell? (a.add k) = some (fN x) := hcs k _ (by rw [List.getElem?_map, List.getElem?_eq_getElem hlt, hx]; rfl)
      have CX := Lib.hid (C3.out x hmem)
      clear hcs hx hmem ha2 ha3
      go_wp2_with fail
      refine CX.out.mono ?_
      rintro e w2 ⟨rfl, rfl⟩
      go_wp2_with fail
      go_roundg (l.length - (k + 1))
      case measure => omega
      case rel => exact ⟨k + 1, by go_num, by omega, rfl⟩
    · obtain rfl : k = l.length := by omega
      go_wp2_with fail
      go_end0
      exact ⟨rfl, rfl⟩

set_option maxRecDepth 100000 in
theorem nwnums (v : Value) (u : Value) (l : List Nat) (w : World) (h : NoWr w v) (S : Nat → Prop) (hr : Row S w u (l.map fN)) (hn : l.length ≤ 140737488355328) :
    Calls Try.prog 31 #[v, u] w fun e w' => e = .returned (.tuple #[]) ∧ w = w' := by
  have C := Lib.hid (nwlist_num v u l w h S hr hn)
  clear h hr
  go_enter Try.func31, Try.ntmps31
  go_wp2_with fail
  refine C.out.mono ?_
  rintro e w' ⟨rfl, rfl⟩
  go_wp2_with fail
  go_end0
  exact ⟨rfl, rfl⟩

set_option maxRecDepth 100000 in
set_option maxHeartbeats 2000000 in
theorem nwlist_int (v : Value) (u : Value) (l : List Int) (w : World) (h : NoWr w v) (S : Nat → Prop) (hr : Row S w u (l.map fI)) (hn : l.length ≤ 140737488355328) :
    Calls Try.prog 64 #[v, u, .func (.func 35) #[v] #[]] w fun e w' => e = .returned (.tuple #[]) ∧ w = w' := by
  have C := Lib.hid (nwnum v (l.length : Int) w h)
  have C3 : Hid (∀ x, x ∈ l → Calls Try.prog 35 #[v, fI x] w fun e w' => e = .returned (.tuple #[]) ∧ w = w') := fun _ _ => nwint v _ w h
  obtain ⟨A, c, rfl⟩ := hr.form
  have hlen : (l.map fI).length = l.length := List.length_map _
  rw [hlen] at hr ⊢
  have HR := Lib.hid hr
  clear hr hlen h 
  go_enter Try.func64, Try.ntmps64
  go_wp2_with fail
  refine C.out.mono ?_
  rintro e w' ⟨rfl, rfl⟩
  go_wp2_with fail
  go_loopg [15] l.length (fun g s15 wx => ∃ k : Nat, s15 = .int .i64 k ∧ k + g = l.length ∧ wx = w)
  case atStart => exact ⟨0, rfl, by omega, rfl⟩
  case round =>
    obtain ⟨k, rfl, hk, rfl⟩ := hrel
    by_cases hlt : k < l.length
    · obtain ⟨x, hx⟩ : ∃ x, l[k] = x := ⟨_, rfl⟩
      have hmem : x ∈ l := by rw [← hx]; exact List.getElem_mem hlt
      obtain ⟨a, cap, ha, hab, hS, hcs⟩ := HR.out.at_ (by simpa using (by omega : 0 < l.length))
      injection ha with ha1 ha2 ha3
      subst ha1
      have hcell : wr.cell? (a.add k) = some (fI x) := hcs k _ (by rw [List.getElem?_map, List.getElem?_eq_getElem hlt, hx]; rfl)
      have CX := Lib.hid (C3.out x hmem)
      clear hcs hx hmem ha2 ha3
      go_wp2_with fail
      refine CX.out.mono ?_
      rintro e w2 ⟨rfl, rfl⟩
      go_wp2_with fail
      go_roundg (l.length - (k + 1))
      case measure => omega
      case rel => exact ⟨k + 1, by go_num, by omega, rfl⟩
    · obtain rfl : k = l.length := by omega
      go_wp2_with fail
      go_end0
      exact ⟨rfl, rfl⟩

set_option maxRecDepth 100000 in
theorem nwints (v : Value) (u : Value) (l : List Int) (w : World) (h : NoWr w v) (S : Nat → Prop) (hr : Row S w u (l.map fI)) (hn : l.length ≤ 140737488355328) :
    Calls Try.prog 32 #[v, u] w fun e w' => e = .returned (.tuple #[]) ∧ w = w' := by
  have C := Lib.hid (nwlist_int v u l w h S hr hn)
  clear h hr
  go_enter Try.func32, Try.ntmps32
  go_wp2_with fail
  refine C.out.mono ?_
  rintro e w' ⟨rfl, rfl⟩
  go_wp2_with fail
  go_end0
  exact ⟨rfl, rfl⟩

set_option maxRecDepth 100000 in
set_option maxHeartbeats 2000000 in
theorem nwlist_text (v : Value) (u : Value) (l : List ByteArray) (w : World) (h : NoWr w v) (S : Nat → Prop) (hr : Row S w u (l.map fS)) (hn : l.length ≤ 140737488355328) :
    Calls Try.prog 65 #[v, u, .func (.func 36) #[v] #[]] w fun e w' => e = .returned (.tuple #[]) ∧ w = w' := by
  have C := Lib.hid (nwnum v (l.length : Int) w h)
  have C3 : Hid (∀ x, x ∈ l → Calls Try.prog 36 #[v, fS x] w fun e w' => e = .returned (.tuple #[]) ∧ w = w') := fun _ _ => nwtext v _ w h
  obtain ⟨A, c, rfl⟩ := hr.form
  have hlen : (l.map fS).length = l.length := List.length_map _
  rw [hlen] at hr ⊢
  have HR := Lib.hid hr
  clear hr hlen h 
  go_enter Try.func65, Try.ntmps65
  go_wp2_with fail
  refine C.out.mono ?_
  rintro e w' ⟨rfl, rfl⟩
  go_wp2_with fail
  go_loopg [15] l.length (fun g s15 wx => ∃ k : Nat, s15 = .int .i64 k ∧ k + g = l.length ∧ wx = w)
  case atStart => exact ⟨0, rfl, by omega, rfl⟩
  case round =>
    obtain ⟨k, rfl, hk, rfl⟩ := hrel
    by_cases hlt : k < l.length
    · obtain ⟨x, hx⟩ : ∃ x, l[k] = x := ⟨_, rfl⟩
      have hmem : x ∈ l := by rw [← hx]; exact List.getElem_mem hlt
      obtain ⟨a, cap, ha, hab, hS, hcs⟩ := HR.out.at_ (by simpa using (by omega : 0 < l.length))
      injection ha with ha1 ha2 ha3
      subst ha1
      have hcell : wr.cell? (a.add k) = some (fS x) := hcs k _ (by rw [List.getElem?_map, List.getElem?_eq_getElem hlt, hx]; rfl)
      have CX := Lib.hid (C3.out x hmem)
      clear hcs hx hmem ha2 ha3
      go_wp2_with fail
      refine CX.out.mono ?_
      rintro e w2 ⟨rfl, rfl⟩
      go_wp2_with fail
      go_roundg (l.length - (k + 1))
      case measure => omega
      case rel => exact ⟨k + 1, by go_num, by omega, rfl⟩
    · obtain rfl : k = l.length := by omega
      go_wp2_with fail
      go_end0
      exact ⟨rfl, rfl⟩

set_option maxRecDepth 100000 in
theorem nwtexts (v : Value) (u : Value) (l : List ByteArray) (w : World) (h : NoWr w v) (S : Nat → Prop) (hr : Row S w u (l.map fS)) (hn : l.length ≤ 140737488355328) :
    Calls Try.prog 33 #[v, u] w fun e w' => e = .returned (.tuple #[]) ∧ w = w' := by
  have C := Lib.hid (nwlist_text v u l w h S hr hn)
  clear h hr
  go_enter Try.func33, Try.ntmps33
  go_wp2_with fail
  refine C.out.mono ?_
  rintro e w' ⟨rfl, rfl⟩
  go_wp2_with fail
  go_end0
  exact ⟨rfl, rfl⟩

end Go.Proofs.Ytfhceblmjahgjaa
