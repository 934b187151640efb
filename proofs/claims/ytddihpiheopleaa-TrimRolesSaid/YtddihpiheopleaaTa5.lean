/- Contract of tabs.End: the last pen, or the error. Conditions: as Pens. -/
import Derived.Test.YtddihpiheopleaaTa4
namespace Go.Proofs.Ytddihpiheopleaa.Ta
open Go.ChangeShapes Go.WideShapes Go.ChangeAt Go.RowKit Go.Shelf
open Ce
open Fo (fitV fitE)

attribute [local go_sem] Oper.semAt_some

/-- the blocks with the last pen -/
def KE (b : Nat) (v vr : Value) (x e : Int) (pre : List Int) : List (Nat × TypeId × Array Value) := (b + 5, 2, #[.int .i64 (pre.getLastD 0)]) :: KL b v vr x e
theorem ke_lt (b : Nat) (v vr : Value) (x e : Int) (pre : List Int) : ∀ y ∈ KE b v vr x e pre, y.1 < b + 6 := fun y hy => by
  simp only [KE, KL, List.mem_cons, List.not_mem_nil, or_false] at hy
  rcases hy with rfl | rfl | rfl | rfl | rfl | rfl <;> simp only <;> omega
theorem ke_set {X : World} {b : Nat} {v vr : Value} {x e e' : Int} {pre : List Int} (h : Kn X (KE b v vr x e pre)) : Kn (X.setCell ⟨b + 3, 0, none⟩ (.int .i64 e')) (KE b v vr x e' pre) := fun y hy => by
  have m : Mod (fun k => k = b + 3) X (X.setCell ⟨b + 3, 0, none⟩ (.int .i64 e')) := Mod.setCell (S := fun k => k = b + 3) (Mod.refl _ _) (.inl rfl) _
  rcases List.mem_cons.1 hy with rfl | hy
  · exact (h.at_ 0 rfl).keep m (by omega)
  · exact kl_set (fun z hz => h z (List.mem_cons_of_mem _ hz)) y hy
theorem ke_last {X : World} {b : Nat} {v vr : Value} {x e p : Int} {pre : List Int} (h : Kn X (KE b v vr x e pre)) : Kn (X.setCell ⟨b + 5, 0, none⟩ (.int .i64 p)) (KE b v vr x e (pre ++ [p])) := fun y hy => by
  have m : Mod (fun k => k = b + 5) X (X.setCell ⟨b + 5, 0, none⟩ (.int .i64 p)) := Mod.setCell (S := fun k => k = b + 5) (Mod.refl _ _) (.inl rfl) _
  rcases List.mem_cons.1 hy with rfl | hy
  · have := (h.at_ 0 rfl).set_ 0 (.int .i64 p)
    simpa using this
  · have hk := h y (List.mem_cons_of_mem _ hy)
    refine hk.keep m ?_
    simp only [KL, List.mem_cons, List.not_mem_nil, or_false] at hy
    rcases hy with rfl | rfl | rfl | rfl | rfl <;> simp only <;> omega

set_option maxRecDepth 100000 in
set_option maxHeartbeats 2000000 in
theorem end_any (l : List Cl) (rs : List Int) (x : Int) (vl vr : Value) (w : World) (hl : RwCl w vl l) (hr : RowI .u8 w vr rs) (hlen : l.length ≤ 1048576) (hx : W64 x) (ha : ∀ c ∈ l, W64 c.adv) :
    Calls Try.prog 18 #[vl, vr, .int .i64 x] w fun e w' => e = .returned (.tuple #[.int .i64 (if (pens l rs x).2 = 0 then (pens l rs x).1.getLastD 0 else 0), .int .i64 (pens l rs x).2]) ∧ Below w.heap.size w w' := by
  have HL := Lib.hid hl
  have HR := Lib.hid hr
  have HA := Lib.hid ha
  have HX := Lib.hid hx
  obtain ⟨A, cap, rfl⟩ := hl.form
  obtain ⟨A2, cap2, rfl⟩ := hr.form
  obtain ⟨m, hm⟩ : ∃ m, l.length = m := ⟨_, rfl⟩
  obtain ⟨m2, hm2⟩ : ∃ m2, rs.length = m2 := ⟨_, rfl⟩
  have HM := Lib.hid hm
  have HM2 := Lib.hid hm2
  obtain ⟨ys, E, hyE⟩ : ∃ ys E, pens l rs x = (ys, E) := ⟨_, _, rfl⟩
  have HYE := Lib.hid hyE
  rw [hyE]
  obtain ⟨yy, hyy⟩ : ∃ yy, (if E = 0 then ys.getLastD 0 else 0) = yy := ⟨_, rfl⟩
  have HYY := Lib.hid hyy
  simp only [hyy]
  rw [hm] at hlen HL ⊢
  rw [hm2] at HR ⊢
  have C := Lib.hid (pens_mk A A2 m cap m2 cap2 x w)
  clear hl hr hx ha hm hm2 hyE hyy
  refine (callsIn_wide (n := 7)).1 ?_
  refine callsIn_of_wp_marks Try.func18 rfl trivial ?_ rfl
  simp only [Try.ntmps18, List.size_toArray, List.length_cons, List.length_nil, Nat.reduceAdd, Nat.reduceSub, Array.replicate_succ, Array.replicate_zero, List.push_toArray, List.append_toArray, List.nil_append, List.cons_append]
  gi_wp2_with fail
  refine ⟨trivial, (callsIn_wide.2 C.out).mono ?_⟩
  rintro e w1 ⟨rfl, hK, hs1, b1⟩
  clear C
  gi_wp2_with fail
  have B0 := Blk.new w1 2 #[.int .i64 0]
  rw [hs1] at B0
  have b2 : Below w1.heap.size w1 (w1.alloc (.cells #[.int .i64 0] 2)) := below_alloc _ _
  have hsz : (w1.alloc (.cells #[.int .i64 0] 2)).heap.size = w.heap.size + 6 := by simp [hs1]
  obtain ⟨Wl, hWl⟩ : ∃ Wl, w1.alloc (.cells #[.int .i64 0] 2) = Wl := ⟨_, rfl⟩
  rw [hWl] at B0 b2 hsz ⊢
  have hKl : Kn Wl (KE w.heap.size (.slice A m cap) (.slice A2 m2 cap2) x 0 []) := fun y hy => by
    rcases List.mem_cons.1 hy with rfl | hy
    · exact B0
    · exact hK.below b2 y hy
  have bl : Below w.heap.size w Wl := below_seq b1 b2
  clear hWl B0 hK b1 b2 hs1
  refine rangeFunc_fin rfl (by omega) (gf := 34) (lb := #[.pointer (some ⟨w.heap.size, 0, none⟩), .pointer (some ⟨w.heap.size + 4, 0, none⟩), .pointer (some ⟨w.heap.size + 2, 0, none⟩), .pointer (some ⟨w.heap.size + 1, 0, none⟩)]) rfl trivial (enters_of Try.func34 (by kernel_rfl) rfl)
    (encs := fun p : Int => #[.int .i64 p]) (fun _ => rfl)
    (fun rdy pre X => Pk w (Wl.heap.size + 1) (KE w.heap.size (.slice A m cap) (.slice A2 m2 cap2) x 0 pre) rdy X)
    (fun rdy X => Pk w (Wl.heap.size + 1) (KE w.heap.size (.slice A m cap) (.slice A2 m2 cap2) x E ys) rdy X)
    (fun _ _ => True) (l.length + 1) (fun _ _ _ h => h.loop) (fun _ _ h => h.loop) ?round ?iter ?done
  case iter =>
    intro rdy hrd HY
    have bd : Below Wl.heap.size Wl ((Wl.alloc (.deferred (some []))).alloc rdy) := (below_alloc _ _).alloc (by simp) _
    have hL : ((Wl.alloc (.deferred (some []))).alloc rdy).heap[Wl.heap.size + 1]? = some rdy := by
      have := World.alloc_heap_new (Wl.alloc (.deferred (some []))) rdy
      rwa [World.size_alloc] at this
    have hD : ((Wl.alloc (.deferred (some []))).alloc rdy).heap[Wl.heap.size]? = some (.deferred (some [])) := (Below.heap_alloc _ _ _ (by simp)).trans (World.alloc_heap_new Wl _)
    refine pens_in _ w.heap.size (w.heap.size + 4) (w.heap.size + 2) (w.heap.size + 1) (w.heap.size + 3) (Wl.heap.size + 1) l rs x (.slice A m cap) (.slice A2 m2 cap2) _ (fun pre X => Pk w (Wl.heap.size + 1) (KE w.heap.size (.slice A m cap) (.slice A2 m2 cap2) x 0 pre) rdy X) _ (by rw [HM.out]; exact hlen) HX.out HA.out ?_ ?_ ?_ ?_ ?_
    · intro pre X Y h b
      exact h.later b
    · intro pre X h
      have k := h.kn
      exact ⟨(k.at_ 1 rfl).cell 0, (k.at_ 5 rfl).cell 0, (k.at_ 3 rfl).cell 0, (k.at_ 2 rfl).cell 0, k.at_ 4 rfl, HL.out.below h.below, HR.out.below h.below⟩
    · intro mm pre p W h hp
      exact (HY mm pre p W h hp).mono fun e W' h => ⟨h.1, h.2.1⟩
    · intro X h
      rw [HYE.out] at h ⊢
      exact h.mod (S := fun k => k = w.heap.size + 3) (Mod.setCell (S := fun k => k = w.heap.size + 3) (Mod.refl _ _) (.inl rfl) _) (fun k hk => by omega) (ke_set h.kn)
    · exact ⟨hL, hD, hKl.below bd, bl.trans (bd.mono bl.size), by simp⟩
  case round =>
    intro rdy bsy mm pre p X hr hb hP hN
    have hLX := hP.size
    gi_wp2_with fail
    refine ⟨hP.loop, ?_⟩
    have hlt := ke_lt w.heap.size (.slice A m cap) (.slice A2 m2 cap2) x 0 pre
    have P6 := hP.put bsy (by omega) (by omega) (fun y hy => by have := hlt y hy; omega)
    have c6 := (P6.kn.at_ 0 rfl).cell 0
    have f6 := (P6.kn.at_ 0 rfl).frozen 0
    have P7 := P6.mod (S := fun k => k = w.heap.size + 5) (Mod.setCell (S := fun k => k = w.heap.size + 5) (Mod.refl _ _) (.inl rfl) _) (fun k hk => by omega) (ke_last (p := p) P6.kn)
    have hlt2 := ke_lt w.heap.size (.slice A m cap) (.slice A2 m2 cap2) x 0 (pre ++ [p])
    have P8 := P7.put rdy (by omega) (by omega) (fun y hy => by have := hlt2 y hy; omega)
    have H7 := Lib.hid P7.loop
    have H8 := Lib.hid P8
    have HSZ := Lib.hid hsz
    obtain ⟨W6, hW6⟩ : ∃ W6, X.putObj (Wl.heap.size + 1) bsy = W6 := ⟨_, rfl⟩
    rw [hW6] at c6 f6 H7 H8 ⊢
    clear P6 P7 P8 hP hsz hW6 hlt hlt2 hKl
    gi_wp2
    exact ⟨H7.out, H8.out⟩
  case done =>
    intro rdy exh X hr he hP
    have hlt := ke_lt w.heap.size (.slice A m cap) (.slice A2 m2 cap2) x E ys
    have P9 := hP.put exh (by omega) (by omega) (fun y hy => by have := hlt y hy; omega)
    obtain ⟨X9, hX9⟩ : ∃ X9, X.putObj (Wl.heap.size + 1) exh = X9 := ⟨_, rfl⟩
    rw [hX9] at P9 ⊢
    have T9 := P9.taken (by omega) (fun y hy => by have := hlt y hy; omega)
    have hD9 := P9.defd
    rw [Nat.add_sub_cancel] at hD9 T9
    have cE : X9.cell? ⟨w.heap.size + 3, 0, none⟩ = some (.int .i64 E) := (P9.kn.at_ 4 rfl).cell 0
    have cV : X9.cell? ⟨w.heap.size + 5, 0, none⟩ = some (.int .i64 (ys.getLastD 0)) := (P9.kn.at_ 0 rfl).cell 0
    have HSZ := Lib.hid hsz
    have HD := Lib.hid hD9
    have HT := Lib.hid T9.2
    clear hX9 hP P9 hsz hD9 T9 hlt hKl
    obtain ⟨z, hz⟩ : ∃ z, ys.getLastD 0 = z := ⟨_, rfl⟩
    rw [hz] at cV HYY
    by_cases h0 : E = 0
    · subst h0
      obtain rfl : z = yy := HYY.out
      gi_wp2_with fail
      refine ⟨by simp, .inl ⟨_, _, rfl, run_takeDeferred (by exact HD.out), ?_⟩⟩
      exact ⟨_, results_tmp2 rfl _ _ _, rfl, HT.out⟩
    · obtain rfl : 0 = yy := by rw [← HYY.out, if_neg h0]
      gi_wp2_with fail
      refine wpIn_wide.2 ?_
      go_quiet (fail)
      gi_wp2_with fail
      refine ⟨by simp, .inl ⟨_, _, rfl, run_takeDeferred (by exact HD.out), ?_⟩⟩
      exact ⟨_, results_tmp2 rfl _ _ _, rfl, below_drewN HT.out _⟩
end Go.Proofs.Ytddihpiheopleaa.Ta
