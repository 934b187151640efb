/- Contract of trim.Roles: each cell's role, in a block of its own. Conditions: the slice reads as the row, at most 1048576 cells. -/
import Derived.Test.YtddihpiheopleaaTm2
namespace Go.Proofs.Ytddihpiheopleaa.Tm
open Go.ChangeShapes Go.WideShapes Go.ChangeAt Go.RowKit Go.Shelf
open Ce

theorem kr_app {w w' : World} {Bl Br g n bi : Nat} {v : Value} {x s : Int} {F : Nat → Int} (h : Kn w (KR Bl Br g n v F)) (b : Below w.heap.size w w') (k : Kn w' (KI bi v x s)) : Kn w' (KR Bl Br g n v F ++ KI bi v x s) := fun y hy => by
  rcases List.mem_append.1 hy with hy | hy
  · exact h.below b y hy
  · exact k y hy

set_option maxRecDepth 100000 in
set_option maxHeartbeats 2000000 in
theorem roles_any (l : List Cl) (v : Value) (w : World) (hR : RwCl w v l) (hlen : l.length ≤ 1048576) :
    Calls Try.prog 13 #[v] w fun e w' => ∃ g, e = .returned (.slice (some ⟨g, 0, none⟩) l.length l.length) ∧ w.heap.size ≤ g ∧ Blk w' g 5 (rolA l.length (rol3 l)) ∧ Below w.heap.size w w' := by
  have HR := Lib.hid hR
  obtain ⟨A, cap, rfl⟩ := hR.form
  obtain ⟨n, hn⟩ : ∃ n, l.length = n := ⟨_, rfl⟩
  have HN := Lib.hid hn
  rw [hn] at HR hlen ⊢
  clear hR hn
  have hmk : ∀ W, (Instr.makeSlice 30 (.int .i64 (n : Int)) (.int .i64 (n : Int))).run Try.prog W = .ok (.slice (some ⟨W.heap.size, 0, none⟩) n n) (W.alloc (.cells (rolA n (fun _ => 0)) 5)) := fun W =>
    make_one 30 5 (.int .u8 0) 1 Try.underlying30 (by kernel_rfl) (by decide) rfl n hlen W
  go_enter Try.func13, Try.ntmps13
  go_wp2_with fail
  have K0 := Blk.new w 22 #[.slice A n cap]
  have K1 := Blk.new (w.alloc (.cells #[.slice A n cap] 22)) 5 (rolA n fun _ => 0)
  have K2 := Blk.new ((w.alloc (.cells #[.slice A n cap] 22)).alloc (.cells (rolA n fun _ => 0) 5)) 30 #[.slice (some ⟨w.heap.size + 1, 0, none⟩) n n]
  simp only [World.size_alloc] at K1 K2
  have b1 : Below w.heap.size w (((w.alloc (.cells #[.slice A n cap] 22)).alloc (.cells (rolA n fun _ => 0) 5)).alloc (.cells #[.slice (some ⟨w.heap.size + 1, 0, none⟩) n n] 30)) := ((below_alloc _ _).alloc (by simp) _).alloc (by simp; omega) _
  have K0 := (K0.alloc (.cells (rolA n fun _ => 0) 5)).alloc (.cells #[.slice (some ⟨w.heap.size + 1, 0, none⟩) n n] 30)
  have K1 := K1.alloc (.cells #[.slice (some ⟨w.heap.size + 1, 0, none⟩) n n] 30)
  obtain ⟨w1, hw1⟩ : ∃ w1, ((w.alloc (.cells #[.slice A n cap] 22)).alloc (.cells (rolA n fun _ => 0) 5)).alloc (.cells #[.slice (some ⟨w.heap.size + 1, 0, none⟩) n n] 30) = w1 := ⟨_, rfl⟩
  rw [hw1] at K0 K1 K2 b1 ⊢
  have k1 : Kn w1 (KR w.heap.size (w.heap.size + 1 + 1) (w.heap.size + 1) n (.slice A n cap) fun _ => 0) := fun y hy => by
    simp only [KR, List.mem_cons, List.not_mem_nil, or_false] at hy
    rcases hy with rfl | rfl | rfl
    · exact K0
    · exact K2
    · exact K1
  have s1 := K2.lt
  clear hw1 K0 K1 K2 hmk
  refine (cells_mk A n cap 0 1 w1).mono ?_
  rintro e w2 ⟨rfl, ki, hs, bi⟩
  have ks := kr_app k1 bi ki
  have bs := b1.trans (bi.mono b1.size)
  go_wp2_with fail
  refine (assign_any 25 1 1 1 1 true l A cap n w.heap.size (w.heap.size + 1 + 1) (w.heap.size + 1) w1.heap.size _ w w2 (by decide) (enters_of Try.func25 (by kernel_rfl) rfl) space_any HN.out hlen bs HR.out ks (by omega) (by omega)).mono ?_
  rintro e w3 ⟨⟨u0, rfl⟩, k2, b2, s2⟩
  have s2 : w.heap.size + 1 + 1 < w3.heap.size := by omega
  have c0 : w3.cell? ⟨w.heap.size, 0, none⟩ = some (.slice A n cap) := (k2.at_ 0 rfl).cell 0
  have c1 : w3.cell? ⟨w.heap.size + 1 + 1, 0, none⟩ = some (.slice (some ⟨w.heap.size + 1, 0, none⟩) n n) := (k2.at_ 1 rfl).cell 0
  clear ki hs bi ks bs k1 b1 s1
  go_wp2_with fail
  refine (cells_mk A n cap ((n : Int) - 1) (-1) w3).mono ?_
  rintro e w4 ⟨rfl, ki, hs, bi⟩
  have ks := kr_app k2 bi ki
  have bs := b2.trans (bi.mono b2.size)
  go_wp2_with fail
  refine (assign_any 25 1 1 1 1 false l A cap n w.heap.size (w.heap.size + 1 + 1) (w.heap.size + 1) w3.heap.size _ w w4 (by decide) (enters_of Try.func25 (by kernel_rfl) rfl) space_any HN.out hlen bs HR.out ks (by omega) (by omega)).mono ?_
  rintro e w5 ⟨⟨u1, rfl⟩, k3, b3, s3⟩
  have s3 : w.heap.size + 1 + 1 < w5.heap.size := by omega
  have c0 : w5.cell? ⟨w.heap.size, 0, none⟩ = some (.slice A n cap) := (k3.at_ 0 rfl).cell 0
  have c1 : w5.cell? ⟨w.heap.size + 1 + 1, 0, none⟩ = some (.slice (some ⟨w.heap.size + 1, 0, none⟩) n n) := (k3.at_ 1 rfl).cell 0
  clear ki hs bi ks bs k2 b2 s2
  go_wp2_with fail
  refine (cells_mk A n cap ((n : Int) - 1) (-1) w5).mono ?_
  rintro e w6 ⟨rfl, ki, hs, bi⟩
  have ks := kr_app k3 bi ki
  have bs := b3.trans (bi.mono b3.size)
  go_wp2_with fail
  refine (assign_any 26 1 2 2 2 false l A cap n w.heap.size (w.heap.size + 1 + 1) (w.heap.size + 1) w5.heap.size _ w w6 (by decide) (enters_of Try.func26 (by kernel_rfl) rfl) white_any HN.out hlen bs HR.out ks (by omega) (by omega)).mono ?_
  rintro e w7 ⟨⟨u2, rfl⟩, k4, b4, s4⟩
  have s4 : w.heap.size + 1 + 1 < w7.heap.size := by omega
  have c0 : w7.cell? ⟨w.heap.size, 0, none⟩ = some (.slice A n cap) := (k4.at_ 0 rfl).cell 0
  have c1 : w7.cell? ⟨w.heap.size + 1 + 1, 0, none⟩ = some (.slice (some ⟨w.heap.size + 1, 0, none⟩) n n) := (k4.at_ 1 rfl).cell 0
  clear ki hs bi ks bs k3 b3 s3
  go_wp2_with fail
  go_ret
  exact ⟨_, rfl, by omega, k4.at_ 2 rfl, b4⟩
end Go.Proofs.Ytddihpiheopleaa.Tm
