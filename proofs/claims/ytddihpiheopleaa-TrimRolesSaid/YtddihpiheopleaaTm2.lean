/- Contract of the closure that assigns roles in one pass over a line. Conditions: the row reads as the cells, at most 1048576; the roles lie in a block of their own; the function that is asked answers as said. -/
import Derived.Test.YtddihpiheopleaaTm1
import Derived.Test.YtddihpiheopleaaRegQ
namespace Go.Proofs.Ytddihpiheopleaa.Tm
open Go.ChangeShapes Go.WideShapes Go.ChangeAt Go.RowKit Go.Shelf
open Ce

attribute [local go_sem] Oper.semAt_some

def KR (Bl Br g n : Nat) (v : Value) (F : Nat → Int) : List (Nat × TypeId × Array Value) :=
  [(Bl, 22, #[v]), (Br, 30, #[.slice (some ⟨g, 0, none⟩) n n]), (g, 5, rolA n F)]
def KA (s pf : Nat) (k r : Int) (K : List (Nat × TypeId × Array Value)) : List (Nat × TypeId × Array Value) :=
  (s, 5, #[.int .u8 k]) :: (s + 1, 5, #[.int .u8 r]) :: (s + 2, 44, #[.func (.func pf) #[] #[]]) :: K
theorem kr_of {w : World} {Bl Br g n bi : Nat} {v : Value} {x s : Int} {F : Nat → Int} (h : Kn w (KR Bl Br g n v F ++ KI bi v x s)) : Kn w (KR Bl Br g n v F) ∧ Kn w (KI bi v x s) :=
  ⟨fun y hy => h y (List.mem_append_left _ hy), fun y hy => h y (List.mem_append_right _ hy)⟩
/-- another role is stored -/
theorem ka_set {w : World} {s pf Bl Br g n bi i : Nat} {k r x st r' : Int} {v : Value} {F G : Nat → Int} (hd : g ≠ s ∧ g ≠ s + 1 ∧ g ≠ s + 2 ∧ g ≠ Bl ∧ g ≠ Br ∧ g ≠ bi ∧ g ≠ bi + 1 ∧ g ≠ bi + 2) (hG : rolA n G = (rolA n F).setIfInBounds i (.int .u8 r'))
    (h : Kn w (KA s pf k r (KR Bl Br g n v F ++ KI bi v x st))) : Kn (w.setCell ⟨g, i, none⟩ (.int .u8 r')) (KA s pf k r (KR Bl Br g n v G ++ KI bi v x st)) := fun y hy => by
  have m : Mod (fun k => k = g) w (w.setCell ⟨g, i, none⟩ (.int .u8 r')) := Mod.setCell (S := fun k => k = g) (Mod.refl _ _) (.inl rfl) _
  simp only [KA, KR, KI, List.cons_append, List.nil_append, List.mem_cons, List.not_mem_nil, or_false] at hy
  rcases hy with rfl | rfl | rfl | rfl | rfl | rfl | rfl | rfl | rfl
  · exact (h.at_ 0 rfl).keep m (by omega)
  · exact (h.at_ 1 rfl).keep m (by omega)
  · exact (h.at_ 2 rfl).keep m (by omega)
  · exact (h.at_ 3 rfl).keep m (by omega)
  · exact (h.at_ 4 rfl).keep m (by omega)
  · have := (h.at_ 5 rfl).set_ i (.int .u8 r')
    rw [← hG] at this
    exact this
  · exact (h.at_ 6 rfl).keep m (by omega)
  · exact (h.at_ 7 rfl).keep m (by omega)
  · exact (h.at_ 8 rfl).keep m (by omega)

theorem ka_lt {M s pf Bl Br g n bi : Nat} {k r x st : Int} {v : Value} (hM : s + 2 < M ∧ Bl < M ∧ Br < M ∧ g < M ∧ bi + 2 < M) (F : Nat → Int) : ∀ y ∈ KA s pf k r (KR Bl Br g n v F ++ KI bi v x st), y.1 < M := fun y hy => by
  simp only [KA, KR, KI, List.cons_append, List.nil_append, List.mem_cons, List.not_mem_nil, or_false] at hy
  rcases hy with rfl | rfl | rfl | rfl | rfl | rfl | rfl | rfl | rfl <;> simp only <;> omega

set_option maxRecDepth 100000 in
set_option maxHeartbeats 2000000 in
theorem assign_any (pf : Nat) (a b k r : Int) (d : Bool) (l : List Cl) (A : Option Addr) (cap n Bl Br g bi : Nat) (F : Nat → Int) (w0 w : World) (hpass : passB a b k = true)
    (heg : ∀ args w, (callFunc pf args).run Try.prog w = .ok (.enter pf args) w) (hpf : ∀ z w, Calls Try.prog pf #[.int .u8 z] w fun e w' => e = .returned (.bool (passB a b z)) ∧ w = w')
    (hn : l.length = n) (hlen : n ≤ 1048576) (b0 : Below w0.heap.size w0 w) (hR : RwCl w0 (.slice A n cap) l)
    (hK : Kn w (KR Bl Br g n (.slice A n cap) F ++ KI bi (.slice A n cap) (atV d n) (stV d))) (hg : w0.heap.size ≤ g) (hd : g ≠ Bl ∧ g ≠ Br ∧ g ≠ bi ∧ g ≠ bi + 1 ∧ g ≠ bi + 2) :
    Calls Try.prog 23 #[.int .u8 k, .int .u8 r, itV bi, .func (.func pf) #[] #[], .pointer (some ⟨Bl, 0, none⟩), .pointer (some ⟨Br, 0, none⟩)] w fun e w' => (∃ v, e = .returned v) ∧ Kn w' (KR Bl Br g n (.slice A n cap) (fun i => if kAt l i = k ∧ reach a b l d i = true then r else F i)) ∧ Below w0.heap.size w0 w' ∧ w.heap.size ≤ w'.heap.size := by
  have HP := Lib.hid hpf
  have HR := Lib.hid hR
  have HN := Lib.hid hn
  have HK := Lib.hid hK
  have HB0 := Lib.hid b0
  have HPS := Lib.hid hpass
  have hgl := (hK.at_ 2 rfl).lt
  have hBl := (hK.at_ 0 rfl).lt
  have hBr := (hK.at_ 1 rfl).lt
  have hbi := (hK.at_ 5 rfl).lt
  have hw0 := b0.size
  have HD : Hid (w0.heap.size ≤ g ∧ w0.heap.size ≤ w.heap.size ∧ g < w.heap.size ∧ Bl < w.heap.size ∧ Br < w.heap.size ∧ bi + 2 < w.heap.size ∧ g ≠ Bl ∧ g ≠ Br ∧ g ≠ bi ∧ g ≠ bi + 1 ∧ g ≠ bi + 2) := Lib.hid (by exact ⟨hg, hw0, hgl, hBl, hBr, hbi, hd⟩)
  clear hpf hR hn hK b0 hpass hgl hBl hBr hbi hw0 hg hd
  refine (callsIn_wide (n := 7)).1 ?_
  refine callsIn_of_wp_marks Try.func23 rfl trivial ?_ rfl
  simp only [Try.ntmps23, List.size_toArray, List.length_cons, List.length_nil, Nat.reduceAdd, Nat.reduceSub, Array.replicate_succ, Array.replicate_zero, List.push_toArray, List.append_toArray, List.nil_append, List.cons_append]
  gi_wp2_with fail
  have K0 := Blk.new w 5 #[.int .u8 k]
  have K1 := Blk.new (w.alloc (.cells #[.int .u8 k] 5)) 5 #[.int .u8 r]
  have K2 := Blk.new ((w.alloc (.cells #[.int .u8 k] 5)).alloc (.cells #[.int .u8 r] 5)) 44 #[.func (.func pf) #[] #[]]
  simp only [World.size_alloc] at K1 K2
  have b1 : Below w.heap.size w (((w.alloc (.cells #[.int .u8 k] 5)).alloc (.cells #[.int .u8 r] 5)).alloc (.cells #[.func (.func pf) #[] #[]] 44)) := ((below_alloc _ _).alloc (by simp) _).alloc (by simp; omega) _
  have hs1 : (((w.alloc (.cells #[.int .u8 k] 5)).alloc (.cells #[.int .u8 r] 5)).alloc (.cells #[.func (.func pf) #[] #[]] 44)).heap.size = w.heap.size + 3 := by simp
  have K0 := (K0.alloc (.cells #[.int .u8 r] 5)).alloc (.cells #[.func (.func pf) #[] #[]] 44)
  have K1 := K1.alloc (.cells #[.func (.func pf) #[] #[]] 44)
  obtain ⟨Wl, hWl⟩ : ∃ Wl, (((w.alloc (.cells #[.int .u8 k] 5)).alloc (.cells #[.int .u8 r] 5)).alloc (.cells #[.func (.func pf) #[] #[]] 44)) = Wl := ⟨_, rfl⟩
  rw [hWl] at K0 K1 K2 b1 hs1 ⊢
  have hKA : Kn Wl (KA w.heap.size pf k r (KR Bl Br g n (.slice A n cap) F ++ KI bi (.slice A n cap) (atV d n) (stV d))) := fun y hy => by
    rcases List.mem_cons.1 hy with rfl | hy
    · exact K0
    rcases List.mem_cons.1 hy with rfl | hy
    · exact K1
    rcases List.mem_cons.1 hy with rfl | hy
    · exact K2
    exact (HK.out.below b1) y hy
  have hKA0 : Kn Wl (KA w.heap.size pf k r (KR Bl Br g n (.slice A n cap) (upK k r l d 0 F) ++ KI bi (.slice A n cap) (atV d n) (stV d))) := by
    have e := upK_zero k r l d F
    rw [HN.out] at e
    unfold KR at hKA ⊢
    rw [e]
    exact hKA
  have bl : Below w0.heap.size w0 Wl := HB0.out.trans (b1.mono HB0.out.size)
  have HS1 := Lib.hid hs1
  clear hWl K0 K1 K2 hKA hs1
  refine rangeFunc_stop rfl (by omega) (gf := 32) (lb := #[.pointer (some ⟨bi + 1, 0, none⟩), .pointer (some ⟨bi, 0, none⟩), .pointer (some ⟨bi + 2, 0, none⟩)]) rfl trivial (enters_of Try.func32 (by kernel_rfl) rfl)
    (encs := fun x : Nat => #[.int .i64 (x : Int)]) (fun _ => rfl)
    (fun rdy pre X => Pk w0 (Wl.heap.size + 1) (KA w.heap.size pf k r (KR Bl Br g n (.slice A n cap) (upK k r l d pre.length F) ++ KI bi (.slice A n cap) (atV d n) (stV d))) rdy X ∧ pre.length ≤ n ∧ ∀ j, j < pre.length → passB a b (kAt l (pos d n j)) = true)
    (fun rdy X => Pk w0 (Wl.heap.size + 1) (KA w.heap.size pf k r (KR Bl Br g n (.slice A n cap) (fun i => if kAt l i = k ∧ reach a b l d i = true then r else F i) ++ KI bi (.slice A n cap) (atV d n) (stV d))) rdy X)
    (fun rdy X => Pk w0 (Wl.heap.size + 1) (KA w.heap.size pf k r (KR Bl Br g n (.slice A n cap) (fun i => if kAt l i = k ∧ reach a b l d i = true then r else F i) ++ KI bi (.slice A n cap) (atV d n) (stV d))) rdy X)
    (fun pre x => pre.length < n ∧ x = pos d n pre.length) (fun _ _ _ h => h.1.loop) (fun _ _ h => h.loop) (fun _ _ h => h.loop) ?round ?iter ?done ?left
  case iter =>
    intro rdy dn hrd hdn HY
    have bd : Below Wl.heap.size Wl ((Wl.alloc (.deferred (some []))).alloc rdy) := (below_alloc _ _).alloc (by simp) _
    have hL : ((Wl.alloc (.deferred (some []))).alloc rdy).heap[Wl.heap.size + 1]? = some rdy := by
      have := World.alloc_heap_new (Wl.alloc (.deferred (some []))) rdy
      rwa [World.size_alloc] at this
    have hD : ((Wl.alloc (.deferred (some []))).alloc rdy).heap[Wl.heap.size]? = some (.deferred (some [])) := (Below.heap_alloc _ _ _ (by simp)).trans (World.alloc_heap_new Wl _)
    refine cells_in _ bi (Wl.heap.size + 1) d n cap A _ (fun pre X => Pk w0 (Wl.heap.size + 1) (KA w.heap.size pf k r (KR Bl Br g n (.slice A n cap) (upK k r l d pre.length F) ++ KI bi (.slice A n cap) (atV d n) (stV d))) rdy X ∧ pre.length ≤ n ∧ ∀ j, j < pre.length → passB a b (kAt l (pos d n j)) = true) _ _ hlen ?_ ?_ HY ?_ ?_
    · intro pre Y Z h b
      exact ⟨h.1.later b, h.2⟩
    · intro pre Y h y hy
      exact h.1.kn y (List.mem_cons_of_mem _ (List.mem_cons_of_mem _ (List.mem_cons_of_mem _ (List.mem_append_right _ hy))))
    · intro pre Y hp h
      obtain ⟨h1, _, h3⟩ := h
      have e := upK_end (r := r) (F := F) (l := l) (m := pre.length) HPS.out (by rw [HN.out]; omega) (by rw [HN.out]; exact h3) (.inl (by rw [HN.out]; exact hp))
      rw [HN.out] at e
      unfold KR at h1 ⊢
      rw [← e]
      exact h1
    · exact ⟨⟨hL, hD, hKA0.below bd, bl.trans (bd.mono bl.size), by simp⟩, Nat.zero_le _, fun j hj => absurd hj (Nat.not_lt_zero _)⟩
  case round =>
    intro rdy bsy dn mm pre x X hr hb hdn hI hG
    obtain ⟨hP, hpn, hpp⟩ := hI
    obtain ⟨hpl, hx⟩ := hG
    obtain ⟨p, hp⟩ : ∃ p, pre.length = p := ⟨_, rfl⟩
    rw [List.length_append, List.length_singleton]
    rw [hp] at hP hpn hpp hpl hx ⊢
    have hxn : x < n := by rw [hx]; exact pos_lt hpl
    obtain ⟨c, hc⟩ : ∃ c, l[x]? = some c := ⟨_, List.getElem?_eq_getElem (by rw [HN.out]; exact hxn)⟩
    obtain ⟨z, hz⟩ : ∃ z, passB a b c.k = z := ⟨_, rfl⟩
    have HX := Lib.hid hx
    have HPL := Lib.hid hpl
    have HZ := Lib.hid hz
    have HP0 := Lib.hid hp
    have HC := Lib.hid hc
    clear hx hpl hz hp hc
    gi_wp2_with fail
    refine ⟨hP.loop, ?_⟩
    have hlt := ka_lt (M := Wl.heap.size) (s := w.heap.size) (pf := pf) (k := k) (r := r) (Bl := Bl) (Br := Br) (g := g) (n := n) (bi := bi) (x := atV d n) (st := stV d) (v := .slice A n cap) (by have := HD.out; have := HS1.out; omega)
    have hLw : w0.heap.size ≤ Wl.heap.size := bl.size
    have P6 := hP.put bsy (by omega) (by omega) (fun y hy => by have := hlt _ y hy; omega)
    obtain ⟨X6, hX6⟩ : ∃ X6, X.putObj (Wl.heap.size + 1) bsy = X6 := ⟨_, rfl⟩
    rw [hX6] at P6 ⊢
    have c0 : X6.cell? ⟨w.heap.size, 0, none⟩ = some (.int .u8 k) := (P6.kn.at_ 0 rfl).cell 0
    have c1 : X6.cell? ⟨w.heap.size + 1, 0, none⟩ = some (.int .u8 r) := (P6.kn.at_ 1 rfl).cell 0
    have c2 : X6.cell? ⟨w.heap.size + 2, 0, none⟩ = some (.func (.func pf) #[] #[]) := (P6.kn.at_ 2 rfl).cell 0
    have c3 : X6.cell? ⟨Bl, 0, none⟩ = some (.slice A n cap) := (P6.kn.at_ 3 rfl).cell 0
    have c4 : X6.cell? ⟨Br, 0, none⟩ = some (.slice (some ⟨g, 0, none⟩) n n) := (P6.kn.at_ 4 rfl).cell 0
    obtain ⟨ad, cap2, o, hv, hab, hadr, hLi⟩ := (HR.out.below P6.below).get (Below.refl _ _) HC.out
    rw [HN.out] at hv
    injection hv with hv1 hv2 hv3
    subst hv1 hv3
    have c5 : X6.cell? ⟨ad.block, o, none⟩ = some (.int .u8 c.k) := by have := hLi 0 _ rfl; rwa [Addr.add_lit] at this
    have hK6 : Hid (∀ W, Below X6.heap.size X6 W → W.cell? ⟨w.heap.size, 0, none⟩ = some (.int .u8 k) ∧ W.cell? ⟨w.heap.size + 1, 0, none⟩ = some (.int .u8 r) ∧ W.cell? ⟨w.heap.size + 2, 0, none⟩ = some (.func (.func pf) #[] #[]) ∧ W.cell? ⟨Bl, 0, none⟩ = some (.slice (some ad) n cap) ∧ W.cell? ⟨Br, 0, none⟩ = some (.slice (some ⟨g, 0, none⟩) n n) ∧ W.cell? ⟨ad.block, o, none⟩ = some (.int .u8 c.k)) := Lib.hid fun W b => by
      refine ⟨?_, ?_, ?_, ?_, ?_, ?_⟩ <;> first
        | exact (b.cell (World.block_lt_of_cell? _ _ c0)).trans c0
        | exact (b.cell (World.block_lt_of_cell? _ _ c1)).trans c1
        | exact (b.cell (World.block_lt_of_cell? _ _ c2)).trans c2
        | exact (b.cell (World.block_lt_of_cell? _ _ c3)).trans c3
        | exact (b.cell (World.block_lt_of_cell? _ _ c4)).trans c4
        | exact (b.cell (World.block_lt_of_cell? _ _ c5)).trans c5
    have hxz : (x : Int) < n := by omega
    have HP6 := Lib.hid P6
    have HPP := Lib.hid hpp
    have HLT := Lib.hid hlt
    have HLW : Hid (w0.heap.size ≤ Wl.heap.size) := Lib.hid hLw
    have hkc := kAt_of HC.out
    have HKC := Lib.hid hkc
    have HB : Hid (bsy.isCells = false) := Lib.hid hb
    have HDN : Hid (dn.isCells = false) := Lib.hid hdn
    have HRD : Hid (rdy.isCells = false) := Lib.hid hr
    obtain ⟨ck, hck⟩ : ∃ q, c.k = q := ⟨_, rfl⟩
    rw [hck] at hK6 HZ HKC
    have CP : Hid (∀ W, Calls Try.prog pf #[.int .u8 ck] W fun e w' => e = .returned (.bool z) ∧ W = w') := Lib.hid fun W => by
      have := HP.out ck W
      rwa [HZ.out] at this
    clear P6 hpp hlt hLw hkc hb hdn hr hP hX6 hab hLi hv2 c0 c1 c2 c3 c4 c5 HC hck hKA0
    cases z with
    | false =>
      gi_wp2_with fail
      refine region_anyIn (by kernel_rfl) (fun W => Below X6.heap.size X6 W) (below_drewN (Below.refl _ _) 1) (by kernel_rfl) (fun R hR => ?_)
      refine AllS.start ?_
      iterate 6
        refine AllS.rq (v := ?_) ?_ ?_
        rotate_left
        · intro W hSw
          (try dsimp only at hSw)
          obtain ⟨c0, c1, c2, c3, c4, c5⟩ := hK6.out W hSw
          go_simp
          (try with_reducible rfl)
        rotate_left
        (try simp only [Act.put, List.setIfInBounds_toArray, List.set_cons_zero, List.set_cons_succ])
      refine AllS.tq (v := .bool false) (by rw [List.getElem?_toArray]; rfl) (by kernel_rfl) (by kernel_rfl) (by kernel_rfl) (by kernel_rfl) (KeepsIf.call pf #[.int .u8 ck] (by kernel_rfl) (fun W => ?_) (fun W hSw => ?_)) ?_
      · go_simp
      · (try dsimp only at hSw)
        exact (CP.out W).mono (by rintro e w' ⟨rfl, rfl⟩; exact ⟨rfl, hSw⟩)
      (try simp only [Act.put, List.setIfInBounds_toArray, List.set_cons_zero, List.set_cons_succ])
      refine AllS.rq (v := ?_) ?_ ?_
      rotate_left
      · intro W hSw
        (try dsimp only at hSw)
        go_simp
        (try with_reducible rfl)
      rotate_left
      (try simp only [Act.put, List.setIfInBounds_toArray, List.set_cons_zero, List.set_cons_succ])
      refine AllS.done (by kernel_rfl) (hR.out _ ?_) _
      clear hR R
      intro W7 hb7
      gi_wp2_with fail
      have P7 := HP6.out.later hb7
      have e := upK_end (r := r) (F := F) (d := d) (l := l) (m := p) HPS.out (by have := HPL.out; have := HN.out; omega) (by rw [HN.out]; exact HPP.out) (.inr (by rw [HN.out, ← HX.out, HKC.out]; exact HZ.out))
      rw [HN.out] at e
      refine ⟨P7.loop, ?_⟩
      unfold KR at P7 ⊢
      rw [e] at P7
      exact P7.put dn (by have := HLW.out; omega) (by omega) (fun y hy => by have := HLT.out _ y hy; omega)
    | true =>
      gi_wp2_with fail
      refine region_anyIn (by kernel_rfl) (fun W => Below X6.heap.size X6 W) (below_drewN (Below.refl _ _) 1) (by kernel_rfl) (fun R hR => ?_)
      refine AllS.start ?_
      iterate 6
        refine AllS.rq (v := ?_) ?_ ?_
        rotate_left
        · intro W hSw
          (try dsimp only at hSw)
          obtain ⟨c0, c1, c2, c3, c4, c5⟩ := hK6.out W hSw
          go_simp
          (try with_reducible rfl)
        rotate_left
        (try simp only [Act.put, List.setIfInBounds_toArray, List.set_cons_zero, List.set_cons_succ])
      refine AllS.tq (v := .bool true) (by rw [List.getElem?_toArray]; rfl) (by kernel_rfl) (by kernel_rfl) (by kernel_rfl) (by kernel_rfl) (KeepsIf.call pf #[.int .u8 ck] (by kernel_rfl) (fun W => ?_) (fun W hSw => ?_)) ?_
      · go_simp
      · (try dsimp only at hSw)
        exact (CP.out W).mono (by rintro e w' ⟨rfl, rfl⟩; exact ⟨rfl, hSw⟩)
      (try simp only [Act.put, List.setIfInBounds_toArray, List.set_cons_zero, List.set_cons_succ])
      refine AllS.rq (v := ?_) ?_ ?_
      rotate_left
      · intro W hSw
        (try dsimp only at hSw)
        go_simp
        (try with_reducible rfl)
      rotate_left
      (try simp only [Act.put, List.setIfInBounds_toArray, List.set_cons_zero, List.set_cons_succ])
      refine AllS.done (by kernel_rfl) (hR.out _ ?_) _
      clear hR R
      intro W7 hb7
      have hxpos : ∀ j, j < p + 1 → passB a b (kAt l (pos d n j)) = true := fun j hj => by
        rcases Nat.lt_or_ge j p with h | h
        · exact HPP.out j h
        · obtain rfl : j = p := by omega
          rw [← HX.out, HKC.out]
          exact HZ.out
      have HXP := Lib.hid hxpos
      clear hxpos
      by_cases hk : ck = k
      · have HKK := Lib.hid hk
        subst hk
        gi_wp2_with fail
        refine region_anyIn (by kernel_rfl) (fun W => Below W7.heap.size W7 W) (below_drewN (Below.refl _ _) 1) (by kernel_rfl) (fun R hR => ?_)
        refine AllS.start ?_
        iterate 6
          refine AllS.rq (v := ?_) ?_ ?_
          rotate_left
          · intro W hSw
            (try dsimp only at hSw)
            obtain ⟨c0, c1, c2, c3, c4, c5⟩ := hK6.out W (below_seq hb7 hSw)
            go_simp
            (try with_reducible rfl)
          rotate_left
          (try simp only [Act.put, List.setIfInBounds_toArray, List.set_cons_zero, List.set_cons_succ])
        refine AllS.rq (v := .bool true) (fun W hSw => ?_) ?_
        · (try dsimp only at hSw)
          have hkk := HKK.out
          go_simp
        (try simp only [Act.put, List.setIfInBounds_toArray, List.set_cons_zero, List.set_cons_succ])
        refine AllS.done (by kernel_rfl) (hR.out _ ?_) _
        clear hR R
        intro W8 hb8
        obtain ⟨c0, c1, c2, c3, c4, c5⟩ := hK6.out W8 (below_seq hb7 hb8)
        have P8 := HP6.out.later (below_seq hb7 hb8)
        obtain ⟨v6, c6⟩ : ∃ v, W8.cell? ⟨g, x, none⟩ = some v := ⟨_, ((P8.kn.at_ 5 rfl).cell x).trans (by unfold rolA; exact rowV_get hxn)⟩
        have f6 := (P8.kn.at_ 5 rfl).frozen x
        have e := upK_set (k := ck) (r := r) (F := F) (d := d) (l := l) (m := p) (by rw [HN.out]; exact HPL.out) (by rw [HN.out, ← HX.out]; exact HKC.out)
        rw [HN.out, ← HX.out] at e
        have hds := HD.out
        have P9 := P8.mod (S := fun j => j = g) (Mod.setCell (S := fun j => j = g) (Mod.refl _ _) (p := ⟨g, x, none⟩) (.inl rfl) (.int .u8 r)) (fun j hj => by have := HS1.out; omega) (ka_set (by omega) e P8.kn)
        have H9 := Lib.hid P9
        clear P8 e hds P9
        gi_wp2_with fail
        exact ⟨H9.out.loop, H9.out.put rdy (by have := HLW.out; omega) (by omega) (fun y hy => by have := HLT.out _ y hy; omega), HPL.out, HXP.out⟩
      · have HKK := Lib.hid hk
        gi_wp2_with fail
        refine region_anyIn (by kernel_rfl) (fun W => Below W7.heap.size W7 W) (below_drewN (Below.refl _ _) 1) (by kernel_rfl) (fun R hR => ?_)
        refine AllS.start ?_
        iterate 6
          refine AllS.rq (v := ?_) ?_ ?_
          rotate_left
          · intro W hSw
            (try dsimp only at hSw)
            obtain ⟨c0, c1, c2, c3, c4, c5⟩ := hK6.out W (below_seq hb7 hSw)
            go_simp
            (try with_reducible rfl)
          rotate_left
          (try simp only [Act.put, List.setIfInBounds_toArray, List.set_cons_zero, List.set_cons_succ])
        refine AllS.rq (v := .bool false) (fun W hSw => ?_) ?_
        · (try dsimp only at hSw)
          have hkk := HKK.out
          go_simp
        (try simp only [Act.put, List.setIfInBounds_toArray, List.set_cons_zero, List.set_cons_succ])
        refine AllS.done (by kernel_rfl) (hR.out _ ?_) _
        clear hR R
        intro W8 hb8
        have P8 := HP6.out.later (below_seq hb7 hb8)
        have e := upK_keep (k := k) (r := r) (F := F) (d := d) (l := l) (m := p) (by rw [HN.out]; exact HPL.out) (by rw [HN.out, ← HX.out, HKC.out]; exact HKK.out)
        rw [HN.out] at e
        have P9 : Pk w0 (Wl.heap.size + 1) (KA w.heap.size pf k r (KR Bl Br g n (.slice (some ad) n cap) (upK k r l d (p + 1) F) ++ KI bi (.slice (some ad) n cap) (atV d n) (stV d))) bsy W8 := by
          unfold KR at P8 ⊢
          rw [e]
          exact P8
        have H9 := Lib.hid P9
        clear P8 e P9
        gi_wp2_with fail
        exact ⟨H9.out.loop, H9.out.put rdy (by have := HLW.out; omega) (by omega) (fun y hy => by have := HLT.out _ y hy; omega), HPL.out, HXP.out⟩
  case done =>
    intro rdy exh X hr he hP
    have hlt := ka_lt (M := Wl.heap.size) (s := w.heap.size) (pf := pf) (k := k) (r := r) (Bl := Bl) (Br := Br) (g := g) (n := n) (bi := bi) (x := atV d n) (st := stV d) (v := .slice A n cap) (by have := HD.out; have := HS1.out; omega)
    have hLw : w0.heap.size ≤ Wl.heap.size := bl.size
    have P9 := hP.put exh (by omega) (by omega) (fun y hy => by have := hlt _ y hy; omega)
    obtain ⟨X9, hX9⟩ : ∃ X9, X.putObj (Wl.heap.size + 1) exh = X9 := ⟨_, rfl⟩
    rw [hX9] at P9 ⊢
    have T9 := P9.taken (by omega) (fun y hy => by have := hlt _ y hy; omega)
    have hD9 := P9.defd
    rw [Nat.add_sub_cancel] at hD9 T9
    have hsz : w.heap.size ≤ X9.heap.size := by have := P9.size; have := HS1.out; omega
    have HSZ := Lib.hid hsz
    have HDF := Lib.hid hD9
    have HT := Lib.hid T9
    clear hX9 hP P9 hsz hD9 T9 hKA0 hlt hLw
    gi_wp2_with fail
    refine ⟨by simp, .inl ⟨_, _, rfl, run_takeDeferred (by exact HDF.out), ?_⟩⟩
    exact ⟨_, results_none rfl _ _ _, ⟨_, rfl⟩, fun y hy => HT.out.1 y (List.mem_cons_of_mem _ (List.mem_cons_of_mem _ (List.mem_cons_of_mem _ (List.mem_append_left _ hy)))), HT.out.2, by have := HSZ.out; simpa [World.putObj] using this⟩
  case left =>
    intro rdy exh X hr he hP
    have hlt := ka_lt (M := Wl.heap.size) (s := w.heap.size) (pf := pf) (k := k) (r := r) (Bl := Bl) (Br := Br) (g := g) (n := n) (bi := bi) (x := atV d n) (st := stV d) (v := .slice A n cap) (by have := HD.out; have := HS1.out; omega)
    have hLw : w0.heap.size ≤ Wl.heap.size := bl.size
    have P9 := hP.put exh (by omega) (by omega) (fun y hy => by have := hlt _ y hy; omega)
    obtain ⟨X9, hX9⟩ : ∃ X9, X.putObj (Wl.heap.size + 1) exh = X9 := ⟨_, rfl⟩
    rw [hX9] at P9 ⊢
    have T9 := P9.taken (by omega) (fun y hy => by have := hlt _ y hy; omega)
    have hD9 := P9.defd
    rw [Nat.add_sub_cancel] at hD9 T9
    have hsz : w.heap.size ≤ X9.heap.size := by have := P9.size; have := HS1.out; omega
    have HSZ := Lib.hid hsz
    have HDF := Lib.hid hD9
    have HT := Lib.hid T9
    clear hX9 hP P9 hsz hD9 T9 hKA0 hlt hLw
    gi_wp2_with fail
    refine ⟨by simp, .inl ⟨_, _, rfl, run_takeDeferred (by exact HDF.out), ?_⟩⟩
    exact ⟨_, results_none rfl _ _ _, ⟨_, rfl⟩, fun y hy => HT.out.1 y (List.mem_cons_of_mem _ (List.mem_cons_of_mem _ (List.mem_cons_of_mem _ (List.mem_append_left _ hy)))), HT.out.2, by have := HSZ.out; simpa [World.putObj] using this⟩
end Go.Proofs.Ytddihpiheopleaa.Tm
