/- Slices of nodes that read as lists; contracts of the document's Above, Depth, End, Context, Common. Conditions: the nodes lie where the slice says, they are a tree, at most 1000 of them. -/
import Derived.Test.YtgpobhnonjdamaaDoorAr1
import Derived.Test.YtgpobhnonjdamaaDoorYRows
import Derived.Test.YtgpobhnonjdamaaDoorYV
namespace Go.Proofs.YtgpobhnonjdamaaDoor
open Go.ChangeShapes Go.WideShapes Go.ChangeAt Go.RowKit

/-- v is a slice of nodes that reads as l -/
def Ns (w : World) (v : Value) (l : List Nod) : Prop := RowN 22 (fun _ => False) w v (l.map fun s => s.cells.toList)
theorem Ns.below {w w' : World} {v : Value} {l : List Nod} (h : Ns w v l) (b : Below w.heap.size w w') : Ns w' v l := RowN.below h b
theorem Ns.form {w : World} {v : Value} {l : List Nod} (h : Ns w v l) : ∃ A c, v = .slice A l.length c := by
  have := RowN.form h
  rwa [List.length_map] at this
theorem Ns.get {w wx : World} {v : Value} {l : List Nod} (h : Ns w v l) (b : Below w.heap.size w wx) {i : Nat} {s : Nod} (hi : l[i]? = some s) :
    ∃ a cap o, v = .slice (some a) l.length cap ∧ a.block < w.heap.size ∧ a.add (i * 22) = ⟨a.block, o, none⟩ ∧ Lies wx ⟨a.block, o, none⟩ s.cells := by
  obtain ⟨a, cap, o, hv, hb, _, ha, hc⟩ := RowN.get h b (x := s.cells.toList) (by rw [List.getElem?_map, hi]; rfl) (by simp [Nod.cells])
  rw [List.length_map] at hv
  exact ⟨a, cap, o, hv, hb, ha, lies_of rfl hc⟩
theorem Lies.at_ {w : World} {g o : Nat} {cs : Array Value} (h : Lies w ⟨g, o, none⟩ cs) (j : Nat) {v : Value} (hv : cs[j]? = some v) : w.cell? ⟨g, o + j, none⟩ = some v := by
  have := h j v hv
  rwa [show (⟨g, o, none⟩ : Addr).add j = ⟨g, o + j, none⟩ by unfold Addr.add; split <;> simp_all] at this
theorem Lies.p {w : World} {g o : Nat} {x : Nod} (h : Lies w ⟨g, o, none⟩ x.cells) : w.cell? ⟨g, o + 1, none⟩ = some (.int .i64 x.p) := h.at_ 1 rfl
theorem Lies.k {w : World} {g o : Nat} {x : Nod} (h : Lies w ⟨g, o, none⟩ x.cells) : w.cell? ⟨g, o, none⟩ = some (.int .u8 x.k) := h.at_ 0 rfl
theorem Lies.t {w : World} {g o : Nat} {x : Nod} (h : Lies w ⟨g, o, none⟩ x.cells) : w.cell? ⟨g, o + 2, none⟩ = some (.string x.t) := h.at_ 2 rfl
theorem Lies.d {w : World} {g o : Nat} {x : Nod} (h : Lies w ⟨g, o, none⟩ x.cells) : Lies w ⟨g, o + 3, none⟩ x.d.cells := fun j v hv => by
  rw [show (⟨g, o + 3, none⟩ : Addr).add j = ⟨g, o + (3 + j), none⟩ by unfold Addr.add; split <;> simp_all; omega]
  exact h.at_ (3 + j) (nod_d x j v hv)
theorem at_of {l : List Nod} {i : Nat} (h : i < l.length) : ∃ x, l[i]? = some x := ⟨_, List.getElem?_eq_getElem h⟩
theorem par_bd {l : List Nod} (h : Tre (psOf l)) {i : Nat} {x : Nod} (hi : l[i]? = some x) : -1 ≤ x.p ∧ x.p < i := by
  have hil : i < (psOf l).length := by rw [psOf_len]; exact (List.getElem?_eq_some_iff.1 hi).1
  have hp := pr_of hi
  rcases Nat.eq_zero_or_pos i with rfl | h0
  · have := h.root; omega
  · have := h.par i h0 hil; omega
theorem abv_step {ps : List Int} {a c : Nat} (h : c ≠ a) : Abv ps a c ↔ 0 ≤ pr ps c ∧ Abv ps a (pr ps c).toNat := ⟨fun h1 => h1.parent (Ne.symm h), fun ⟨h0, h1⟩ => .up h0 h1⟩
theorem abv_non {ps : List Int} {a c : Nat} (h : c ≠ a) (h0 : pr ps c < 0) : ¬ Abv ps a c := fun h1 => by have := ((abv_step h).1 h1).1; omega

set_option maxRecDepth 100000 in
set_option maxHeartbeats 2000000 in
theorem rabove_any (l : List Nod) (v : Value) (a b : Nat) (B : Bool) (w : World) (hR : Ns w v l) (hT : Tre (psOf l)) (_hn : l.length ≤ 1000) (hb : b < l.length) (hB : B = true ↔ Abv (psOf l) a b) :
    Calls Tryd.prog 29 #[v, .int .i64 (a : Int), .int .i64 (b : Int)] w fun e w' => e = .returned (.bool B) ∧ w = w' := by
  have HR := Lib.hid hR
  have HT := Lib.hid hT
  have HB := Lib.hid hB
  obtain ⟨A, cap, rfl⟩ := hR.form
  obtain ⟨n, hl⟩ : ∃ n, l.length = n := ⟨_, rfl⟩
  have HL := Lib.hid hl
  rw [hl] at hb HR ⊢
  clear hR hT hB hl
  go_enter Tryd.func29, Tryd.ntmps29
  go_wp2_with fail
  go_loopg [2] (b + 1) (fun kx s2 wr => w = wr ∧ ∃ c : Int, s2 = .int .i64 c ∧ -1 ≤ c ∧ c < n ∧ kx = (c + 1).toNat ∧ Hid (B = true ↔ 0 ≤ c ∧ Abv (psOf l) a c.toNat))
  case atStart => exact ⟨rfl, b, rfl, by omega, by omega, by omega, Lib.hid (HB.out.trans ⟨fun h => ⟨by omega, by simpa using h⟩, fun h => by simpa using h.2⟩)⟩
  case round =>
    obtain ⟨rfl, c, rfl, h1, h2, rfl, HI⟩ := hrel
    clear HB
    by_cases h0 : 0 ≤ c
    · obtain ⟨k, rfl⟩ : ∃ k : Nat, c = k := ⟨c.toNat, by omega⟩
      by_cases he : k = a
      · subst he
        obtain rfl : B = true := HI.out.2 ⟨h0, by rw [Int.toNat_natCast]; exact .refl⟩
        clear HI
        go_wp2_with fail
        go_ret
        exact ⟨rfl, rfl⟩
      · have hne : ¬ (k : Int) = (a : Int) := by omega
        have hkl : k < l.length := by rw [HL.out]; omega
        obtain ⟨x, hx⟩ := at_of hkl
        obtain ⟨q1, q2⟩ := par_bd HT.out hx
        obtain ⟨ad, cap2, o, hv, _, ha, hLi⟩ := HR.out.get (Below.refl _ _) hx
        injection hv with hv1 hv2 hv3
        subst hv1 hv3
        have hc := hLi.p
        have hpr := pr_of hx
        have HN : Hid (B = true ↔ 0 ≤ x.p ∧ Abv (psOf l) a x.p.toNat) := by
          have := HI.out
          rw [Int.toNat_natCast] at this
          refine Lib.hid (this.trans ⟨fun h => ?_, fun h => ⟨h0, ?_⟩⟩)
          · rw [← hpr]; exact (abv_step he).1 h.2
          · exact (abv_step he).2 (by rw [hpr]; exact h)
        obtain ⟨p, hp⟩ : ∃ p, x.p = p := ⟨_, rfl⟩
        rw [hp] at q1 q2 hc HN
        clear HI hv2 hLi hpr hx hp
        go_wp2_with fail
        go_roundg ((p + 1).toNat)
        case measure => omega
        case rel => exact ⟨rfl, p, rfl, q1, by omega, rfl, HN⟩
    · obtain rfl : c = -1 := by omega
      have hb : B = false := by
        cases B with
        | false => rfl
        | true => have := (HI.out.1 rfl).1; omega
      subst hb
      have hne : ¬ (-1 : Int) = (a : Int) := by omega
      clear HI
      go_wp2_with fail
      go_ret
      exact ⟨rfl, rfl⟩

set_option maxRecDepth 100000 in
set_option maxHeartbeats 2000000 in
theorem rdepth_any (l : List Nod) (v : Value) (b : Nat) (w : World) (hR : Ns w v l) (hT : Tre (psOf l)) (hn : l.length ≤ 1000) (hb : b < l.length) :
    Calls Tryd.prog 17 #[v, .int .i64 (b : Int)] w fun e w' => e = .returned (.int .i64 (dep (psOf l) b : Nat)) ∧ w = w' := by
  have HR := Lib.hid hR
  have HT := Lib.hid hT
  obtain ⟨A, cap, rfl⟩ := hR.form
  obtain ⟨n, hl⟩ : ∃ n, l.length = n := ⟨_, rfl⟩
  have HL := Lib.hid hl
  have hd := dep_le hT b
  obtain ⟨D, hD⟩ : ∃ D, dep (psOf l) b = D := ⟨_, rfl⟩
  have HD := Lib.hid hD
  rw [hl] at hn hb HR ⊢
  rw [hD] at hd ⊢
  clear hR hT hl hD
  go_enter Tryd.func17, Tryd.ntmps17
  go_wp2_with fail
  go_loopg [1, 5] (b + 1) (fun kx s1 s5 wr => w = wr ∧ ∃ c d : Nat, s1 = .int .i64 c ∧ s5 = .int .i64 d ∧ c < n ∧ d ≤ D ∧ kx = c + 1 ∧ Hid (d + dep (psOf l) c = D))
  case atStart => exact ⟨rfl, b, 0, rfl, rfl, hb, by omega, rfl, Lib.hid (by rw [HD.out]; omega)⟩
  case round =>
    obtain ⟨rfl, c, d, rfl, rfl, h1, h2, rfl, HI⟩ := hrel
    clear HD
    have hkl : c < l.length := by rw [HL.out]; omega
    obtain ⟨x, hx⟩ := at_of hkl
    obtain ⟨q1, q2⟩ := par_bd HT.out hx
    obtain ⟨ad, cap2, o, hv, _, ha, hLi⟩ := HR.out.get (Below.refl _ _) hx
    injection hv with hv1 hv2 hv3
    subst hv1 hv3
    have hc := hLi.p
    have HPR := Lib.hid (pr_of hx)
    obtain ⟨p, hp⟩ : ∃ p, x.p = p := ⟨_, rfl⟩
    rw [hp] at q1 q2 hc HPR
    clear hv2 hLi hx hp
    by_cases h0 : 0 ≤ p
    · obtain ⟨k, rfl⟩ : ∃ k : Nat, p = k := ⟨p.toNat, by omega⟩
      have hs := dep_step HT.out (n := c) (by rw [HPR.out]; exact h0)
      rw [HPR.out, Int.toNat_natCast] at hs
      have hi := HI.out
      have HI' : Hid (d + 1 + dep (psOf l) k = D) := Lib.hid (by omega)
      have hd2 : d + 1 ≤ D := by omega
      clear HI hs hi
      go_wp2_with fail
      go_roundg (k + 1)
      case measure => omega
      case rel => exact ⟨rfl, k, d + 1, rfl, by go_num, by omega, hd2, rfl, HI'⟩
    · have hs : dep (psOf l) c = 0 := by unfold dep; rw [ups_root (by rw [HPR.out]; omega)]; rfl
      have hi := HI.out
      obtain rfl : d = D := by omega
      clear HI hs hi HPR
      go_wp2_with fail
      go_ret
      exact ⟨rfl, rfl⟩

set_option maxRecDepth 100000 in
set_option maxHeartbeats 2000000 in
theorem rend_any (l : List Nod) (v : Value) (b e : Nat) (w : World) (hR : Ns w v l) (hT : Tre (psOf l)) (hn : l.length ≤ 1000) (hE : EndOf (psOf l) b e) :
    Calls Tryd.prog 18 #[v, .int .i64 (b : Int)] w fun r w' => r = .returned (.int .i64 (e : Int)) ∧ w = w' := by
  have CA : Hid (∀ (k : Nat) (B : Bool), k < l.length → (B = true ↔ Abv (psOf l) b k) → Calls Tryd.prog 29 #[v, .int .i64 (b : Int), .int .i64 (k : Int)] w fun e w' => e = .returned (.bool B) ∧ w = w') := fun k B hk hB => rabove_any l v b k B w hR hT hn hk hB
  have HE := Lib.hid hE
  obtain ⟨A, cap, rfl⟩ := hR.form
  obtain ⟨n, hl⟩ : ∃ n, l.length = n := ⟨_, rfl⟩
  have h1 := hE.lt
  have h2 := hE.le
  rw [psOf_len] at h2
  have HN : Hid (e < l.length → ¬ Abv (psOf l) b e) := fun h => hE.non (by rw [psOf_len]; exact h)
  rw [hl] at hn h2 CA HN ⊢
  clear hR hT hE hl
  go_enter Tryd.func18, Tryd.ntmps18
  go_wp2_with fail
  go_loopg [5] (e - (b + 1)) (fun kx s5 wr => w = wr ∧ ∃ k : Nat, s5 = .int .i64 k ∧ b < k ∧ k ≤ e ∧ kx = e - k)
  case atStart => exact ⟨rfl, b + 1, by go_num, by omega, by omega, rfl⟩
  case round =>
    obtain ⟨rfl, k, rfl, h3, h4, rfl⟩ := hrel
    by_cases hlt : k < e
    · have CB := Lib.hid (CA.out k true (by omega) ⟨fun _ => HE.out.all k (by omega) hlt, fun _ => rfl⟩)
      have hz : (k : Int) < n := by omega
      clear CA HE HN
      go_wp2_with fail
      refine CB.out.mono ?_
      rintro r w2 ⟨rfl, rfl⟩
      go_wp2_with fail
      go_roundg (e - (k + 1))
      case measure => omega
      case rel => exact ⟨rfl, k + 1, by go_num, by omega, by omega, rfl⟩
    · obtain rfl : k = e := by omega
      by_cases hkn : k < n
      · have CB := Lib.hid (CA.out k false (by omega) ⟨fun h => (by cases h), fun h => absurd h (HN.out hkn)⟩)
        have hz : (k : Int) < n := by omega
        clear CA HE HN
        go_wp2_with fail
        refine CB.out.mono ?_
        rintro r w2 ⟨rfl, rfl⟩
        go_wp2_with fail
        go_ret
        exact ⟨rfl, rfl⟩
      · obtain rfl : k = n := by omega
        clear CA HE HN
        go_wp2_with fail
        go_ret
        exact ⟨rfl, rfl⟩

set_option maxRecDepth 100000 in
set_option maxHeartbeats 2000000 in
theorem rcommon_any (l : List Nod) (v : Value) (a b : Nat) (w : World) (hR : Ns w v l) (hT : Tre (psOf l)) (hn : l.length ≤ 1000) (ha : a < l.length) (hb : b < l.length) :
    Calls Tryd.prog 22 #[v, .int .i64 (a : Int), .int .i64 (b : Int)] w fun e w' => ∃ c : Nat, e = .returned (.int .i64 (c : Int)) ∧ Com (psOf l) a b c ∧ w = w' := by
  have CA : Hid (∀ (k : Nat) (B : Bool), (B = true ↔ Abv (psOf l) k b) → Calls Tryd.prog 29 #[v, .int .i64 (k : Int), .int .i64 (b : Int)] w fun e w' => e = .returned (.bool B) ∧ w = w') := fun k B hB => rabove_any l v k b B w hR hT hn hb hB
  have HR := Lib.hid hR
  have HT := Lib.hid hT
  obtain ⟨A, cap, rfl⟩ := hR.form
  obtain ⟨n, hl⟩ : ∃ n, l.length = n := ⟨_, rfl⟩
  have HL := Lib.hid hl
  rw [hl] at hn ha hb CA HR ⊢
  clear hR hT hl
  go_enter Tryd.func22, Tryd.ntmps22
  go_wp2_with fail
  go_loopg [1] (a + 1) (fun kx s1 wr => w = wr ∧ ∃ k : Nat, s1 = .int .i64 k ∧ k < n ∧ kx = k + 1 ∧ Hid (∀ c, Com (psOf l) k b c → Com (psOf l) a b c))
  case atStart => exact ⟨rfl, a, rfl, ha, rfl, Lib.hid fun _ h => h⟩
  case round =>
    obtain ⟨rfl, k, rfl, h1, rfl, HI⟩ := hrel
    by_cases hab : Abv (psOf l) k b
    · have CB := Lib.hid (CA.out k true ⟨fun _ => hab, fun _ => rfl⟩)
      have FIN := Lib.hid (HI.out k (Com.self hab))
      clear CA HI hab
      go_wp2_with fail
      refine CB.out.mono ?_
      rintro r w2 ⟨rfl, rfl⟩
      go_wp2_with fail
      go_ret
      exact ⟨k, rfl, FIN.out, rfl⟩
    · have CB := Lib.hid (CA.out k false ⟨fun h => (by cases h), fun h => absurd h hab⟩)
      have hkl : k < l.length := by rw [HL.out]; omega
      obtain ⟨x, hx⟩ := at_of hkl
      have hpr := pr_of hx
      have h0 : 0 ≤ x.p := by
        rcases Nat.eq_zero_or_pos k with rfl | hk
        · exact absurd (Abv.root HT.out b (by rw [psOf_len, HL.out]; exact hb)) hab
        · have := (HT.out.par k hk (by rw [psOf_len]; exact hkl)).1
          omega
      obtain ⟨q1, q2⟩ := par_bd HT.out hx
      obtain ⟨ad, cap2, o, hv, _, hadd, hLi⟩ := HR.out.get (Below.refl _ _) hx
      injection hv with hv1 hv2 hv3
      subst hv1 hv3
      have hc := hLi.p
      have HI' : Hid (∀ c, Com (psOf l) x.p.toNat b c → Com (psOf l) a b c) := Lib.hid fun c h => HI.out c (Com.up (by rw [hpr]; exact h0) hab (by rw [hpr]; exact h))
      obtain ⟨p, hp⟩ : ∃ p, x.p = p := ⟨_, rfl⟩
      rw [hp] at q1 q2 hc HI' h0
      obtain ⟨m, rfl⟩ : ∃ m : Nat, p = m := ⟨p.toNat, by omega⟩
      rw [Int.toNat_natCast] at HI'
      clear CA HI hv2 hLi hpr hx hp hab q1
      go_wp2_with fail
      refine CB.out.mono ?_
      rintro r w2 ⟨rfl, rfl⟩
      go_wp2_with fail
      go_roundg (m + 1)
      case measure => omega
      case rel => exact ⟨rfl, m, rfl, by omega, rfl, HI'⟩

/-- the document's Context, from a node up -/
theorem ctx_step {l : List Nod} (hT : Tre (psOf l)) {c k : Nat} (hp : pr (psOf l) c = (k : Int)) : ctx l c = if tb tLines (kindAt l (k : Int)) then k else ctx l k := by
  unfold ctx ctxF
  rw [ups_step hT (by omega), hp, Int.toNat_natCast, List.find?_cons]
  cases tb tLines (kindAt l (k : Int)) <;> rfl

set_option maxRecDepth 100000 in
set_option maxHeartbeats 2000000 in
theorem rctx_any (l : List Nod) (v : Value) (b : Nat) (w : World) (hR : Ns w v l) (hT : Tre (psOf l)) (_hn : l.length ≤ 1000) (hb : b < l.length) (hk8 : ∀ (i : Nat) (x : Nod), l[i]? = some x → 0 ≤ x.k ∧ x.k ≤ 8) :
    Calls Tryd.prog 21 #[v, .int .i64 (b : Int)] w fun e w' => e = .returned (.int .i64 (ctx l b : Nat)) ∧ w = w' := by
  have HR := Lib.hid hR
  have HT := Lib.hid hT
  have H8 := Lib.hid hk8
  obtain ⟨A, cap, rfl⟩ := hR.form
  obtain ⟨n, hl⟩ : ∃ n, l.length = n := ⟨_, rfl⟩
  have HL := Lib.hid hl
  obtain ⟨D, hD⟩ : ∃ D, ctx l b = D := ⟨_, rfl⟩
  have HD := Lib.hid hD
  rw [hl] at hb HR ⊢
  rw [hD]
  clear hR hT hl hD hk8
  go_enter Tryd.func21, Tryd.ntmps21
  go_wp2_with fail
  go_loopg [1] (b + 1) (fun kx s1 wr => w = wr ∧ ∃ c : Nat, s1 = .int .i64 c ∧ c < n ∧ kx = c + 1 ∧ Hid (ctx l c = D))
  case atStart => exact ⟨rfl, b, rfl, hb, rfl, HD⟩
  case round =>
    obtain ⟨rfl, c, rfl, h1, rfl, HI⟩ := hrel
    clear HD
    have hkl : c < l.length := by rw [HL.out]; omega
    obtain ⟨x, hx⟩ := at_of hkl
    have HPR := Lib.hid (pr_of hx)
    obtain ⟨ad, cap2, o, hv, _, ha, hLi⟩ := HR.out.get (Below.refl _ _) hx
    injection hv with hv1 hv2 hv3
    subst hv1 hv3
    have hc := hLi.p
    by_cases h0 : 0 < c
    · obtain ⟨q1, q2, _⟩ := HT.out.par c h0 (by rw [psOf_len]; exact hkl)
      rw [HPR.out] at q1 q2
      obtain ⟨p, hp⟩ : ∃ p, x.p = p := ⟨_, rfl⟩
      rw [hp] at q1 q2 hc HPR
      obtain ⟨k, rfl⟩ : ∃ k : Nat, p = k := ⟨p.toNat, by omega⟩
      have hkl2 : k < l.length := by omega
      obtain ⟨y, hy⟩ := at_of hkl2
      obtain ⟨ad2, cap3, o2, hv, _, ha2, hLi2⟩ := HR.out.get (Below.refl _ _) hy
      injection hv with hv1 hv4 hv3
      injection hv1 with hv1
      subst hv1 hv3
      have hc2 := hLi2.k
      have hst := ctx_step HT.out HPR.out
      have hky : kindAt l (k : Int) = y.k := by unfold kindAt; rw [List.getD_eq_getElem?_getD, Int.toNat_natCast, hy]; rfl
      obtain ⟨k0, k8⟩ := H8.out k y hy
      have hln := lines_iff k0 k8
      rw [hky, hln] at hst
      rw [HI.out] at hst
      obtain ⟨z, hz⟩ : ∃ z, y.k = z := ⟨_, rfl⟩
      rw [hz] at hc2 hst k0 k8
      have hcz : (0 : Int) < c := by omega
      have HST := Lib.hid hst
      clear hst HI hv2 hv4 hLi hLi2 HPR hx hy hp hky hln hz
      by_cases hz0 : z = 0
      · subst hz0
        have := HST.out
        simp at this
        subst this
        clear HST
        go_wp2_with fail
        go_ret
        exact ⟨rfl, rfl⟩
      · by_cases hz4 : 4 ≤ z
        · have := HST.out
          simp [hz4] at this
          subst this
          clear HST
          go_wp2_with fail
          go_ret
          exact ⟨rfl, rfl⟩
        · have HI' : Hid (ctx l k = D) := by
            have := HST.out
            simp [hz4, hz0] at this
            exact Lib.hid this.symm
          clear HST
          go_wp2_with fail
          go_roundg (k + 1)
          case measure => omega
          case rel => exact ⟨rfl, k, rfl, by omega, rfl, HI'⟩
    · obtain rfl : c = 0 := by omega
      have hD0 : D = 0 := by
        rw [← HI.out]
        unfold ctx
        rw [ups_root (by rw [HT.out.root]; omega)]
        rfl
      subst hD0
      clear HI HPR hv2 hLi hx hc
      go_wp2_with fail
      go_ret
      exact ⟨rfl, rfl⟩
end Go.Proofs.YtgpobhnonjdamaaDoor
