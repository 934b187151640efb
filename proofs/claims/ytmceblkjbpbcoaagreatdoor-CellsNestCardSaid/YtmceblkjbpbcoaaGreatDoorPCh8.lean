/- Contracts of layers below. -/
import Derived.Test.YtmceblkjbpbcoaaGreatDoorPCh7
import Derived.Test.YtmceblkjbpbcoaaGreatDoorPRegK
namespace Go.Proofs.YtmceblkjbpbcoaaGreatDoor
set_option maxRecDepth 100000
set_option maxHeartbeats 16000000
open Go.ChangeShapes Go.WideShapes Go.ChangeAt Go.RowKit
section
open Wh (Cr)
open Ch
theorem add0 (g n : Nat) : (⟨g, 0, none⟩ : Addr).add n = ⟨g, n, none⟩ := by unfold Addr.add; split <;> simp_all
theorem qbt {w : World} {g : Nat} {t t' : TypeId} {c c' : Array Value} (h : Blk w g t c) (h' : Blk w g t' c') : c = c' := by
 have e : w.heap[g]? = some (.cells c t (0, 0)) := h
 have e' : w.heap[g]? = some (.cells c' t' (0, 0)) := h'
 rw [e] at e'
 injection e' with e'
 injection e'
theorem qcc {p q : Pc} (h : pcA p = pcA q) : p = q := by
 obtain ⟨f1, ⟨a1, a2, a3, a4⟩, ⟨b1, b2, b3, b4⟩, ⟨s0, s1, s2, s3, s4, s5, s6, s7, s8⟩, e1⟩ := p
 obtain ⟨f2, ⟨c1, c2, c3, c4⟩, ⟨d1, d2, d3, d4⟩, ⟨t0, t1, t2, t3, t4, t5, t6, t7, t8⟩, e2⟩ := q
 unfold pcA at h
 simp only [Array.mk.injEq, List.cons.injEq, Value.bool.injEq, Value.int.injEq, true_and, and_true] at h
 obtain ⟨rfl, rfl, rfl, rfl, rfl, rfl, rfl, rfl, rfl, rfl, rfl, rfl, rfl, rfl, rfl, rfl, rfl, rfl, rfl⟩ := h
 rfl
theorem spl_b (q : Pc) (h : Hc) : spl (pcA q) 1 (hcA h).toList = pcA { q with b := h } := by simp [spl, pcA, hcA]
theorem spl_s (q : Pc) (s : Sty) : spl (pcA q) 9 s.cells.toList = pcA { q with s := s } := by simp [spl, pcA, Sty.cells]
theorem set_e (q : Pc) (e : Bool) : (pcA q).setIfInBounds 18 (.bool e) = pcA { q with e := e } := by simp [pcA]
structure PlS (w5 : World) (gp : Nat) (hx : Hc) (W : World) : Prop where
 mod : Mod (fun j => j = gp) w5 W
 at_ : ∃ q : Pc, Blk W gp 131 (pcA q) /\ q.first = false /\ q.a = hx
def phP (gp : Nat) (hb : Hc) (s : Sty) (e : Bool) (i : Nat) (_ : Value) (W : World) : Prop := match i with
 | 17 => ∀ q : Pc, Blk W gp 131 (pcA q) -> q.b = hb
 | 19 => ∀ q : Pc, Blk W gp 131 (pcA q) -> q.s = s
 | 21 => ∀ q : Pc, Blk W gp 131 (pcA q) -> q.e = e
 | _ => True
section
variable {w5 W : World} {gp : Nat} {hx hb : Hc} {s : Sty} {e : Bool}
theorem PlS.putB (h : PlS w5 gp hx W) {o : Oper} {a : Act} (x y : Operand) (ho : o.op = .store 129 x y) (hxx : a.eval x = .pointer (some ⟨gp, 1, none⟩)) (hy : a.eval y = .agg (hcA hb)) :
 qhv Tryz.prog (PlS w5 gp hx) (fun _ _ => True) (phP gp hb s e) 17 W ((execOp a.eval o).run Tryz.prog W) := by
 obtain ⟨hm, q, hB, h1, h2⟩ := h
 have hrun := run_op_store 129 x y ho gp 1 hxx (hcA hb) hy 131 (pcA q) hB (iHc hb) (by simp [pcA, hcA]) (qux hb)
 have B := setRow_heap W gp (pcA q) (spl (pcA q) 1 (hcA hb).toList) 131 (0, 0) hB
 have B2 : Blk (W.setRow gp (spl (pcA q) 1 (hcA hb).toList)) gp 131 (pcA { q with b := hb }) := by rw [<- spl_b]; exact B
 refine .inr (.inl ⟨_, hrun, trivial, ⟨hm.trans (qai _ _ _), _, B2, h1, h2⟩, fun p hp => by rw [qcc (qbt hp B2)], fun j hj u' hf => ?_⟩)
 unfold phP at hf |-
 split at hf
 ·exact absurd rfl hj
 ·intro p hp
  have := hf q hB
  rw [qcc (qbt hp B2)]
  exact this
 ·intro p hp
  have := hf q hB
  rw [qcc (qbt hp B2)]
  exact this
 ·trivial
theorem PlS.putS (h : PlS w5 gp hx W) {o : Oper} {a : Act} (x y : Operand) (ho : o.op = .store 44 x y) (hxx : a.eval x = .pointer (some ⟨gp, 9, none⟩)) (hy : a.eval y = .agg s.cells) :
 qhv Tryz.prog (PlS w5 gp hx) (fun _ _ => True) (phP gp hb s e) 19 W ((execOp a.eval o).run Tryz.prog W) := by
 obtain ⟨hm, q, hB, h1, h2⟩ := h
 have hrun := run_op_store 44 x y ho gp 9 hxx s.cells hy 131 (pcA q) hB (by exact iS) (by simp [pcA, Sty.cells]) (quy s)
 have B := setRow_heap W gp (pcA q) (spl (pcA q) 9 s.cells.toList) 131 (0, 0) hB
 have B2 : Blk (W.setRow gp (spl (pcA q) 9 s.cells.toList)) gp 131 (pcA { q with s := s }) := by rw [<- spl_s]; exact B
 refine .inr (.inl ⟨_, hrun, trivial, ⟨hm.trans (qai _ _ _), _, B2, h1, h2⟩, fun p hp => by rw [qcc (qbt hp B2)], fun j hj u' hf => ?_⟩)
 unfold phP at hf |-
 split at hf
 ·intro p hp
  have := hf q hB
  rw [qcc (qbt hp B2)]
  exact this
 ·exact absurd rfl hj
 ·intro p hp
  have := hf q hB
  rw [qcc (qbt hp B2)]
  exact this
 ·trivial
theorem PlS.putE (h : PlS w5 gp hx W) : PostE (PlS w5 gp hx) (phP gp hb s e) 21 undef W (W.setCell ⟨gp, 18, none⟩ (.bool e)) := by
 obtain ⟨hm, q, hB, h1, h2⟩ := h
 have B2 : Blk (W.setCell ⟨gp, 18, none⟩ (.bool e)) gp 131 (pcA { q with e := e }) := by rw [<- set_e]; exact hB.set_ 18 _
 refine ⟨⟨hm.trans (Mod.setCell (S := fun j => j = gp) (Mod.refl _ _) (.inl rfl) _), _, B2, h1, h2⟩, fun p hp => by rw [qcc (qbt hp B2)], fun j hj u' hf => ?_⟩
 unfold phP at hf |-
 split at hf
 ·intro p hp
  have := hf q hB
  rw [qcc (qbt hp B2)]
  exact this
 ·intro p hp
  have := hf q hB
  rw [qcc (qbt hp B2)]
  exact this
 ·exact absurd rfl hj
 ·trivial
theorem PlS.e_at (h : PlS w5 gp hx W) : (∃ b, W.cell? ⟨gp, 18, none⟩ = some (.bool b)) /\ W.frozen? ⟨gp, 18, none⟩ = false := by
 obtain ⟨_, q, hB, _, _⟩ := h
 exact ⟨⟨q.e, hB.cell 18⟩, hB.frozen 18⟩
theorem PlS.done (h : PlS w5 gp hx W) (h1 : phP gp hb s e 17 undef W) (h2 : phP gp hb s e 19 undef W) (h3 : phP gp hb s e 21 undef W) : Blk W gp 131 (pcA ⟨false, hb, hx, s, e⟩) := by
 obtain ⟨_, ⟨f, b, a, s', e'⟩, hB, hf, ha⟩ := h
 have e1 : b = hb := h1 _ hB
 have e2 : s' = s := h2 _ hB
 have e3 : e' = e := h3 _ hB
 have e4 : f = false := hf
 have e5 : a = hx := ha
 rw [<- e1, <- e2, <- e3, <- e4, <- e5]
 exact hB
end
theorem chances_no (ss : List Sty) (l : List Cr) (rs : List Int) (v vs vr : Value) (w : World) (hR : RwC w v l) (hS : Ss w vs ss) (hI : RI w vr rs) (hlen : l.length <= 100000) (hm : mayC l ss.length rs = false) :
 Calls Tryz.prog 23 #[v, vs, vr] w fun e w' => e = .returned (.tuple #[.slice none 0 0, .int .i64 2]) /\ Below w.heap.size w w' := by
 have C := xaa (qgm l ss.length rs v vr w hR hI (by omega))
 rw [hm] at C
 obtain ⟨A2, cap2, rfl⟩ := hS.form
 clear hR hS hI hm
 go_enter Tryz.func23, Tryz.ntmps23
 go_wp2_with fail
 refine C.out.mono ?_
 rintro e w1 ⟨rfl, b1⟩
 go_wp2_with fail
 go_ret2
 exact ⟨rfl, b1⟩
theorem qou (ss : List Sty) (l : List Cr) (rs : List Int) (v vs vr : Value) (w : World) (hR : RwC w v l) (hS : Ss w vs ss) (hI : RI w vr rs) (hlen : l.length <= 100000) (hm : mayC l ss.length rs = true) :
 Calls Tryz.prog 23 #[v, vs, vr] w fun e w' => ∃ G, e = .returned (.tuple #[.slice (some ⟨G, 0, none⟩) l.length l.length, .int .i64 0]) /\ w.heap.size <= G /\ R8 w' (.slice (some ⟨G, 0, none⟩) l.length l.length) (chn ss z0 l rs) /\ Below w.heap.size w w' := by
 have C0 := xaa (qgm l ss.length rs v vr w hR hI (by omega))
 rw [hm] at C0
 obtain ⟨hml, hmc, hmr⟩ := qzs hm
 have HMR := xaa hmr
 have C1 : Hid (∀ W, Below w.heap.size w W -> _) := xaa fun W b => qop l ss v vs W (hR.below b) (hS.below b) hlen fun c hc => ⟨(hmc c hc).1, (hmc c hc).2.1⟩
 have HR := xaa hR
 have HS := xaa hS
 have HI := xaa hI
 obtain ⟨A, cap, rfl⟩ := hR.form
 obtain ⟨A2, cap2, rfl⟩ := hS.form
 obtain ⟨A3, cap3, rfl⟩ := hI.form
 obtain ⟨m, hl⟩ : ∃ m, l.length = m := ⟨_, rfl⟩
 obtain ⟨m2, hl2⟩ : ∃ m, ss.length = m := ⟨_, rfl⟩
 have HL := xaa hl
 have HL2 := xaa hl2
 have HL3 : Hid (rs.length = m) := xaa (by rw [<- hml, hl])
 rw [qig, HL3.out] at HI C0 |-
 rw [hl] at HR C0 C1 |-
 rw [hl2] at HS HMR C0 C1 |-
 have hlen2 : m <= 100000 := by omega
 have HCH : Hid ((chn ss z0 l rs).length = m) := xaa (by rw [qli ss l rs z0 hml, hl])
 obtain ⟨ga, hga⟩ : ∃ ga : Nat -> Value, ∀ j, ga j = .int .u8 ((chn ss z0 l rs).getD j 0) := ⟨_, fun _ => rfl⟩
 have HGA := xaa hga
 have HMK : Hid (∀ W : World, _) := xaa fun W => qdh (P := Tryz.prog) 73 5 (.int .u8 0) 1 Tryz.underlying73 (by kernel_rfl) (by decide) rfl m (by omega) W
 clear hR hS hI hm hml hmc hmr hl hl2 hga hlen
 go_enter Tryz.func23, Tryz.ntmps23
 go_wp2_with fail
 refine C0.out.mono ?_
 rintro e w1 ⟨rfl, b1⟩
 have bel1 := xaa b1
 clear b1 C0
 go_wp2_with fail
 refine (C1.out w1 bel1.out).mono ?_
 rintro e w2 ⟨Gr, rfl, hGr, St2, b2⟩
 have bel2 := xaa (bel1.out.trans (b2.mono bel1.out.size))
 have hgr : w.heap.size <= Gr := xau bel1.out.size hGr
 have hrow2 : qpk w2 (.slice (some ⟨Gr, 0, none⟩) m m) (l.map (hcOf ss)) := St2.hc (by rw [xao, HL.out])
 have C2 := xaa (qlk ss l _ w2 hrow2 (by rw [HL.out]; exact hlen2))
 rw [HL.out] at C2
 have HRW2 := xaa hrow2
 have hgl := St2.lt
 clear b2 hGr St2 C1 hrow2
 go_wp2_with fail
 refine C2.out.mono ?_
 rintro e w3 ⟨Gb, rfl, hGb, hB3, b3⟩
 have bel3 := xaa (bel2.out.trans (b3.mono bel2.out.size))
 have HRW3 := xaa (HRW2.out.below b3)
 have HB3 := xaa hB3
 have hs23 := b3.size
 clear b3 hB3 C2 HRW2
 go_wp2_with fail
 refine (qoo w3).mono ?_
 rintro e w4 ⟨rfl, b4⟩
 go_wp2_with (refine qab rfl rfl 126 10 rfl rfl (.tmp 26) rfl rfl _ alTbC tbC (fun _ => rfl) (fun _ => rfl) iTbC rfl (by kernel_rfl) ?_; intro w5 b5 T5; refine Mk.out ?_)
 constructor
 have b35 := xaq b4 b5
 have bel5 := bel3.out.trans (b35.mono bel3.out.size)
 have hRW5 := HRW3.out.below b35
 have hB5 := HB3.out.kb b35
 have hmk := HMK.out
 have hs35 := b35.size
 have hbl3 := HB3.out.lt
 have hs45 := b4.size
 have hT5 := T5.lt
 clear b4 b5 b35
 go_wp2_with fail
 have O6 := Blk.new w5 5 (qa0 m (fun _ => .int .u8 0))
 have b6 := xar w5 (.cells (qa0 m (fun _ => .int .u8 0)) 5)
 have hs6 : (w5.alloc (.cells (qa0 m (fun _ => .int .u8 0)) 5)).heap.size = w5.heap.size + 1 := by simp
 obtain ⟨w6, hw6⟩ : ∃ w6, w5.alloc (.cells (qa0 m (fun _ => .int .u8 0)) 5) = w6 := ⟨_, rfl⟩
 rw [hw6] at O6 b6 hs6 |-
 rw [<- qfe (.int .u8 0) ga] at O6
 have bel6 := xaa (bel5.trans (b6.mono bel5.size))
 have hRW6 := xaa (hRW5.below b6)
 have hB6 := xaa (hB5.kb b6)
 have hT6 := xaa (T5.kb b6)
 have hO6 := xaa O6
 have hs5 : w.heap.size <= w5.heap.size := bel5.size
 clear hw6 hmk b6 bel5 hRW5 hB5 T5 O6 HMK
 go_loopg [32] m (fun kx i wr => ∃ (k : Nat), i = .int .i64 k /\ k <= m /\ kx = m - k /\ Mod (fun j => j = w5.heap.size) w6 wr /\ Blk wr w5.heap.size 5 (qa0 m (upF (.int .u8 0) ga k)))
 case atStart => exact ⟨0, rfl, by omega, by omega, Mod.refl _ _, hO6.out⟩
 case round =>
  clear hO6
  obtain ⟨k, rfl, hk, rfl, hM, hO⟩ := hrel
  by_cases hlt : k < m
  ·obtain ⟨c, hc⟩ := at_ (l := l) (k := k) (by rw [HL.out]; exact hlt)
   obtain ⟨r, hr⟩ := at_ (l := rs) (k := k) (by rw [HL3.out]; exact hlt)
   have hch : (l.map (hcOf ss))[k]? = some (hcOf ss c) := by rw [xan, hc]; rfl
   have hrw := hRW6.out
   have hms := hM.size
   have hRWr : qpk wr (.slice (some ⟨Gr, 0, none⟩) m m) (l.map (hcOf ss)) := by
    rcases hrw with h | ⟨a, cp, hv, hb, hcc⟩
    ·exact .inl h
    ·refine .inr ⟨a, cp, hv, ?_, fun i x hx j u hu => ?_⟩
     ·rcases hb with hb | hb
      ·exact .inl hb
      ·exact .inr ⟨by omega, id⟩
     ·injection hv with hv1
      injection hv1 with hv1
      subst hv1
      exact (hM.cell (p := (⟨Gr, 0, none⟩ : Addr).add (i * 4 + j)) (by rw [qac]; show Gr < _; omega) (by rw [qac]; show ¬ Gr = w5.heap.size; omega)).trans (hcc i x hx j u hu)
   obtain ⟨ad, cp, o, hv, hab, ha, hLi⟩ := hRWr.get (xas) hch
   injection hv with hv1 hv2 hv3
   injection hv1 with hv1
   subst hv1 hv3
   obtain ⟨hx, hhx⟩ : ∃ x, hcOf ss c = x := ⟨_, rfl⟩
   rw [hhx] at hLi
   rw [<- ha, add0] at hLi
   have HHX := xaa hhx
   have HC := xaa hc
   have HRR := xaa hr
   have HO := xaa hO
   have hkz : (k : Int) < m := by omega
   have hOl := hO.lt
   clear hv2 hch hhx hc hr hrw hO
   go_wp2_with (first
    | (refine ldHc (o := ⟨some 36, _, _, _, _, _⟩) rfl (.tmp 35) rfl _ rfl hx hLi ?_)
    | (refine alHcV rfl rfl ?_; intro w7 b7 B7)
    | (refine stHc rfl (.tmp 13) (.tmp 36) rfl rfl _ rfl hx rfl zHc B7 ?_; intro w8 m8 B8; refine Mk.out ?_))
   constructor
   have b8 : Below wr.heap.size wr w8 := b7.trans (m8.below b7.size fun k hk => by omega)
   have L8 := B8.lies
   have hs8 := b8.size
   clear hLi b7 B7 m8
   by_cases h0 : k = 0
   ·subst h0
    go_wp2_with (first
     | (refine ldHc (o := ⟨some 39, _, _, _, _, _⟩) rfl (.tmp 13) rfl _ rfl hx L8 ?_)
     | (refine qam (o := ⟨some 40, _, _, _, _, _⟩) (by kernel_rfl) _ rfl (.agg (pcA ⟨true, zHc, hx, .zero, false⟩)) w8 (by kernel_rfl) ?_)
     | (refine nwPc (o1 := ⟨some 14, _, _, _, _, _⟩) rfl rfl 14 rfl rfl (.tmp 40) rfl rfl ⟨true, zHc, hx, .zero, false⟩ (fun _ => rfl) (fun _ => rfl) ?_; intro w9 b9 B9; refine Mk.out ?_))
    constructor
    have b09 := xaq b8 b9
    have c0 : w9.cell? ⟨w8.heap.size, 0, none⟩ = some (.bool true) := B9.cell 0
    have HO2 := xaa (HO.out.kb b09)
    have HM2 := xaa (hM.trans (xap b09))
    have HT9 := xaa ((hT6.out.keep hM (by omega)).kb b09)
    have CA : Hid (∀ W, Below w9.heap.size w9 W -> Calls Tryz.prog 44 #[.pointer (some ⟨w4.heap.size, 0, none⟩), .agg (pcA ⟨true, zHc, hx, .zero, false⟩)] W fun e w' => e = .returned (.int .u8 (frsC ⟨true, zHc, hx, .zero, false⟩ rlC)) /\ Below W.heap.size W w') := xaa fun W b => qm5 _ _ W (HT9.out.kb b)
    have LP := B9.lies
    have HV : Hid (ga 0 = .int .u8 (frsC ⟨true, zHc, hx, .zero, false⟩ rlC)) := xaa (by
     rw [HGA.out, xal, qm4 HC.out HRR.out, qog]
     rfl)
    clear L8 b8 B8 b9 B9 b09 hM HO HT9
    have hOq := HO2.out
    have hq := (hOq.cell 0).trans (qaw hlt)
    have hfz := hOq.frozen 0
    obtain ⟨x, hxx⟩ : ∃ x, upF (.int .u8 0) ga 0 0 = x := ⟨_, rfl⟩
    rw [hxx] at hq
    go_wp2_with (refine ldPc rfl (.tmp 14) rfl _ rfl ⟨true, zHc, hx, .zero, false⟩ LP ?_)
    refine (CA.out _ (xas)).mono ?_
    rintro e w12 ⟨rfl, b12⟩
    have hO12 := hOq.kb b12
    have hq := (hO12.cell 0).trans (qaw hlt)
    have hfz := hO12.frozen 0
    rw [hxx] at hq
    have HO12 := xaa hO12
    have hM12 := xaa (HM2.out.trans (xap b12))
    clear hOq hxx hO12 LP b12 CA HO2 HM2
    go_wp2_with fail
    go_roundg (m - (0 + 1))
    case measure => omega
    case rel =>
     refine ⟨0 + 1, by go_num, by omega, by first | rfl | trivial, hM12.out.setCell (.inl rfl) _, ?_⟩
     have := HO12.out.set_ 0 (.int .u8 (frsC ⟨true, zHc, hx, .zero, false⟩ rlC))
     have e := HV.out
     rw [<- e, qdb, qd1] at this
     rw [<- e]
     exact this
   ·obtain ⟨k0, hk0⟩ : ∃ k0, k = k0 + 1 := ⟨k - 1, by omega⟩
    obtain ⟨a, ha1⟩ := at_ (l := l) (k := k0) (by rw [HL.out]; omega)
    have hah : (l.map (hcOf ss))[k0]? = some (hcOf ss a) := by rw [xan, ha1]; rfl
    obtain ⟨ad2, cp2, o2, hv, hab2, ha2, hLa⟩ := hRWr.get b8 hah
    injection hv with hv1 hv2 hv3
    injection hv1 with hv1
    subst hv1 hv3
    obtain ⟨hr0, hr1⟩ := HMR.out k r (by omega) HRR.out
    obtain ⟨nd, hnd⟩ : ∃ nd : Nat, r = (nd : Int) := ⟨r.toNat, by omega⟩
    have hndl : nd < m2 := by omega
    obtain ⟨s, hs⟩ := at_ (l := ss) (k := nd) (by rw [HL2.out]; exact hndl)
    have bw6 := bel6.out
    have bwr : Below w.heap.size w wr := bw6.trans (hM.below bw6.size fun j hj => by omega)
    have bw8 := bwr.trans (b8.mono bwr.size)
    obtain ⟨adS, cps, os, hvs, habs, haS, hLs⟩ := HS.out.get bw8 hs
    rw [HL2.out] at hvs
    injection hvs with hvs1 hvs2 hvs3
    subst hvs1 hvs3
    obtain ⟨a3, cp3, hv4, hab3, _, hcell⟩ := HI.out.at_ (by rw [qig, HL3.out]; omega)
    obtain rfl : A3 = some a3 := by injection hv4
    have hcr := (bw8.cell (p := a3.add k) (by rw [qac]; exact hab3)).trans (hcell k _ (qw9 HRR.out))
    rw [hnd] at hcr
    have hst : stl ss r = s := qw2 hs hnd
    have hBr := (hB6.out.keep hM (by omega)).kb b8
    have hcb := (hBr.cell k).trans (qaw hlt)
    obtain ⟨q, hq0⟩ : ∃ q, bkF ss l k = q := ⟨_, rfl⟩
    rw [hq0] at hcb
    obtain ⟨hb, hhb⟩ : ∃ x, hcOf ss a = x := ⟨_, rfl⟩
    rw [hhb] at hLa
    rw [<- ha2, add0] at hLa
    have HV : Hid (ga k = .int .u8 (frsC ⟨false, hb, hx, s, q⟩ rlC)) := xaa (by
     have e1 := qxv (ss := ss) ha1 (by rw [<- hk0]; exact HC.out) (by rw [<- hk0]; exact HRR.out)
     rw [<- hk0] at e1
     have e2 := qss (ss := ss) HC.out
     rw [hq0] at e2
     rw [HGA.out, xal, e1, <- hhb, <- HHX.out, qz7, hst, e2]
     rfl)
    have hL8w : w8.heap.size = w8.heap.size := rfl
    have CC : Hid (∀ gp W, w8.heap.size <= gp -> Mod (fun j => j = gp) w8 W -> (qar W ⟨Gr, k0 * 4, none⟩ (hcA hb) /\ W.cell? (a3.add k) = some (.int .i64 (nd : Int)) /\ qar W (adS.add (nd * 9)) s.cells /\ W.cell? ⟨Gb, k, none⟩ = some (.bool q))) := xaa fun gp W hgp h => by
     have hsw := bw8.size
     refine ⟨?_, (h.cell (p := a3.add k) (by rw [qac]; omega) (by rw [qac]; show ¬ a3.block = gp; omega)).trans hcr, ?_, (h.cell (p := ⟨Gb, k, none⟩) hBr.lt (by show ¬ Gb = gp; have := hBr.lt; omega)).trans hcb⟩
     ·intro j u hu
      exact (h.cell (by rw [qac]; show Gr < _; omega) (by rw [qac]; show ¬ Gr = gp; omega)).trans (hLa j u hu)
     ·rw [haS]
      intro j u hu
      exact (h.cell (by rw [qac]; show adS.block < _; omega) (by rw [qac]; show ¬ adS.block = gp; omega)).trans (hLs j u hu)
    have hk0l : (k0 : Int) < m := by omega
    have hwk : IntKind.i64.wrap ((k : Int) - 1) = (k0 : Int) := (IntWalk.i64_in _ (by omega)).trans (by omega)
    have H0 : Hid (¬ (k : Int) = 0) := xaa (by omega)
    have hndz : (nd : Int) < m2 := by omega
    clear h0 hk0 hv2 hah ha1 hLa hr0 hr1 hs hLs hcr hst hBr hcb hq0 hhb hvs2 hv4 hcell hnd bwr bw6 hL8w
    go_wp2_with (first
     | (refine ldHc (o := ⟨some 39, _, _, _, _, _⟩) rfl (.tmp 13) rfl _ rfl hx L8 ?_)
     | (refine qam (o := ⟨some 40, _, _, _, _, _⟩) (by kernel_rfl) _ rfl (.agg (pcA ⟨(k : Int) == 0, zHc, hx, .zero, false⟩)) w8 (by kernel_rfl) ?_)
     | (refine nwPc (o1 := ⟨some 14, _, _, _, _, _⟩) rfl rfl 14 rfl rfl (.tmp 40) rfl rfl ⟨(k : Int) == 0, zHc, hx, .zero, false⟩ (fun _ => rfl) (fun _ => rfl) ?_; intro w9 b9 B9; refine Mk.out ?_))
    constructor
    have hbf : ((k : Int) == 0) = false := by simpa using H0.out
    rw [hbf] at B9
    clear hbf
    have b09 := xaq b8 b9
    have c0 : w9.cell? ⟨w8.heap.size, 0, none⟩ = some (.bool false) := B9.cell 0
    have hs9 := b9.size
    have HS0 : Hid (PlS w9 w8.heap.size hx w9.drew) := xaa ⟨(Mod.refl _ _).drew, _, B9.drewN 1, rfl, rfl⟩
    have CS : Hid (∀ W, PlS w9 w8.heap.size hx W -> (qar W ⟨Gr, k0 * 4, none⟩ (hcA hb) /\ W.cell? (a3.add k) = some (.int .i64 (nd : Int)) /\ qar W (adS.add (nd * 9)) s.cells /\ W.cell? ⟨Gb, k, none⟩ = some (.bool q))) := xaa fun W h => CC.out w8.heap.size W (xat) (((xap (S := fun j => j = w8.heap.size) b9)).trans h.mod)
    have HB09 := xaa b09
    have HMr := xaa hM
    clear L8 b8 B8 b9 B9 b09 hM bw8 CC
    go_wp2_with fail
    refine ql8 (by kernel_rfl) (PlS w9 w8.heap.size hx) (fun _ _ => True) (phP w8.heap.size hb s q) (fun i => i == 17 || i == 19 || i == 21) HS0.out (fun R hR => ?_)
    refine AllE.read (i := 0) (v := ?_) HS0.out (by rw [xab]; rfl) (by rfl) (by kernel_rfl) (by kernel_rfl) (by kernel_rfl) (by rfl) ?_ ?_
    rotate_left
    ·intro W hSw
     (try dsimp only at hSw)
     go_simp
     (try with_reducible rfl)
    rotate_left
    (try simp only [Act.put, xaf, xaj, xak])
    refine AllE.read (i := 1) (v := ?_) HS0.out (by rw [xab]; rfl) (by rfl) (by kernel_rfl) (by kernel_rfl) (by kernel_rfl) (by rfl) ?_ ?_
    rotate_left
    ·intro W hSw
     (try dsimp only at hSw)
     go_simp
     (try with_reducible rfl)
    rotate_left
    (try simp only [Act.put, xaf, xaj, xak])
    refine AllE.read (i := 2) (v := ?_) HS0.out (by rw [xab]; rfl) (by rfl) (by kernel_rfl) (by kernel_rfl) (by kernel_rfl) (by rfl) ?_ ?_
    rotate_left
    ·intro W hSw
     (try dsimp only at hSw)
     go_simp
     (try with_reducible rfl)
    rotate_left
    (try simp only [Act.put, xaf, xaj, xak])
    refine AllE.read (i := 3) (v := ?_) HS0.out (by rw [xab]; rfl) (by rfl) (by kernel_rfl) (by kernel_rfl) (by kernel_rfl) (by rfl) ?_ ?_
    rotate_left
    ·intro W hSw
     (try dsimp only at hSw)
     go_simp
     (try with_reducible rfl)
    rotate_left
    (try simp only [Act.put, xaf, xaj, xak])
    refine AllE.read (i := 4) (v := .agg (hcA hb)) HS0.out (by rw [xab]; rfl) (by rfl) (by kernel_rfl) (by kernel_rfl) (by kernel_rfl) (by rfl) (fun W hSw => ?_) ?_
    ·(try dsimp only at hSw)
     exact rdHc (.tmp 47) rfl _ rfl hb (CS.out W hSw).1
    (try simp only [Act.put, xaf, xaj, xak])
    refine AllE.read (i := 5) (v := ?_) HS0.out (by rw [xab]; rfl) (by rfl) (by kernel_rfl) (by kernel_rfl) (by kernel_rfl) (by rfl) ?_ ?_
    rotate_left
    ·intro W hSw
     (try dsimp only at hSw)
     go_simp
     (try with_reducible rfl)
    rotate_left
    (try simp only [Act.put, xaf, xaj, xak])
    refine AllE.read (i := 6) (v := ?_) HS0.out (by rw [xab]; rfl) (by rfl) (by kernel_rfl) (by kernel_rfl) (by kernel_rfl) (by rfl) ?_ ?_
    rotate_left
    ·intro W hSw
     (try dsimp only at hSw)
     go_simp
     (try with_reducible rfl)
    rotate_left
    (try simp only [Act.put, xaf, xaj, xak])
    refine AllE.read (i := 7) (v := ?_) HS0.out (by rw [xab]; rfl) (by rfl) (by kernel_rfl) (by kernel_rfl) (by kernel_rfl) (by rfl) ?_ ?_
    rotate_left
    ·intro W hSw
     (try dsimp only at hSw)
     go_simp
     (try with_reducible rfl)
    rotate_left
    (try simp only [Act.put, xaf, xaj, xak])
    refine AllE.read (i := 8) (v := ?_) HS0.out (by rw [xab]; rfl) (by rfl) (by kernel_rfl) (by kernel_rfl) (by kernel_rfl) (by rfl) ?_ ?_
    rotate_left
    ·intro W hSw
     (try dsimp only at hSw)
     go_simp
     (try with_reducible rfl)
    rotate_left
    (try simp only [Act.put, xaf, xaj, xak])
    refine AllE.read (i := 9) (v := ?_) HS0.out (by rw [xab]; rfl) (by rfl) (by kernel_rfl) (by kernel_rfl) (by kernel_rfl) (by rfl) ?_ ?_
    rotate_left
    ·intro W hSw
     (try dsimp only at hSw)
     have q2 := (CS.out W hSw).2.1
     go_simp
     (try with_reducible rfl)
    rotate_left
    (try simp only [Act.put, xaf, xaj, xak])
    refine AllE.read (i := 10) (v := ?_) HS0.out (by rw [xab]; rfl) (by rfl) (by kernel_rfl) (by kernel_rfl) (by kernel_rfl) (by rfl) ?_ ?_
    rotate_left
    ·intro W hSw
     (try dsimp only at hSw)
     go_simp
     (try with_reducible rfl)
    rotate_left
    (try simp only [Act.put, xaf, xaj, xak])
    refine AllE.read (i := 11) (v := .agg s.cells) HS0.out (by rw [xab]; rfl) (by rfl) (by kernel_rfl) (by kernel_rfl) (by kernel_rfl) (by rfl) (fun W hSw => ?_) ?_
    ·(try dsimp only at hSw)
     have q3 := (CS.out W hSw).2.2.1
     first | exact rdS (.tmp 54) rfl _ rfl s q3 | exact rdS (.tmp 54) rfl _ rfl s (haS ▸ q3)
    (try simp only [Act.put, xaf, xaj, xak])
    refine AllE.read (i := 12) (v := ?_) HS0.out (by rw [xab]; rfl) (by rfl) (by kernel_rfl) (by kernel_rfl) (by kernel_rfl) (by rfl) ?_ ?_
    rotate_left
    ·intro W hSw
     (try dsimp only at hSw)
     go_simp
     (try with_reducible rfl)
    rotate_left
    (try simp only [Act.put, xaf, xaj, xak])
    refine AllE.read (i := 13) (v := ?_) HS0.out (by rw [xab]; rfl) (by rfl) (by kernel_rfl) (by kernel_rfl) (by kernel_rfl) (by rfl) ?_ ?_
    rotate_left
    ·intro W hSw
     (try dsimp only at hSw)
     go_simp
     (try with_reducible rfl)
    rotate_left
    (try simp only [Act.put, xaf, xaj, xak])
    refine AllE.read (i := 14) (v := ?_) HS0.out (by rw [xab]; rfl) (by rfl) (by kernel_rfl) (by kernel_rfl) (by kernel_rfl) (by rfl) ?_ ?_
    rotate_left
    ·intro W hSw
     (try dsimp only at hSw)
     go_simp
     (try with_reducible rfl)
    rotate_left
    (try simp only [Act.put, xaf, xaj, xak])
    refine AllE.read (i := 15) (v := ?_) HS0.out (by rw [xab]; rfl) (by rfl) (by kernel_rfl) (by kernel_rfl) (by kernel_rfl) (by rfl) ?_ ?_
    rotate_left
    ·intro W hSw
     (try dsimp only at hSw)
     have q4 := (CS.out W hSw).2.2.2
     go_simp
     (try with_reducible rfl)
    rotate_left
    (try simp only [Act.put, xaf, xaj, xak])
    refine AllE.read (i := 16) (v := ?_) HS0.out (by rw [xab]; rfl) (by rfl) (by kernel_rfl) (by kernel_rfl) (by kernel_rfl) (by rfl) ?_ ?_
    rotate_left
    ·intro W hSw
     (try dsimp only at hSw)
     go_simp
     (try with_reducible rfl)
    rotate_left
    (try simp only [Act.put, xaf, xaj, xak])
    refine AllE.effect (i := 17) HS0.out (by rw [xab]; rfl) (by rfl) (by kernel_rfl) (by kernel_rfl) (by kernel_rfl) (by rfl) (fun W hSw => ?_) ?_
    ·(try dsimp only at hSw)
     exact hSw.putB (.tmp 60) (.tmp 48) rfl rfl rfl
    rintro _ -
    (try simp only [Act.put])
    refine AllE.read (i := 18) (v := ?_) HS0.out (by rw [xab]; rfl) (by rfl) (by kernel_rfl) (by kernel_rfl) (by kernel_rfl) (by rfl) ?_ ?_
    rotate_left
    ·intro W hSw
     (try dsimp only at hSw)
     go_simp
     (try with_reducible rfl)
    rotate_left
    (try simp only [Act.put, xaf, xaj, xak])
    refine AllE.effect (i := 19) HS0.out (by rw [xab]; rfl) (by rfl) (by kernel_rfl) (by kernel_rfl) (by kernel_rfl) (by rfl) (fun W hSw => ?_) ?_
    ·(try dsimp only at hSw)
     exact hSw.putS (.tmp 61) (.tmp 55) rfl rfl rfl
    rintro _ -
    (try simp only [Act.put])
    refine AllE.read (i := 20) (v := ?_) HS0.out (by rw [xab]; rfl) (by rfl) (by kernel_rfl) (by kernel_rfl) (by kernel_rfl) (by rfl) ?_ ?_
    rotate_left
    ·intro W hSw
     (try dsimp only at hSw)
     go_simp
     (try with_reducible rfl)
    rotate_left
    (try simp only [Act.put, xaf, xaj, xak])
    refine AllE.effect (i := 21) HS0.out (by rw [xab]; rfl) (by rfl) (by kernel_rfl) (by kernel_rfl) (by kernel_rfl) (by rfl) (fun W hSw => ?_) ?_
    ·(try dsimp only at hSw)
     obtain ⟨⟨b, hq⟩, hfz⟩ := hSw.e_at
     exact .inr (.inl ⟨W.setCell ⟨w8.heap.size, 18, none⟩ (.bool q), by go_simp, trivial, hSw.putE⟩)
    rintro _ -
    (try simp only [Act.put])
    refine AllE.done (by kernel_rfl) (hR.out _ _ ?_) _
    clear hR R
    intro w11 hS11 ⟨⟨⟨_, f1⟩, f2⟩, f3⟩
    have B11 := hS11.done f1 f2 f3
    have LP := B11.lies
    have hM11 := hS11.mod
    have HO2 := xaa ((HO.out.kb HB09.out).keep hM11 (by omega))
    have HM2 : Hid (Mod (fun j => j = w5.heap.size) w6 w11) := xaa ((HMr.out.trans (xap HB09.out)).seq hM11 fun i hi => .inr (by omega))
    have HT9 := xaa (((hT6.out.keep HMr.out (by omega)).kb HB09.out).keep hM11 (by omega))
    have CA : Hid (∀ W, Below w11.heap.size w11 W -> Calls Tryz.prog 44 #[.pointer (some ⟨w4.heap.size, 0, none⟩), .agg (pcA ⟨false, hb, hx, s, q⟩)] W fun e w' => e = .returned (.int .u8 (frsC ⟨false, hb, hx, s, q⟩ rlC)) /\ Below W.heap.size W w') := xaa fun W b => qm5 _ _ W (HT9.out.kb b)
    clear HB09 HMr hS11 f1 f2 f3 B11 hM11 HO HT9 CS HS0 c0
    have hOq := HO2.out
    have hq := (hOq.cell k).trans (qaw hlt)
    have hfz := hOq.frozen k
    obtain ⟨x, hxx⟩ : ∃ x, upF (.int .u8 0) ga k k = x := ⟨_, rfl⟩
    rw [hxx] at hq
    go_wp2_with (refine ldPc rfl (.tmp 14) rfl _ rfl ⟨false, hb, hx, s, q⟩ LP ?_)
    refine (CA.out _ (xas)).mono ?_
    rintro e w12 ⟨rfl, b12⟩
    have hO12 := hOq.kb b12
    have hq := (hO12.cell k).trans (qaw hlt)
    have hfz := hO12.frozen k
    rw [hxx] at hq
    have HO12 := xaa hO12
    have hM12 := xaa (HM2.out.trans (xap b12))
    clear hOq hxx hO12 LP b12 CA HO2 HM2
    go_wp2_with fail
    go_roundg (m - (k + 1))
    case measure => omega
    case rel =>
     refine ⟨k + 1, by go_num, by omega, by first | rfl | trivial, hM12.out.setCell (.inl rfl) _, ?_⟩
     have := HO12.out.set_ k (.int .u8 (frsC ⟨false, hb, hx, s, q⟩ rlC))
     have e := HV.out
     rw [<- e, qdb, qd1] at this
     rw [<- e]
     exact this
  ·obtain rfl : k = m := by omega
   have HO := xaa hO
   have bw6 := bel6.out
   have bwr := xaa (bw6.trans (hM.below bw6.size fun j hj => by omega))
   clear hO hM bw6
   go_wp2_with fail
   go_ret2
   refine ⟨w5.heap.size, rfl, hs5, ?_, bwr.out⟩
   refine qb4 HO.out (by rw [qd6, HCH.out]) fun j x hj => ?_
   unfold r8 at hj
   rw [xan] at hj
   cases hc : (chn ss z0 l rs)[j]? with
   | none => rw [hc] at hj; cases hj
   | some y =>
     rw [hc] at hj
     injection hj with hj
     have hjl := (xah hc).1
     rw [HCH.out] at hjl
     unfold upF
     rw [if_pos hjl, HGA.out, xal, hc]
     exact hj
end
end Go.Proofs.YtmceblkjbpbcoaaGreatDoor
