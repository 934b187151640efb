/- Contracts of layers below. -/
import Derived.Test.YtmceblkjbpbcoaaGreatDoorPBase
import Derived.Test.YtmceblkjbpbcoaaGreatDoorPCePut
import Derived.Test.YtmceblkjbpbcoaaGreatDoorPRegJ
import Derived.BigQuiet
namespace Go.Proofs.YtmceblkjbpbcoaaGreatDoor
set_option maxRecDepth 100000
set_option maxHeartbeats 16000000
open Go.ChangeShapes Go.WideShapes Go.ChangeAt Go.RowKit
namespace Ce
open Go.Shelf
open Wh (Cr)
theorem alBn (w : World) : (Instr.alloc 78 true (.tuple #[])).run Tryz.prog w = .ok (.pointer (some ⟨w.heap.size, 0, none⟩)) (w.alloc (.cells #[.int .u8 0, .nilFunc] 78)) := by kernel_rfl
theorem iBn (a b : Value) : (Tryz.prog.info? 78).map (·.size) = some (#[a, b] : Array Value).size := by kernel_rfl
theorem oneBn (k : Nat) (F : Nat) (B1 L1 : Array Value) : (#[.int .u8 (k : Int), .func (.func F) B1 L1] : Array Value).all (·.oneCell') = true := by kernel_rfl
theorem rowA_k (c h : Value) (f : Nat -> Value) (nx : Nat) (wt : Int) (o : Value) {k : Nat} (hk : k <= 6) : (qde c h f nx wt o)[2 + k * 2]? = some (f (2 * k)) /\ (qde c h f nx wt o)[2 + k * 2 + 1]? = some (f (2 * k + 1)) :=
 match k, hk with
 | 0, _ => ⟨rfl, rfl⟩
 | 1, _ => ⟨rfl, rfl⟩
 | 2, _ => ⟨rfl, rfl⟩
 | 3, _ => ⟨rfl, rfl⟩
 | 4, _ => ⟨rfl, rfl⟩
 | 5, _ => ⟨rfl, rfl⟩
 | 6, _ => ⟨rfl, rfl⟩
theorem wpOp_call {P : Program} {ops : Array Oper} {Q : Exit -> Act -> World -> Prop} {i f : Nat} {o : Oper} {a : Act} {w : World} {K : Act -> World -> Prop} {args : Array Value} (hi : ops[i]? = some o) (hg : o.guard = none) (hr : (execOp a.eval o).run P w = .ok (.enter f args) w)
 (hc : Calls P f args w fun e w' => ∃ u, e = .returned u /\ K (a.put o.dst u) w') : Go.wpOp P ops Q i K a w := by
 refine qbh hi hg ?_
 simp only [Oper.wp, hr, Oper.upon]
 refine Calls.mono hc ?_
 rintro e w'' ⟨u, rfl, h⟩
 exact h
theorem qpp {P : Program} {ops : Array Oper} {Q : Exit -> Act -> World -> Prop} {i : Nat} {o : Oper} {a : Act} {w w' : World} {K : Act -> World -> Prop} (hi : ops[i]? = some o) (hg : o.guard = none) (hd : o.dst = none) (hr : (execOp a.eval o).run P w = .ok .skip w') (h : K a w') : Go.wpOp P ops Q i K a w := by
 refine qbh hi hg ?_
 unfold Oper.wp
 rw [hr]
 show K (a.put o.dst undef) _
 rw [hd]
 exact h
def Fv (k : Nat) (mv : Value) (P : Nat) (F : Nat) (B1 L1 : Array Value) : Prop :=
 (k <= 3 /\ F = 45 /\ B1 = #[mv] /\ L1 = #[]) \/ (k = 4 /\ F = 46 /\ B1 = #[mv] /\ L1 = #[]) \/ (k = 5 /\ F = 47 /\ B1 = #[] /\ L1 = #[]) \/ (k = 6 /\ F = 48 /\ B1 = #[] /\ L1 = #[.pointer (some ⟨P, 0, none⟩)])
structure Mem (B0 : Nat) (w : World) (cv hv : Value) (f : Nat -> Value) (mv : Value) (P : Nat) (g : Gv) : Prop where
 chars : ∀ W, Below B0 w W -> RwC W cv g.cs
 hs : ∀ W, Below B0 w W -> Row (fun _ => False) W hv (g.hs.map (Value.int .u8))
 len : g.hs.length = g.cs.length
 most : g.cs.length <= 100000
 kind : ∀ c ∈ g.cs, 0 <= c.kind /\ c.kind <= 6
 fn : ∀ k, k <= 6 -> f (2 * k) = .int .u8 (k : Int) /\ ∃ F B1 L1, f (2 * k + 1) = .func (.func F) B1 L1 /\ Fv k mv P F B1 L1
 adv : ∀ (c : Cr) (k : Nat) F B1 L1, c ∈ g.cs -> c.kind = (k : Int) -> Fv k mv P F B1 L1 -> ∀ W, Below B0 w W -> Calls Tryz.prog F (B1 ++ #[.agg (chA c)] ++ L1) W fun e w' => e = .returned (.int .i64 (g.adv c)) /\ Below W.heap.size W w'
theorem Mem.below {B0 : Nat} {w w' : World} {cv hv : Value} {f : Nat -> Value} {mv : Value} {P : Nat} {g : Gv} (h : Mem B0 w cv hv f mv P g) (b : Below B0 w w') : Mem B0 w' cv hv f mv P g :=
 ⟨fun W hW => h.chars W (b.trans hW), fun W hW => h.hs W (b.trans hW), h.len, h.most, h.kind, h.fn, fun c k F B1 L1 hc hk hF W hW => h.adv c k F B1 L1 hc hk hF W (b.trans hW)⟩
theorem qjw {B0 base R : Nat} {cv hv : Value} {f : Nat -> Value} {s : Rst} {w w' : World} (hR : RowSt base R cv hv f s w) (h1 : B0 <= R) (h2 : B0 <= base) (h3 : B0 <= w.heap.size) (k : Kps (SR R) w w') : Below B0 w w' :=
 k.mod.below h3 fun i hi => by
  rcases (hR.lt hi).2 with h | h <;> omega
theorem qiv (B0 base R : Nat) (cv hv : Value) (f : Nat -> Value) (mv : Value) (P : Nat) (g : Gv) (n : Nat) (s : Rst) (w : World) (hR : RowSt base R cv hv f s w) (hB1 : B0 <= R) (hB2 : B0 <= base) (hbw : base <= w.heap.size) (hM : Mem B0 w cv hv f mv P g) (hnx : s.nx <= g.cs.length) (hout : s.out.length + g.cs.length <= 1000000) :
 Calls Tryz.prog 52 #[.pointer (some ⟨R, 0, none⟩), .int .i64 (n : Int)] w fun e w' => e = .returned (.tuple #[]) /\ RowSt base R cv hv f (pcs g n (g.cs.length + 1) s) w' /\ Kps (SR R) w w' := by
 have HR := xaa hR
 have HM := xaa hM
 have hbw0 : B0 <= w.heap.size := by omega
 obtain ⟨A, cap, rfl⟩ := (hM.chars w (xas)).form
 obtain ⟨A2, cap2, hv2⟩ := (hM.hs w (xas)).form
 rw [xao, hM.len] at hv2
 subst hv2
 obtain ⟨m, hm⟩ : ∃ m, g.cs.length = m := ⟨_, rfl⟩
 have HM1 := xaa hm
 have hm5 : m <= 100000 := by rw [<- hm]; exact hM.most
 obtain ⟨D, hD⟩ : ∃ D, pcs g n (g.cs.length + 1) s = D := ⟨_, rfl⟩
 have HD := xaa hD
 rw [hD]
 rw [hm] at HR HM hnx hout
 have HFU : Hid (∃ fu, m < s.nx + fu /\ pcs g n fu s = D) := xaa ⟨m + 1, by omega, by rw [<- hm]; exact hD⟩
 obtain ⟨QR, hQR⟩ : ∃ QR : World -> Prop, QR = fun w' => RowSt base R (.slice A g.cs.length cap) (.slice A2 g.cs.length cap2) f D w' /\ Kps (SR R) w w' := ⟨_, rfl⟩
 have HQR : Hid (∀ w', RowSt base R (.slice A m cap) (.slice A2 m cap2) f D w' -> Kps (SR R) w w' -> QR w') := xaa fun w' h k => by rw [hQR, hm]; exact ⟨h, k⟩
 suffices hsuf : Calls Tryz.prog 52 #[.pointer (some ⟨R, 0, none⟩), .int .i64 (n : Int)] w fun e w' => e = .returned (.tuple #[]) /\ QR w' by
  rw [hQR] at hsuf
  exact hsuf
 clear hR hM hD hm hQR
 obtain ⟨sn, hsn⟩ : ∃ sn, s.nx = sn := ⟨_, rfl⟩
 obtain ⟨sl, hsl⟩ : ∃ sl, s.out.length = sl := ⟨_, rfl⟩
 rw [hsn] at hnx
 rw [hsl] at hout
 have HSN : Hid (s.nx = sn /\ s.out.length = sl) := xaa ⟨hsn, hsl⟩
 clear hsn hsl
 go_enter Tryz.func52, Tryz.ntmps52
 go_wp2_with fail
 go_loopg [] (m + 1 - sn) (fun kx wr => ∃ s' : Rst, sn <= s'.nx /\ s'.nx <= m /\ kx = m + 1 - s'.nx /\ Hid (RowSt base R (.slice A m cap) (.slice A2 m cap2) f s' wr) /\ Hid (Kps (SR R) w wr) /\ Hid (∃ fu, m < s'.nx + fu /\ pcs g n fu s' = D) /\ Hid (s'.out.length <= sl + (s'.nx - sn)))
 case atStart => exact ⟨s, by rw [HSN.out.1]; exact xat, by rw [HSN.out.1]; exact hnx, by rw [HSN.out.1], HR, xaa (Kps.refl _ _), HFU, xaa (by rw [HSN.out.1, HSN.out.2]; omega)⟩
 case round =>
  obtain ⟨s', hs1, hs2, rfl, JR, JK, JF, JL⟩ := hrel
  clear HFU
  have HBW := xaa (qjw HR.out hB1 hB2 hbw0 JK.out)
  have HMr := xaa (HM.out.below HBW.out)
  have hbr : base <= wr.heap.size := xau hbw JK.out.mod.size
  obtain ⟨o, hBo, hOo⟩ := JR.out
  obtain ⟨nx, wt, out⟩ := s'
  dsimp only at hs1 hs2 hBo hOo JF JL
  have c0 : wr.cell? ⟨R, 0, none⟩ = some (.slice A m cap) := hBo.cell 0
  have c16 : wr.cell? ⟨R, 16, none⟩ = some (.int .i64 (nx : Int)) := hBo.cell 16
  by_cases h1 : nx < m
  ·obtain ⟨c, hc⟩ : ∃ c, g.cs[nx]? = some c := ⟨_, xac (by rw [HM1.out]; exact h1)⟩
   obtain ⟨a, cap3, o1, hv, _, ha, hLi⟩ := (HMr.out.chars wr (xas)).get (xas) hc
   rw [HM1.out] at hv
   injection hv with hv1 hv3 hv4
   subst hv1 hv4
   have hln := qgb hLi 1 (v := .int .i64 c.node) rfl
   have hnz : (nx : Int) < m := by omega
   have hd1 : decide ((nx : Int) < m) = true := decide_eq_true hnz
   have HBo := xaa hBo
   have HOo := xaa hOo
   have HLi := xaa hLi
   have HA := xaa ha
   have HC := xaa hc
   have HFN := xaa (fun fu => qmc (g := g) (n := n) (f := fu) (s := ⟨nx, wt, out⟩) hc)
   obtain ⟨nd, hnd⟩ : ∃ nd, c.node = nd := ⟨_, rfl⟩
   rw [hnd] at hln
   by_cases hcn : nd = (n : Int)
   ·have HCN : Hid (c.node = (n : Int)) := xaa (hnd.trans hcn)
    rw [hcn] at hln
    obtain ⟨kz0, kz6⟩ := HMr.out.kind c (xav hc)
    obtain ⟨k, hk⟩ : ∃ k : Nat, c.kind = k := ⟨c.kind.toNat, by omega⟩
    have hk6 : k <= 6 := by omega
    have HK := xaa hk
    obtain ⟨f1, F, B1, L1, f2, f3⟩ := HMr.out.fn k hk6
    have CA0 := xaa (HM.out.adv c k F B1 L1 (xav hc) hk f3)
    have HFV : Hid ((F = 45 /\ B1 = #[mv] /\ L1 = #[]) \/ (F = 46 /\ B1 = #[mv] /\ L1 = #[]) \/ (F = 47 /\ B1 = #[] /\ L1 = #[]) \/ (F = 48 /\ B1 = #[] /\ L1 = #[.pointer (some ⟨P, 0, none⟩)])) := xaa (by
     rcases f3 with h | h | h | h
     ·exact .inl h.2
     ·exact .inr (.inl h.2)
     ·exact .inr (.inr (.inl h.2))
     ·exact .inr (.inr (.inr h.2)))
    have HRK := xaa (fun (o' : Value) (wt' : Int) => rowA_k (.slice (some a) m cap) (.slice A2 m cap2) f nx wt' o' hk6)
    have HF1 := xaa f1
    have HF2 := xaa f2
    obtain ⟨ad, had⟩ : ∃ ad, g.adv c = ad := ⟨_, rfl⟩
    rw [had] at CA0
    have HAD := xaa had
    clear hv3 hc hBo hOo hLi hnd hcn kz0 kz6 hk f1 f2 f3 had
    go_wp2_with fail
    go_quiet (fail)
    go_wp2_with fail
    have K1 : Hid (∀ q W, Below (wr.drewN q).heap.size (wr.drewN q) W -> W.cell? ⟨R, 0, none⟩ = some (.slice (some a) m cap) /\ W.cell? ⟨R, 16, none⟩ = some (.int .i64 (nx : Int)) /\ qar W ⟨a.block, o1, none⟩ (chA c)) := xaa fun q W hW => by
     have b : Below wr.heap.size wr W := (below_drewN (xas) q).trans hW
     have hB := HBo.out.kb b
     exact ⟨hB.cell 0, hB.cell 16, HLi.out.below b⟩
    have hpa : a.add (nx * 5) = ⟨a.block, o1, none⟩ := HA.out
    clear c0 c16 hln ha hd1
    refine ql7 (by kernel_rfl) 52 (chA zCr) (chA c) 10 4 (.tmp 40) (fun j => ([.pointer (some ⟨R, 0, none⟩), .pointer (some ⟨R, 0, none⟩), .pointer (some ⟨R, 0, none⟩), .slice (some a) m cap, .pointer (some ⟨R, 0, none⟩), .pointer (some ⟨R, 0, none⟩), .pointer (some ⟨R, 16, none⟩), .int .i64 (nx : Int), .pointer (some ⟨a.block, o1, none⟩), .agg (chA c)] : List Value).getD j undef) rfl alC _ _ rfl rfl rfl rfl rfl rfl (iC c) rfl (oneC c) (by kernel_rfl) (by kernel_rfl) (by kernel_rfl) (by kernel_rfl) (by kernel_rfl) ?stepN ?yN ?doneN
    case stepN =>
     intro us W hW i2 o2 hi2 ho hv
     obtain ⟨q1, q2, q3⟩ := K1.out _ W hW
     simp only [qae, Act.put, xaf, xaj, xak]
     match i2, hi2, ho with
     | 0, _, ho =>
       simp only [xab, xad, xai] at ho
       subst ho
       refine ⟨rfl, ?_⟩
       show _ = Result.ok (Next.value (.pointer (some ⟨R, 0, none⟩))) W
       go_simp
     | 1, _, ho =>
       simp only [xab, xad, xae, xai] at ho
       subst ho
       have h0 : us 0 = .pointer (some ⟨R, 0, none⟩) := hv 0 (by decide) (by kernel_rfl)
       rw [h0]
       refine ⟨rfl, ?_⟩
       show _ = Result.ok (Next.value (.pointer (some ⟨R, 0, none⟩))) W
       go_simp
     | 2, _, ho =>
       simp only [xab, xad, xae, xai] at ho
       subst ho
       have h1 : us 1 = .pointer (some ⟨R, 0, none⟩) := hv 1 (by decide) (by kernel_rfl)
       rw [h1]
       refine ⟨rfl, ?_⟩
       show _ = Result.ok (Next.value (.pointer (some ⟨R, 0, none⟩))) W
       go_simp
     | 3, _, ho =>
       simp only [xab, xad, xae, xai] at ho
       subst ho
       have h2 : us 2 = .pointer (some ⟨R, 0, none⟩) := hv 2 (by decide) (by kernel_rfl)
       rw [h2]
       refine ⟨rfl, ?_⟩
       show _ = Result.ok (Next.value (.slice (some a) m cap)) W
       go_simp
     | 4, _, ho =>
       simp only [xab, xad, xae, xai] at ho
       subst ho
       refine ⟨rfl, ?_⟩
       show _ = Result.ok (Next.value (.pointer (some ⟨R, 0, none⟩))) W
       go_simp
     | 5, _, ho =>
       simp only [xab, xad, xae, xai] at ho
       subst ho
       have h4 : us 4 = .pointer (some ⟨R, 0, none⟩) := hv 4 (by decide) (by kernel_rfl)
       rw [h4]
       refine ⟨rfl, ?_⟩
       show _ = Result.ok (Next.value (.pointer (some ⟨R, 0, none⟩))) W
       go_simp
     | 6, _, ho =>
       simp only [xab, xad, xae, xai] at ho
       subst ho
       have h5 : us 5 = .pointer (some ⟨R, 0, none⟩) := hv 5 (by decide) (by kernel_rfl)
       rw [h5]
       refine ⟨rfl, ?_⟩
       show _ = Result.ok (Next.value (.pointer (some ⟨R, 16, none⟩))) W
       go_simp
     | 7, _, ho =>
       simp only [xab, xad, xae, xai] at ho
       subst ho
       have h6 : us 6 = .pointer (some ⟨R, 16, none⟩) := hv 6 (by decide) (by kernel_rfl)
       rw [h6]
       refine ⟨rfl, ?_⟩
       show _ = Result.ok (Next.value (.int .i64 (nx : Int))) W
       go_simp
     | 8, _, ho =>
       simp only [xab, xad, xae, xai] at ho
       subst ho
       have h3 : us 3 = .slice (some a) m cap := hv 3 (by decide) (by kernel_rfl)
       have h7 : us 7 = .int .i64 (nx : Int) := hv 7 (by decide) (by kernel_rfl)
       rw [h3, h7]
       refine ⟨rfl, ?_⟩
       show _ = Result.ok (Next.value (.pointer (some ⟨a.block, o1, none⟩))) W
       go_simp
     | 9, _, ho =>
       simp only [xab, xad, xae, xai] at ho
       subst ho
       have h8 : us 8 = .pointer (some ⟨a.block, o1, none⟩) := hv 8 (by decide) (by kernel_rfl)
       rw [h8]
       refine ⟨rfl, ?_⟩
       show _ = Result.ok (Next.value (.agg (chA c))) W
       exact rdC (.tmp 39) rfl _ rfl c q3
     | (k + 10), hi2, _ => exact absurd hi2 (by omega)
    case yN =>
     intro us g hv hu
     have h9 : us 9 = .agg (chA c) := hv 9 (by decide)
     simp only [qae, Act.put, xaf, xaj, xak]
     rw [hu, h9]
     exact ⟨rfl, rfl⟩
    case doneN =>
     intro us1 C w2 hv1 hu1 hC1 hW1 B2
     have hb2 : Below wr.heap.size wr w2 := (below_drewN (xas) _).trans hW1
     have HB2 := xaa hb2
     have HC2 := xaa B2
     have hc4 : w2.cell? ⟨C, 4, none⟩ = some (.int .u8 (k : Int)) := (B2.cell 4).trans (by rw [<- HK.out]; rfl)
     have hRw2 := HBo.out.kb hb2
     have HR2 := xaa hRw2
     have K2 : Hid (∀ W, Below w2.heap.size w2 W -> W.cell? ⟨C, 4, none⟩ = some (.int .u8 (k : Int)) /\ W.cell? ⟨R, 2 + k * 2, none⟩ = some (.int .u8 (k : Int)) /\ W.cell? ⟨R, 2 + k * 2 + 1, none⟩ = some (.func (.func F) B1 L1)) := xaa fun W hW => by
      have q := HC2.out.kb hW
      have q2 := HR2.out.kb hW
      refine ⟨(q.cell 4).trans (by rw [<- HK.out]; rfl), ?_, ?_⟩
      ·rw [q2.cell, (HRK.out _ _).1, HF1.out]
      ·rw [q2.cell, (HRK.out _ _).2, HF2.out]
     simp only [qae, Act.put, xaf, xaj, xak]
     rw [hu1]
     have hkz : (k : Int) < 7 := by omega
     clear hv1 hu1 hW1 B2 hb2 hc4 hRw2 K1 hpa HLi HA
     go_wp2_with fail
     refine ql7 (by kernel_rfl) 78 (#[.int .u8 0, .nilFunc]) (#[.int .u8 (k : Int), .func (.func F) B1 L1]) 7 5 (.tmp 47) (fun j => ([.pointer (some ⟨R, 0, none⟩), .pointer (some ⟨C, 4, none⟩), .int .u8 (k : Int), .pointer (some ⟨R, 0, none⟩), .pointer (some ⟨R, 2, none⟩), .pointer (some ⟨R, 2 + k * 2, none⟩), .agg #[.int .u8 (k : Int), .func (.func F) B1 L1]] : List Value).getD j undef) rfl alBn _ _ rfl rfl rfl rfl rfl rfl (iBn _ _) rfl (oneBn _ _ _ _) (by kernel_rfl) (by kernel_rfl) (by kernel_rfl) (by kernel_rfl) (by kernel_rfl) ?stepN ?yN ?doneN
     case stepN =>
      intro us W hW i2 o2 hi2 ho hv
      obtain ⟨q1, q2, q3⟩ := K2.out W hW
      simp only [qae, Act.put, xaf, xaj, xak]
      match i2, hi2, ho with
      | 0, _, ho =>
        simp only [xab, xad, xai] at ho
        subst ho
        refine ⟨rfl, ?_⟩
        show _ = Result.ok (Next.value (.pointer (some ⟨R, 0, none⟩))) W
        go_simp
      | 1, _, ho =>
        simp only [xab, xad, xae, xai] at ho
        subst ho
        refine ⟨rfl, ?_⟩
        show _ = Result.ok (Next.value (.pointer (some ⟨C, 4, none⟩))) W
        go_simp
      | 2, _, ho =>
        simp only [xab, xad, xae, xai] at ho
        subst ho
        have h1 : us 1 = .pointer (some ⟨C, 4, none⟩) := hv 1 (by decide) (by kernel_rfl)
        rw [h1]
        refine ⟨rfl, ?_⟩
        show _ = Result.ok (Next.value (.int .u8 (k : Int))) W
        go_simp
      | 3, _, ho =>
        simp only [xab, xad, xae, xai] at ho
        subst ho
        have h0 : us 0 = .pointer (some ⟨R, 0, none⟩) := hv 0 (by decide) (by kernel_rfl)
        rw [h0]
        refine ⟨rfl, ?_⟩
        show _ = Result.ok (Next.value (.pointer (some ⟨R, 0, none⟩))) W
        go_simp
      | 4, _, ho =>
        simp only [xab, xad, xae, xai] at ho
        subst ho
        have h3 : us 3 = .pointer (some ⟨R, 0, none⟩) := hv 3 (by decide) (by kernel_rfl)
        rw [h3]
        refine ⟨rfl, ?_⟩
        show _ = Result.ok (Next.value (.pointer (some ⟨R, 2, none⟩))) W
        go_simp
      | 5, _, ho =>
        simp only [xab, xad, xae, xai] at ho
        subst ho
        have h4 : us 4 = .pointer (some ⟨R, 2, none⟩) := hv 4 (by decide) (by kernel_rfl)
        have h2 : us 2 = .int .u8 (k : Int) := hv 2 (by decide) (by kernel_rfl)
        rw [h4, h2]
        refine ⟨rfl, ?_⟩
        show _ = Result.ok (Next.value (.pointer (some ⟨R, 2 + k * 2, none⟩))) W
        go_simp
      | 6, _, ho =>
        simp only [xab, xad, xae, xai] at ho
        subst ho
        have h5 : us 5 = .pointer (some ⟨R, 2 + k * 2, none⟩) := hv 5 (by decide) (by kernel_rfl)
        rw [h5]
        refine ⟨rfl, ?_⟩
        show _ = Result.ok (Next.value (.agg #[.int .u8 (k : Int), .func (.func F) B1 L1])) W
        go_simp
      | (k + 7), hi2, _ => exact absurd hi2 (by omega)
     case yN =>
      intro us g hv hu
      have h6 : us 6 = .agg #[.int .u8 (k : Int), .func (.func F) B1 L1] := hv 6 (by decide)
      simp only [qae, Act.put, xaf, xaj, xak]
      rw [hu, h6]
      exact ⟨rfl, rfl⟩
     case doneN =>
      intro us2 D2 w4 hv2 hu2 hD2 hW2 B4
      have HB4 : Hid (Below B0 w w4) := xaa (HBW.out.trans (HB2.out.mono (xau hbw0 HBW.out.size) |>.trans (hW2.mono (xau (xau hbw0 HBW.out.size) HB2.out.size))))
      have HW2 := xaa (xaq HB2.out hW2)
      have HD4 := xaa B4
      have HC4 := xaa (HC2.out.kb hW2)
      have HR4 := xaa (HR2.out.kb hW2)
      have CA : Hid (∀ W, Below B0 w W -> Calls Tryz.prog F (B1 ++ #[.agg (chA c)] ++ L1) W fun e w' => e = .returned (.int .i64 ad) /\ Below W.heap.size W w') := xaa fun W hW => by
       have := CA0.out W hW
       exact this
      have K3 : Hid (∀ W, Below w4.heap.size w4 W -> W.cell? ⟨D2, 0, none⟩ = some (.int .u8 (k : Int)) /\ W.cell? ⟨R, 16, none⟩ = some (.int .i64 (nx : Int)) /\ W.cell? ⟨D2, 1, none⟩ = some (.func (.func F) B1 L1) /\ qar W ⟨C, 0, none⟩ (chA c)) := xaa fun W hW => by
       have q := HD4.out.kb hW
       have q2 := HR4.out.kb hW
       have q3 := HC4.out.kb hW
       exact ⟨q.cell 0, q2.cell 16, q.cell 1, q3.lies⟩
      have CP : Hid (∀ W, Below w4.heap.size w4 W -> Calls Tryz.prog 51 #[.pointer (some ⟨R, 0, none⟩), .agg #[.int .u8 (k : Int), .int .i64 (n : Int), .int .i64 (nx : Int), .int .i64 ad, .bool false, .bool false]] W fun e w' => e = .returned (.tuple #[]) /\ RowSt base R (.slice (some a) m cap) (.slice A2 m cap2) f (putV ⟨nx, wt, out⟩ (qm3 c n nx ad)) w' /\ Kps (SR R) wr w') := xaa fun W hW => by
       have b : Below wr.heap.size wr W := xaq HW2.out hW
       obtain ⟨r1, r2⟩ := JR.out.ext b
       have := qmy base R (.slice (some a) m cap) (.slice A2 m cap2) f ⟨nx, wt, out⟩ (qm3 c n nx ad) W r1 (by have := JL.out; show out.length <= 1000000; omega) (xau hbr b.size)
       unfold clA qm3 at this
       rw [HK.out] at this
       refine this.mono fun e w' h => ⟨h.1, ?_, (JR.out.kps b).trans h.2.2⟩
       have h2 := h.2.1
       unfold qm3
       rw [HK.out]
       exact h2
      simp only [qae, Act.put, xaf, xaj, xak]
      rw [hu2]
      clear hv2 hu2 hW2 B4 K2 hkz HD4 HC4 HR4 HC2 HR2
      go_wp2_with fail
      refine qez (by kernel_rfl) (fun W => Below w4.heap.size w4 W) (below_drewN (xas) 1) 13 (by rfl) (by kernel_rfl) (by kernel_rfl) (fun RR hR => ?_)
      refine AllS.t_ (i := 0) ?_
      refine AllS.t_ (i := 1) ?_
      refine AllS.f_ (i := 2) K3.out ?_
      refine AllS.t_ (i := 3) ?_
      refine AllS.t_ (i := 4) ?_
      refine AllS.t_ (i := 5) ?_
      refine AllS.t_ (i := 6) ?_
      refine AllS.f_ (i := 7) K3.out ?_
      refine AllS.t_ (i := 8) ?_
      refine AllS.f_ (i := 9) K3.out ?_
      refine AllS.r_ (i := 10) (.agg (chA c)) (fun W hSw => ?_) ?_
      ·(try dsimp only at hSw)
       exact rdC (.tmp 4) rfl _ rfl c (K3.out W hSw).2.2.2
      refine AllS.take (i := 11) (v := .int .i64 ad) (by rw [xab]; rfl) (by kernel_rfl) (by kernel_rfl) (by kernel_rfl) (qaf.call F (B1 ++ #[.agg (chA c)] ++ L1) (by kernel_rfl) (fun W => ?_) (fun W hSw => ?_)) ?_
      ·rcases HFV.out with ⟨e1, e2, e3⟩ | ⟨e1, e2, e3⟩ | ⟨e1, e2, e3⟩ | ⟨e1, e2, e3⟩
       all_goals (subst e1 e2 e3; go_simp)
      ·exact (CA.out W (HB4.out.trans (hSw.mono (xau hbw0 HB4.out.size)))).mono fun e w' h => ⟨h.1, xaq hSw h.2⟩
      (try simp only [Act.put, xaf, xaj, xak])
      refine AllS.t_ (i := 12) ?_
      refine AllS.done (by kernel_rfl) (hR.out _ ?_) _
      clear hR RR
      intro w5 hS5
      refine wpOp_call (by rw [xab]; rfl) rfl (by go_simp) ((CP.out w5 hS5).mono ?_)
      rintro e w6 ⟨rfl, R6, k6⟩
      refine ⟨_, rfl, ?_⟩
      have HK6 := xaa (JK.out.trans k6)
      have HN : Hid (pcs g n 1 ⟨nx, wt, out⟩ = pcs g n 0 (oneV g n ⟨nx, wt, out⟩ c)) := xaa (HFN.out 0 HCN.out)
      have HON : Hid (oneV g n ⟨nx, wt, out⟩ c = ⟨nx + 1, if nx + 1 < m then g.hs.getD (nx + 1) 0 else (putV ⟨nx, wt, out⟩ (qm3 c n nx ad)).wt, (putV ⟨nx, wt, out⟩ (qm3 c n nx ad)).out⟩) := xaa (by rw [<- HAD.out, <- HM1.out]; rfl)
      have HPN : Hid ((putV ⟨nx, wt, out⟩ (qm3 c n nx ad)).nx = nx /\ (putV ⟨nx, wt, out⟩ (qm3 c n nx ad)).out.length = out.length + 1) := xaa ⟨qkz _ _, by unfold putV; split <;> simp⟩
      obtain ⟨s1, hs1'⟩ : ∃ s1, putV ⟨nx, wt, out⟩ (qm3 c n nx ad) = s1 := ⟨_, rfl⟩
      rw [hs1'] at R6 HON HPN
      have R6b := R6
      obtain ⟨o6, hB6, hO6⟩ := R6b
      rw [HPN.out.1] at hB6
      have d16 : w6.cell? ⟨R, 16, none⟩ = some (.int .i64 (nx : Int)) := hB6.cell 16
      have HO6 := xaa hO6
      have HKR : Hid (∀ w', Mod (fun k => k = R) w6 w' -> Kps (SR R) w w' \/ True) := xaa fun _ _ => .inr trivial
      have HNE6 := xaa (own_ne hB6 (by decide) hO6)
      have HSR6 : Hid (∀ k, SR R w6 k ↔ k = R \/ o6.ownBlock = some k) := xaa fun k => SR.of hB6
      clear K3 CP CA R6 k6 hs1' hO6 hS5 HW2
      (try simp only [Act.put, xaf, xaj, xak])
      go_wp2_with (refine qbr rfl 3 (.tmp 68) (.tmp 66) rfl rfl R 16 rfl (.int .i64 ((nx : Int) + 1)) rfl rfl rfl (by kernel_rfl) _ _ hB6 (by simp [qde]) ?_; intro w7 m7 B7; refine Mk.out ?_)
      constructor
      have e7 : ((nx : Int) + 1) = ((nx + 1 : Nat) : Int) := by omega
      rw [e7, qy1] at B7
      have O7 := HO6.out.keep m7 fun k hk e => HNE6.out (by rw [<- e]; exact hk)
      have HM7 := xaa m7
      have c70 : w7.cell? ⟨R, 0, none⟩ = some (.slice (some a) m cap) := B7.cell 0
      have c716 : w7.cell? ⟨R, 16, none⟩ = some (.int .i64 ((nx + 1 : Nat) : Int)) := B7.cell 16
      have HB7 := xaa B7
      have HO7 := xaa O7
      obtain ⟨nx1, hnx1⟩ : ∃ nx1, nx + 1 = nx1 := ⟨_, rfl⟩
      rw [hnx1] at c716 HB7 HON
      have FIN : Hid (∀ (w' : World) (wt' : Int), Blk w' R 83 (qde (.slice (some a) m cap) (.slice A2 m cap2) f nx1 wt' o6) -> qpe base w' o6 s1.out -> Mod (fun k => k = R) w7 w' -> oneV g n ⟨nx, wt, out⟩ c = ⟨nx1, wt', s1.out⟩ -> ∃ s' : Rst, sn <= s'.nx /\ s'.nx <= m /\ m + 1 - nx1 = m + 1 - s'.nx /\ Hid (RowSt base R (.slice (some a) m cap) (.slice A2 m cap2) f s' w') /\ Hid (Kps (SR R) w w') /\ Hid (∃ fu, m < s'.nx + fu /\ pcs g n fu s' = D) /\ Hid (s'.out.length <= sl + (s'.nx - sn))) := xaa fun w' wt' q1 q2 q3 q4 => by
       have m6 : Mod (fun k => k = R) w6 w' := HM7.out.trans q3
       have kk : Kps (SR R) w6 w' := ⟨m6.mono fun k hk => .inl ((HSR6.out k).2 (.inl hk)), fun k hk => by
        rw [SR.of q1] at hk
        exact .inl ((HSR6.out k).2 hk)⟩
       refine ⟨⟨nx1, wt', s1.out⟩, by show sn <= nx1; omega, by show nx1 <= m; omega, rfl, xaa ⟨o6, q1, q2⟩, xaa (HK6.out.trans kk), xaa ?_, xaa ?_⟩
       ·obtain ⟨fu, hfu1, hfu2⟩ := JF.out
        obtain ⟨fu', rfl⟩ : ∃ fu', fu = fu' + 1 := ⟨fu - 1, by omega⟩
        rw [HFN.out fu' HCN.out, q4] at hfu2
        exact ⟨fu', by show m < nx1 + fu'; omega, hfu2⟩
       ·have := JL.out
        have := HPN.out.2
        show s1.out.length <= sl + (nx1 - sn)
        omega
      clear hB6 d16 m7 B7 O7 e7 HN
      go_wp2_with fail
      by_cases h9 : nx1 < m
      ·have h9z : (nx1 : Int) < m := by omega
       have hd9 : decide ((nx1 : Int) < m) = true := decide_eq_true h9z
       go_quiet (fail)
       go_wp2_with fail
       have HT : Hid (∃ t, g.hs.getD nx1 0 = t) := xaa ⟨_, rfl⟩
       obtain ⟨t, ht⟩ := HT.out
       have HTT := xaa ht
       have hh0 : g.hs[nx1]? = some t := by
        have hl : nx1 < g.hs.length := by rw [HM.out.len, HM1.out]; exact h9
        rw [xal, xac hl] at ht
        rw [xac hl]
        exact congrArg some ht
       obtain ⟨ah, caph, hvh, _, _, hch⟩ := (HM.out.hs w (xas)).at_ (by rw [xao]; have := (xah hh0).1; omega)
       rw [xao, HM.out.len, HM1.out] at hvh
       injection hvh with hvh1 hvh2 hvh3
       subst hvh1 hvh3
       have HCT : Hid (∀ W, Below B0 w W -> W.cell? (ah.add nx1) = some (.int .u8 t)) := xaa fun W hW => by
        obtain ⟨ah', caph', hv', _, _, hch'⟩ := (HM.out.hs W hW).at_ (by rw [xao]; have := (xah hh0).1; omega)
        injection hv' with e1 _ _
        injection e1 with e1
        subst e1
        exact hch' nx1 _ (by rw [xan, hh0]; rfl)
       have HBW7 : Hid (Below B0 w w7) := xaa (by
        have h := qjw HR.out hB1 hB2 hbw0 HK6.out
        exact h.trans (HM7.out.below (xau hbw0 HK6.out.mod.size) fun k hk => by omega))
       have K6 : Hid (∀ W, Below w7.heap.size w7 W -> W.cell? ⟨R, 1, none⟩ = some (.slice (some ah) m cap2) /\ W.cell? ⟨R, 16, none⟩ = some (.int .i64 (nx1 : Int)) /\ W.cell? (ah.add nx1) = some (.int .u8 t)) := xaa fun W b => by
        have hB := HB7.out.kb b
        exact ⟨hB.cell 1, hB.cell 16, HCT.out W (HBW7.out.trans (b.mono (xau hbw0 HBW7.out.size)))⟩
       clear c70 c716 hd9 hvh2 hch ht hh0
       refine qez (by kernel_rfl) (fun W => Below w7.heap.size w7 W) (below_drewN (below_drewN (xas) _) 1) 13 (by rfl) (by kernel_rfl) (by kernel_rfl) (fun RR hR => ?_)
       refine AllS.t_ (i := 0) ?_
       refine AllS.t_ (i := 1) ?_
       refine AllS.t_ (i := 2) ?_
       refine AllS.t_ (i := 3) ?_
       refine AllS.f_ (i := 4) K6.out ?_
       refine AllS.t_ (i := 5) ?_
       refine AllS.t_ (i := 6) ?_
       refine AllS.t_ (i := 7) ?_
       refine AllS.f_ (i := 8) K6.out ?_
       refine AllS.t_ (i := 9) ?_
       refine AllS.f_ (i := 10) K6.out ?_
       refine AllS.t_ (i := 11) ?_
       refine AllS.t_ (i := 12) ?_
       refine AllS.done (by kernel_rfl) (hR.out _ ?_) _
       clear hR RR
       intro w8 hS8
       have b8 : Below w7.heap.size w7 w8 := hS8
       have B8 := HB7.out.kb b8
       have O8 := HO7.out.keep (S := fun _ => False) (xap b8) fun _ _ => id
       refine qpp (by rw [xab]; rfl) rfl rfl (qa7 (P := Tryz.prog) (w := w8) 5 (.tmp 91) (.tmp 89) rfl R 17 rfl (.int .u8 t) rfl rfl rfl (by kernel_rfl) _ _ B8 (by simp [qde])) ?_
       have B9 := setRow_heap _ _ _ ((qde (.slice (some a) m cap) (.slice (some ah) m cap2) f nx1 s1.wt o6).setIfInBounds 17 (.int .u8 t)) _ _ B8
       have m9 := qai w8 R ((qde (.slice (some a) m cap) (.slice (some ah) m cap2) f nx1 s1.wt o6).setIfInBounds 17 (.int .u8 t))
       rw [qqj] at B9 m9 |-
       obtain ⟨w9, hw9⟩ : ∃ w9, w8.setRow R (qde (.slice (some a) m cap) (.slice (some ah) m cap2) f nx1 t o6) = w9 := ⟨_, rfl⟩
       rw [hw9] at B9 m9 |-
       have O9 := O8.keep m9 fun k hk e => HNE6.out (by rw [<- e]; exact hk)
       have HF9 := xaa (FIN.out w9 t B9 O9 ((xap b8 |>.mono (T := fun k => k = R) (fun i hi => (show (False : Prop) from hi).elim)).trans m9) (by rw [HON.out, if_pos h9, HTT.out]))
       clear hw9 B9 O9 m9 B8 O8 b8 hS8 K6 FIN
       go_wp2_with fail
       go_roundg (m + 1 - nx1)
       case rel => exact HF9.out
       case measure => omega
      ·have h9z : ¬ (nx1 : Int) < m := by omega
       have hd9 : decide ((nx1 : Int) < m) = false := decide_eq_false h9z
       go_quiet (fail)
       go_wp2_with fail
       have b8 : ∀ q, Below w7.heap.size w7 (w7.drewN q) := fun q => below_drewN (xas) q
       have HF9 : Hid (∀ q, _) := xaa fun q => FIN.out (w7.drewN q) s1.wt (HB7.out.drewN q) (HO7.out.keep (S := fun _ => False) (xap (b8 q)) fun _ _ => id) ((xap (b8 q)).mono fun i hi => (show (False : Prop) from hi).elim) (by rw [HON.out, if_neg h9])
       clear FIN b8 c70 c716
       go_wp2_with fail
       go_roundg (m + 1 - nx1)
       case rel => exact HF9.out _
       case measure => omega
   ·have HPC : Hid (∀ fu, pcs g n fu ⟨nx, wt, out⟩ = ⟨nx, wt, out⟩) := xaa fun fu => qjn hc (by rw [hnd]; exact hcn)
    have HFIN : Hid (∀ q, QR (wr.drewN q)) := xaa fun q => by
     obtain ⟨fu, _, hf⟩ := JF.out
     rw [HPC.out] at hf
     obtain ⟨r1, _⟩ := JR.out.ext (below_drewN (xas) q)
     rw [hf] at r1
     exact HQR.out _ r1 (JK.out.trans (JR.out.kps (below_drewN (xas) q)))
    have hd2 : (nd == (n : Int)) = false := by simpa using hcn
    have hd3 : decide (nd = (n : Int)) = false := decide_eq_false hcn
    clear HFN HC HLi HA HBo HOo hc hnd hv3 hBo hOo hLi
    go_wp2_with fail
    go_quiet (fail)
    go_wp2_with fail
    refine ⟨rfl, _, results_none rfl _ _ _, rfl, HFIN.out _⟩
  ·have HPC : Hid (∀ fu, pcs g n fu ⟨nx, wt, out⟩ = ⟨nx, wt, out⟩) := xaa fun fu => qmd (List.getElem?_eq_none (by rw [HM1.out]; show m <= nx; omega))
   have HFIN : Hid (∀ q, QR (wr.drewN q)) := xaa fun q => by
    obtain ⟨fu, _, hf⟩ := JF.out
    rw [HPC.out] at hf
    obtain ⟨r1, _⟩ := JR.out.ext (below_drewN (xas) q)
    rw [hf] at r1
    exact HQR.out _ r1 (JK.out.trans (JR.out.kps (below_drewN (xas) q)))
   have hnz : ¬ (nx : Int) < m := by omega
   have hd1 : decide ((nx : Int) < m) = false := decide_eq_false hnz
   clear hBo hOo
   go_wp2_with fail
   go_quiet (fail)
   go_wp2_with fail
   refine ⟨rfl, _, results_none rfl _ _ _, rfl, HFIN.out _⟩
end Ce
namespace Ce
open Go.Shelf
open Wh (Cr)
open Ar (Nod bxNV)
theorem bxT (k : Nat) (b : Bool) (w : World) : (Instr.box 88 (.agg #[.int .i64 (k : Int), .bool b])).run Tryz.prog w = .ok (.pointer (some ⟨w.heap.size, 0, none⟩)) (w.alloc (.cells #[.int .i64 (k : Int), .bool b] 88)) := by kernel_rfl
theorem bxTV {ops : Array Oper} {Q : Exit -> Act -> World -> Prop} {a : Act} {w : World} {rest : List Oper} {o : Oper} (hg : o.guard = none) (x : Operand) (ho : o.op = .box 88 x) (k : Nat) (b : Bool) (hx : a.eval x = .agg #[.int .i64 (k : Int), .bool b])
 (h : ∀ w', Below w.heap.size w w' -> Blk w' w.heap.size 88 #[.int .i64 (k : Int), .bool b] -> wpList Tryz.prog ops Q rest (a.put o.dst (.pointer (some ⟨w.heap.size, 0, none⟩))) w') : wpList Tryz.prog ops Q (o :: rest) a w :=
 qaq hg 88 x ho _ hx (bxT k b) h
theorem qsb (B0 base R : Nat) (cv hv : Value) (f : Nat -> Value) (mv : Value) (P : Nat) (g : Gv) (n : Nat) (b : Bool) (x : Nod) (s : Rst) (w : World) (hR : RowSt base R cv hv f s w) (hB1 : B0 <= R) (hB2 : B0 <= base) (hB3 : B0 <= w.heap.size) (hbw : base <= w.heap.size) (hM : Mem B0 w cv hv f mv P g) (hnx : s.nx <= g.cs.length) (hout : s.out.length + g.cs.length <= 1000000)
 (hbx : g.bx n = decide (x.k = 2)) (hst : g.st n = x.st) (hen : g.en n = x.en) :
 Calls Tryz.prog 26 #[.pointer (some ⟨R, 0, none⟩), .agg #[.int .i64 (n : Int), .bool b], .agg x.cells] w fun e w' => e = .returned (.tuple #[]) /\ RowSt base R cv hv f (stV g s (n, b)) w' /\ Kps (SR R) w w' := by
 obtain ⟨D, hD⟩ : ∃ D, stV g s (n, b) = D := ⟨_, rfl⟩
 have HD := xaa hD
 rw [hD]
 have HR := xaa hR
 have CP : Hid (∀ (c : Cl) (W : World), Below w.heap.size w W -> Calls Tryz.prog 51 #[.pointer (some ⟨R, 0, none⟩), .agg (clA c)] W fun e w' => e = .returned (.tuple #[]) /\ RowSt base R cv hv f (putV s c) w' /\ Kps (SR R) w w') := xaa fun c W hW => by
  obtain ⟨r1, _⟩ := hR.ext hW
  exact (qmy base R cv hv f s c W r1 (by omega) (xau hbw hW.size)).mono fun e w' h => ⟨h.1, h.2.1, (hR.kps hW).trans h.2.2⟩
 have CC : Hid (∀ (W : World), Below w.heap.size w W -> Calls Tryz.prog 52 #[.pointer (some ⟨R, 0, none⟩), .int .i64 (n : Int)] W fun e w' => e = .returned (.tuple #[]) /\ RowSt base R cv hv f (pcs g n (g.cs.length + 1) s) w' /\ Kps (SR R) w w') := xaa fun W hW => by
  obtain ⟨r1, _⟩ := hR.ext hW
  exact (qiv B0 base R cv hv f mv P g n s W r1 hB1 hB2 (xau hbw hW.size) (hM.below (hW.mono hB3)) hnx hout).mono fun e w' h => ⟨h.1, h.2.1, (hR.kps hW).trans h.2.2⟩
 have HBX := xaa hbx
 have HST := xaa hst
 have HEN := xaa hen
 obtain ⟨z, hz⟩ : ∃ z, x.k = z := ⟨_, rfl⟩
 have HZ := xaa hz
 clear hR hM hnx hout hbx hst hen hD hz hB1 hB2 hbw hB3
 go_enter Tryz.func26, Tryz.ntmps26
 go_wp2_with (first
  | (refine bxTV rfl (.tmp 1) rfl n b rfl ?_; intro w1 b1 B1)
  | (refine bxNV rfl (.tmp 2) rfl x rfl ?_; intro w2 b2 B2; refine Mk.out ?_))
 constructor
 have T2 := B1.kb b2
 have t0 : w2.cell? ⟨w.heap.size, 0, none⟩ = some (.int .i64 (n : Int)) := T2.cell 0
 have t1 : w2.cell? ⟨w.heap.size, 1, none⟩ = some (.bool b) := T2.cell 1
 have k0 : w2.cell? ⟨w1.heap.size, 0, none⟩ = some (.int .u8 z) := (B2.cell 0).trans (by rw [<- HZ.out]; rfl)
 have k15 : w2.cell? ⟨w1.heap.size, 15, none⟩ = some (.int .i64 x.st) := B2.cell 15
 have k16 : w2.cell? ⟨w1.heap.size, 16, none⟩ = some (.int .i64 x.en) := B2.cell 16
 have HB := xaa (xaq b1 b2)
 clear T2 B1 B2 b1 b2
 by_cases h2 : z = 2
 ·subst h2
  have HBX2 : Hid (g.bx n = true) := xaa (by rw [HBX.out, HZ.out]; rfl)
  cases b with
  | true =>
    have HDD : Hid (D = putV s ⟨7, n, -1, x.st, false, false⟩) := xaa (by
     rw [<- HD.out, <- HST.out]
     unfold stV
     rw [if_pos HBX2.out]
     rfl)
    go_wp2_with fail
    refine (CP.out ⟨7, n, -1, x.st, false, false⟩ _ HB.out).mono ?_
    rintro e w3 ⟨rfl, r3, q3⟩
    have HF : Hid (RowSt base R cv hv f D w3 /\ Kps (SR R) w w3) := xaa ⟨by rw [HDD.out]; exact r3, q3⟩
    clear r3 q3 t0 t1 k0 k15 k16
    go_wp2_with fail
    refine ⟨rfl, _, results_none rfl _ _ _, rfl, HF.out⟩
  | false =>
    have HDD : Hid (D = putV s ⟨8, n, -1, x.en, false, false⟩) := xaa (by
     rw [<- HD.out, <- HEN.out]
     unfold stV
     rw [if_pos HBX2.out]
     rfl)
    go_wp2_with fail
    refine (CP.out ⟨8, n, -1, x.en, false, false⟩ _ HB.out).mono ?_
    rintro e w3 ⟨rfl, r3, q3⟩
    have HF : Hid (RowSt base R cv hv f D w3 /\ Kps (SR R) w w3) := xaa ⟨by rw [HDD.out]; exact r3, q3⟩
    clear r3 q3 t0 t1 k0 k15 k16
    go_wp2_with fail
    refine ⟨rfl, _, results_none rfl _ _ _, rfl, HF.out⟩
 ·have HBX2 : Hid (¬ g.bx n = true) := xaa (by rw [HBX.out, HZ.out, decide_eq_false h2]; simp)
  have d2 : (z == 2) = false := by simpa using h2
  have d3 : decide (z = 2) = false := decide_eq_false h2
  cases b with
  | true =>
    have HDD : Hid (D = pcs g n (g.cs.length + 1) s) := xaa (by
     rw [<- HD.out]
     unfold stV
     rw [if_neg HBX2.out]
     rfl)
    go_wp2_with fail
    refine (CC.out _ HB.out).mono ?_
    rintro e w3 ⟨rfl, r3, q3⟩
    have HF : Hid (RowSt base R cv hv f D w3 /\ Kps (SR R) w w3) := xaa ⟨by rw [HDD.out]; exact r3, q3⟩
    clear r3 q3 t0 t1 k0 k15 k16
    go_wp2_with fail
    refine ⟨rfl, _, results_none rfl _ _ _, rfl, HF.out⟩
  | false =>
    have HDD : Hid (D = s) := xaa (by
     rw [<- HD.out]
     unfold stV
     rw [if_neg HBX2.out]
     rfl)
    have HF : Hid (RowSt base R cv hv f D w2 /\ Kps (SR R) w w2) := xaa ⟨by rw [HDD.out]; exact (HR.out.ext HB.out).1, HR.out.kps HB.out⟩
    clear k15 k16
    go_wp2_with fail
    refine ⟨rfl, _, results_none rfl _ _ _, rfl, HF.out⟩
end Ce
end Go.Proofs.YtmceblkjbpbcoaaGreatDoor
