/- Contracts of layers below. -/
import Derived.Test.YtmceblkjbpbcoaaGreatDoorPCh4
import Derived.Test.YtmceblkjbpbcoaaGreatDoorPRegK
import Derived.Test.YtmceblkjbpbcoaaGreatDoorPPr10
import Derived.Test.YtmceblkjbpbcoaaGreatDoorPRowF
import Derived.Laws.CopyRow
namespace Go.Proofs.YtmceblkjbpbcoaaGreatDoor
set_option maxRecDepth 100000
set_option maxHeartbeats 16000000
section
open Go.ChangeShapes Go.WideShapes Go.ChangeAt Go.RowKit Go.Shelf
open Wh (Cr)
open Ch
attribute [local go_sem] Oper.semAt_some
section
variable {P : Program} {ops : Array Oper} {S : World -> Prop} {Φ : Nat -> Value -> World -> Prop} {kill : Nat -> Nat -> Bool}
theorem qbx.rd {us : Nat -> Value} {i : Nat} {o : Oper} {a : Act} {w : World} (hg : o.guard = none) (u : Value) (hrun : (execOp a.eval o).run P w = .ok (.value u) w) (hS : S w) (hΦ : Φ i u w) : qbx P ops S Φ kill us i o a w :=
 .inl ⟨qaa hg _, .inl ⟨u, w, hrun, hS, hΦ, fun _ _ _ h => h⟩⟩
end
def killL (i j : Nat) : Bool := i == 9 && j == 8
def qqy (Gc Ge n f t : Nat) (bs : List Bool) (R : Value) (i : Nat) (u : Value) (W : World) : Prop := match i with
 | 0 => u = .slice (some ⟨Ge, 0, none⟩) n n
 | 1 => u = .int .i64 (f : Int)
 | 2 => u = .int .i64 (t : Int)
 | 3 => u = qmj Ge n f t
 | 4 => u = .slice (some ⟨Gc, 0, none⟩) n n
 | 5 => u = .int .i64 (f : Int)
 | 6 => u = .int .i64 (t : Int)
 | 7 => u = qmj Gc n f t
 | 8 => ∃ G, u = .slice (some ⟨G, 0, none⟩) (t - f) (t - f) /\ RB W u bs
 | 9 => ∃ row, R = .agg row /\ Blk W Ge 4 row
 | _ => True
theorem qqy.below {Gc Ge n f t : Nat} {bs : List Bool} {R : Value} {i : Nat} {u : Value} {W W' : World} (h : qqy Gc Ge n f t bs R i u W) (b : Below W.heap.size W W') : qqy Gc Ge n f t bs R i u W' := by
 unfold qqy at h |-
 split at h
 all_goals first
  | exact h
  | (obtain ⟨G, h1, h2⟩ := h; exact ⟨G, h1, Row.below h2 b⟩)
  | (obtain ⟨row, h1, h2⟩ := h; exact ⟨row, h1, h2.kb b⟩)
theorem qqy.copy {Gc Ge n f t : Nat} {bs : List Bool} {R : Value} {i : Nat} {u : Value} {W W' : World} (h : qqy Gc Ge n f t bs R i u W) (h8 : i ≠ 8) (h9 : i ≠ 9) : qqy Gc Ge n f t bs R i u W' := by
 unfold qqy at h |-
 split at h
 all_goals first
  | exact h
  | exact absurd rfl h8
  | exact absurd rfl h9
theorem qlk (ss : List Sty) (l : List Cr) (v : Value) (w : World) (hR : qpk w v (l.map (hcOf ss))) (hlen : l.length <= 100000) :
 Calls Tryz.prog 42 #[v] w fun e w' => ∃ G, e = .returned (.slice (some ⟨G, 0, none⟩) l.length l.length) /\ w.heap.size <= G /\ Blk w' G 4 (qa0 l.length fun j => .bool (bkF ss l j)) /\ Below w.heap.size w w' := by
 have HRw := xaa hR
 obtain ⟨A, cap, hv⟩ := hR.form
 obtain ⟨n, hl⟩ : ∃ n, l.length = n := ⟨_, rfl⟩
 have HL := xaa hl
 rw [xao, hl] at hv
 subst hv
 have hmk1 : ∀ W : World, _ := fun W => qdh (P := Tryz.prog) 73 5 (.int .u8 0) 1 Tryz.underlying73 (by kernel_rfl) (by decide) rfl n (by omega) W
 have HMK2 : Hid (∀ W : World, _) := xaa fun W => qdh (P := Tryz.prog) 120 4 (.bool false) 1 Tryz.underlying120 (by kernel_rfl) (by decide) rfl n (by omega) W
 obtain ⟨gc, hgc⟩ : ∃ gc : Nat -> Value, ∀ j, gc j = .int .u8 (hcOf ss (l.getD j zCr)).as_ := ⟨_, fun _ => rfl⟩
 have HGC := xaa hgc
 obtain ⟨bk, hbk⟩ : ∃ bk, bkF ss l = bk := ⟨_, rfl⟩
 have HBK := xaa hbk
 rw [hl, hbk]
 have hlen2 : n <= 100000 := by omega
 clear hR hl hlen hgc hbk
 refine (callsIn_wide (n := 7)).1 ?_
 refine callsIn_of_wp_marks Tryz.func42 rfl trivial ?_ rfl
 simp only [Tryz.ntmps42, List.size_toArray, List.length_cons, List.length_nil, Nat.reduceAdd, Nat.reduceSub, Array.replicate_succ, Array.replicate_zero, List.push_toArray, List.append_toArray, List.nil_append, List.cons_append]
 gi_wp2_with fail
 have R0 := Blk.new w 5 (qa0 n (fun _ => .int .u8 0))
 have A0 := Boxed.new (w.alloc (.cells (qa0 n (fun _ => .int .u8 0)) 5)) 73 (.slice (some ⟨w.heap.size, 0, none⟩) n n)
 simp only [World.size_alloc] at A0
 have R1 := R0.alloc (.cells #[.slice (some ⟨w.heap.size, 0, none⟩) n n] 73)
 have b1 : Below w.heap.size w ((w.alloc (.cells (qa0 n (fun _ => .int .u8 0)) 5)).alloc (.cells #[.slice (some ⟨w.heap.size, 0, none⟩) n n] 73)) := ((Below.refl _ w).alloc (xat) _).alloc (by simp) _
 have hsz : ((w.alloc (.cells (qa0 n (fun _ => .int .u8 0)) 5)).alloc (.cells #[.slice (some ⟨w.heap.size, 0, none⟩) n n] 73)).heap.size = w.heap.size + 2 := by simp
 obtain ⟨w1, hw1⟩ : ∃ w1, (w.alloc (.cells (qa0 n (fun _ => .int .u8 0)) 5)).alloc (.cells #[.slice (some ⟨w.heap.size, 0, none⟩) n n] 73) = w1 := ⟨_, rfl⟩
 rw [hw1] at R1 A0 b1 hsz |-
 rw [<- qfe (.int .u8 0) gc] at R1
 have hsz1 : w.heap.size + 2 <= w1.heap.size := by omega
 clear hw1 R0 hmk1 hsz
 gi_loopw [14] (fun s14 wr => ∃ (k : Nat), s14 = .int .i64 (k : Int) /\ k <= n /\ Below w.heap.size w wr /\ Blk wr w.heap.size 5 (qa0 n (upF (.int .u8 0) gc k)) /\ Boxed wr (w.heap.size + 1) 73 (.slice (some ⟨w.heap.size, 0, none⟩) n n) /\ w.heap.size + 2 <= wr.heap.size)
  (fun s14 _ => n - (intOf s14).toNat)
 case atStart => exact ⟨0, by go_num, Nat.zero_le _, b1, R1, A0, hsz1⟩
 case round =>
  obtain ⟨k, rfl, hk, bel, hB, hA, hsw⟩ := hrel
  clear R1 A0 b1 hsz1
  by_cases hlt : k < n
  ·obtain ⟨c, hc⟩ := at_ (l := l) (k := k) (by rw [HL.out]; exact hlt)
   have hch : (l.map (hcOf ss))[k]? = some (hcOf ss c) := by rw [xan, hc]; rfl
   obtain ⟨ad, cp, o, hv, hab, ha, hLi⟩ := HRw.out.get bel hch
   rw [xao, HL.out] at hv
   injection hv with hv1 hv2 hv3
   subst hv1 hv3
   have hgk : gc k = .int .u8 (hcOf ss c).as_ := by rw [HGC.out, xal, hc]; rfl
   obtain ⟨hx, hhx⟩ : ∃ x, hcOf ss c = x := ⟨_, rfl⟩
   rw [hhx] at hLi hgk
   have HGK := xaa hgk
   have hkz : (k : Int) < n := by omega
   have HB := xaa hB
   have HA := xaa hA
   clear hv2 hgk hc hch hB hA hhx
   gi_wp2_with (first
    | (refine qxj (o := ⟨some 18, _, _, _, _, _⟩) (fun _ => trivial) rfl (.tmp 17) rfl _ rfl hx (by first | exact hLi | exact ha ▸ hLi) ?_)
    | (refine qxz (fun _ => trivial) rfl rfl ?_; intro w2 b2 B2)
    | (refine qw3 (fun _ => trivial) rfl (.tmp 5) (.tmp 18) rfl rfl _ rfl hx rfl zHc B2 ?_; intro w3 m3 B3; refine Mk.out ?_))
   constructor
   have b3 : Below wr.heap.size wr w3 := b2.trans (m3.below b2.size fun k hk => by omega)
   have bel3 := bel.trans (b3.mono bel.size)
   have hB3 := HB.out.kb b3
   have hA3 : Boxed w3 (w.heap.size + 1) 73 (.slice (some ⟨w.heap.size, 0, none⟩) n n) := (b3.block _ HA.out.lt).trans HA.out
   have c2 : w3.cell? ⟨wr.heap.size, 2, none⟩ = some (.int .u8 hx.as_) := B3.cell 2
   have cA := hA3.cell
   have hq := (hB3.cell k).trans (qaw hlt)
   have hfz := hB3.frozen k
   have HB3 := xaa hB3
   have HA3 := xaa hA3
   have HBE := xaa bel3
   have hs3 := b3.size
   obtain ⟨x, hxx⟩ : ∃ x, upF (.int .u8 0) gc k k = x := ⟨_, rfl⟩
   rw [hxx] at hq
   clear hLi b2 B2 m3 B3 b3 bel bel3 hB3 hA3 hxx
   gi_wp2_with fail
   go_roundw
   case rel =>
    refine ⟨k + 1, by go_num, by omega, HBE.out.setCell (by show w.heap.size <= w.heap.size; omega) _, ?_, ?_, ?_⟩
    ·have := HB3.out.set_ k (.int .u8 hx.as_)
     rw [<- HGK.out, qdb, qd1, HGK.out] at this
     exact this
    ·exact (Below.heap_setCell _ _ _ _ (by show w.heap.size + 1 ≠ w.heap.size; omega)).trans HA3.out
    ·simp [World.setCell]; omega
   case measure => simp [intOf]; omega
  ·obtain rfl : k = n := by omega
   have hmk2 := HMK2.out
   gi_wp2_with fail
   have R2 := Blk.new wr 4 (qa0 k (fun _ => .bool false))
   have E2 := Boxed.new (wr.alloc (.cells (qa0 k (fun _ => .bool false)) 4)) 120 (.slice (some ⟨wr.heap.size, 0, none⟩) k k)
   simp only [World.size_alloc] at E2
   have R3 := R2.alloc (.cells #[.slice (some ⟨wr.heap.size, 0, none⟩) k k] 120)
   have b2 : Below wr.heap.size wr ((wr.alloc (.cells (qa0 k (fun _ => .bool false)) 4)).alloc (.cells #[.slice (some ⟨wr.heap.size, 0, none⟩) k k] 120)) := ((Below.refl _ wr).alloc (xat) _).alloc (by simp) _
   have hsz3 : ((wr.alloc (.cells (qa0 k (fun _ => .bool false)) 4)).alloc (.cells #[.slice (some ⟨wr.heap.size, 0, none⟩) k k] 120)).heap.size = wr.heap.size + 2 := by simp
   obtain ⟨w3, hw3⟩ : ∃ w3, (wr.alloc (.cells (qa0 k (fun _ => .bool false)) 4)).alloc (.cells #[.slice (some ⟨wr.heap.size, 0, none⟩) k k] 120) = w3 := ⟨_, rfl⟩
   rw [hw3] at R3 E2 b2 hsz3 |-
   have hC3 := hB.kb b2
   have hA3 : Boxed w3 (w.heap.size + 1) 73 (.slice (some ⟨w.heap.size, 0, none⟩) k k) := (b2.block _ hA.lt).trans hA
   have e0 : qa0 k (upF (.int .u8 0) gc k) = qa0 k gc := qdc fun j hj => by unfold upF; rw [if_pos hj]
   rw [e0] at hC3
   have b03 := bel.trans (b2.mono bel.size)
   clear hw3 R2 hmk2 hB hA bel b2 e0
   refine ⟨trivial, (callsIn_wide.2 (qoq A k cap w3)).mono ?_⟩
   rintro e w4 ⟨rfl, S4, b4⟩
   have s4 := S4.lt
   have s34 := b4.size
   have C4 := hC3.kb b4
   have D4 : Boxed w4 (w.heap.size + 1) 73 (.slice (some ⟨w.heap.size, 0, none⟩) k k) := (b4.block _ hA3.lt).trans hA3
   have R4 := R3.kb b4
   have E4 : Boxed w4 (wr.heap.size + 1) 120 (.slice (some ⟨wr.heap.size, 0, none⟩) k k) := (b4.block _ E2.lt).trans E2
   have b04 := b03.trans (b4.mono b03.size)
   have e1 : (qa0 k fun _ => Value.bool false) = qa0 k fun j => .bool (cov [] j && bk j) := qdc fun j _ => rfl
   rw [e1] at R4
   have l0 : wr.heap.size + 2 <= w3.heap.size := by omega
   clear hC3 hA3 R3 E2 b03 b4 e1 hsz3
   gi_wp2_with fail
   refine qbk rfl (by omega) (gf := 123) (lb := #[.pointer (some ⟨w3.heap.size, 0, none⟩)]) rfl trivial (enters_of Tryz.func123 (by kernel_rfl) rfl)
    (encs := encQ (l := l)) (fun _ => rfl) (fun rdy pre X => Pl w (w4.heap.size + 1) w.heap.size (w.heap.size + 1) wr.heap.size (wr.heap.size + 1) w3.heap.size k gc bk (.slice A k cap) rdy (pre.map (·.1)) X)
    (Kq (w4.heap.size + 2)) (fun xs => ∀ j c, l[j]? = some c -> c.kind ≠ 5 -> cov (xs.map (·.1)) j = true) (l.length + 1) (fun _ _ _ h => h.loop) ?round ?iter ?done
   case iter =>
    intro rdy hrd HY
    have bd : Below w4.heap.size w4 ((w4.alloc (.deferred (some []))).alloc rdy) := ((Below.refl _ w4).alloc (xat) _).alloc (by simp) _
    have hL : ((w4.alloc (.deferred (some []))).alloc rdy).heap[w4.heap.size + 1]? = some rdy := by
     have := World.alloc_heap_new (w4.alloc (.deferred (some []))) rdy
     rwa [World.size_alloc] at this
    have hD : ((w4.alloc (.deferred (some []))).alloc rdy).heap[w4.heap.size]? = some (.deferred (some [])) := (Below.heap_alloc _ _ _ (by simp)).trans (World.alloc_heap_new w4 _)
    have hs : ((w4.alloc (.deferred (some []))).alloc rdy).heap.size = w4.heap.size + 2 := by simp
    refine (qor _ w3.heap.size (w4.heap.size + 1) l ss (.slice A k cap) _ (fun pre X => Pl w (w4.heap.size + 1) w.heap.size (w.heap.size + 1) wr.heap.size (wr.heap.size + 1) w3.heap.size k gc bk (.slice A k cap) rdy (pre.map (·.1)) X) (by have := HL.out; omega) ?_ ?_ ?_ ?_).mono fun e X h => ⟨h.1, h.2⟩
    ·intro pre X Y h m
     exact h.mod (B := ((w4.alloc (.deferred (some []))).alloc rdy).heap.size) (by omega) (by omega) (by omega) (by omega) (by omega) (by omega) (by omega) m
    ·intro pre X h
     exact ⟨h.ls.cell, HRw.out.below h.below⟩
    ·rw [hs]
     exact HY
    ·exact ⟨(bd.block _ C4.lt).trans C4, (bd.block _ D4.lt).trans D4, (bd.block _ R4.lt).trans R4, (bd.block _ E4.lt).trans E4, (bd.block _ S4.lt).trans S4, hL, hD, b04.trans (bd.mono b04.size), by omega⟩
   case round =>
    rintro rdy bsy m pre ⟨⟨f, t⟩, hPt⟩ X hr hb hP hN
    have hen : encQ (⟨(f, t), hPt⟩ : PI l) = #[.int .i64 (f : Int), .int .i64 (t : Int)] := rfl
    rw [hen]
    have hft : f <= t := hPt.le
    have htn : t <= k := by have := hPt.len; rw [<- HL.out]; exact this
    have HPM : Hid ((pre ++ [(⟨(f, t), hPt⟩ : PI l)]).map (·.1) = pre.map (·.1) ++ [(f, t)]) := xaa (by rw [List.map_append]; rfl)
    obtain ⟨cl, hcl⟩ : ∃ cl, clL ss l = cl := ⟨_, rfl⟩
    have HCLn : Hid (cl.length = k) := xaa (by rw [<- hcl, qsh, HL.out])
    have HCLg : Hid (∀ j x, cl[j]? = some x -> gc j = .int .u8 x) := xaa fun j x hx => by
     rw [<- hcl] at hx
     unfold clL at hx
     rw [xan] at hx
     cases hc : l[j]? with
     | none => rw [hc] at hx; cases hx
     | some c =>
       rw [hc] at hx
       injection hx with hx
       rw [HGC.out, xal, hc, <- hx]
       rfl
    obtain ⟨bs, hbs⟩ : ∃ bs, prB ss l f t = bs := ⟨_, rfl⟩
    have HBS : Hid (qew ((cl.drop f).take (t - f)) = bs) := xaa (by rw [<- hbs, <- hcl]; rfl)
    have HBL : Hid (bs.length = t - f) := xaa (by rw [<- hbs]; exact qqu hPt)
    have HBA : Hid (∀ i, f <= i -> i < t -> bs[i - f]? = some (bk i)) := xaa fun i h1 h2 => by rw [<- hbs, <- HBK.out]; exact prB_at hPt h1 h2
    have HPOS : Hid (∀ c ∈ (cl.drop f).take (t - f), 0 <= c) := xaa fun c hc => q0n ss l c (by rw [hcl]; exact List.mem_of_mem_drop (List.mem_of_mem_take hc))
    clear hen hcl hbs
    gi_wp2_with fail
    refine ⟨hP.loop, ?_⟩
    have hLX := hP.size
    have P6 := hP.put bsy (by omega) (by omega) (by omega) (by omega) (by omega) (by omega)
    have K6 : Kq (w4.heap.size + 2) X (X.putObj (w4.heap.size + 1) bsy) := ⟨by simp [World.putObj], fun j h1 h2 => World.putObj_heap_other (by omega)⟩
    obtain ⟨W6, hW6⟩ : ∃ W6, X.putObj (w4.heap.size + 1) bsy = W6 := ⟨_, rfl⟩
    rw [hW6] at P6 K6 |-
    have HP6 := xaa P6
    have HK6 := xaa K6
    have hS6 := P6.size
    clear hW6 hP P6 K6 C4 D4 R4 E4 S4 b04
    obtain ⟨row, hrow⟩ : ∃ row, (qa0 k fun j => Value.bool (cov (pre.map (·.1) ++ [(f, t)]) j && bk j)) = row := ⟨_, rfl⟩
    have HROW := xaa hrow
    clear hrow
    have HSS : Hid (∀ W, (Mod (fun j => j = wr.heap.size) W6 W /\ ∃ P', (P' = pre.map (·.1) \/ P' = pre.map (·.1) ++ [(f, t)]) /\ Blk W wr.heap.size 4 (qa0 k fun j => .bool (cov P' j && bk j))) →
     W.cell? ⟨wr.heap.size + 1, 0, none⟩ = some (.slice (some ⟨wr.heap.size, 0, none⟩) k k) /\ W.cell? ⟨w.heap.size + 1, 0, none⟩ = some (.slice (some ⟨w.heap.size, 0, none⟩) k k) /\ Blk W w.heap.size 5 (qa0 k gc)) := xaa fun W h =>
     ⟨(h.1.cell (p := ⟨wr.heap.size + 1, 0, none⟩) HP6.out.be.lt (by show ¬ wr.heap.size + 1 = wr.heap.size; omega)).trans HP6.out.be.cell,
      (h.1.cell (p := ⟨w.heap.size + 1, 0, none⟩) HP6.out.bc.lt (by show ¬ w.heap.size + 1 = wr.heap.size; omega)).trans HP6.out.bc.cell,
      HP6.out.cl.keep h.1 (by omega)⟩
    gi_wp2_with fail
    refine qnw (by kernel_rfl) (by kernel_rfl) (fun W => Mod (fun j => j = wr.heap.size) W6 W /\ ∃ P', (P' = pre.map (·.1) \/ P' = pre.map (·.1) ++ [(f, t)]) /\ Blk W wr.heap.size 4 (qa0 k fun j => .bool (cov P' j && bk j)))
     (qqy w.heap.size wr.heap.size k f t bs (.agg row)) killL ⟨(Mod.refl _ _).drewN 1, _, .inl rfl, HP6.out.row.drewN 1⟩ (by kernel_rfl) (by kernel_rfl) (by kernel_rfl) (by kernel_rfl) (by kernel_rfl) ?stepK ?doneK
    case stepK =>
     intro us W hSW i o ho hD
     obtain ⟨q1, q2, q3⟩ := HSS.out W hSW
     simp only [qae, Act.put, xaf, xaj, xak]
     match i, ho with
     | 0, ho =>
       simp only [xab, xad, xai] at ho
       subst ho
       exact qbx.rd rfl (.slice (some ⟨wr.heap.size, 0, none⟩) k k) (by go_simp) hSW rfl
     | 1, ho =>
       simp only [xab, xad, xae, xai] at ho
       subst ho
       exact qbx.rd rfl (.int .i64 (f : Int)) (by go_simp) hSW rfl
     | 2, ho =>
       simp only [xab, xad, xae, xai] at ho
       subst ho
       exact qbx.rd rfl (.int .i64 (t : Int)) (by go_simp) hSW rfl
     | 3, ho =>
       simp only [xab, xad, xae, xai] at ho
       subst ho
       have h0 : us 0 = .slice (some ⟨wr.heap.size, 0, none⟩) k k := hD 0 (by kernel_rfl)
       have h1 : us 1 = .int .i64 (f : Int) := hD 1 (by kernel_rfl)
       have h2 : us 2 = .int .i64 (t : Int) := hD 2 (by kernel_rfl)
       rw [h0, h1, h2]
       have hsl := qyv wr.heap.size k f t W hft htn
       exact qbx.rd rfl (qmj wr.heap.size k f t) (by go_simp) hSW rfl
     | 4, ho =>
       simp only [xab, xad, xae, xai] at ho
       subst ho
       exact qbx.rd rfl (.slice (some ⟨w.heap.size, 0, none⟩) k k) (by go_simp) hSW rfl
     | 5, ho =>
       simp only [xab, xad, xae, xai] at ho
       subst ho
       exact qbx.rd rfl (.int .i64 (f : Int)) (by go_simp) hSW rfl
     | 6, ho =>
       simp only [xab, xad, xae, xai] at ho
       subst ho
       exact qbx.rd rfl (.int .i64 (t : Int)) (by go_simp) hSW rfl
     | 7, ho =>
       simp only [xab, xad, xae, xai] at ho
       subst ho
       have h0 : us 4 = .slice (some ⟨w.heap.size, 0, none⟩) k k := hD 4 (by kernel_rfl)
       have h1 : us 5 = .int .i64 (f : Int) := hD 5 (by kernel_rfl)
       have h2 : us 6 = .int .i64 (t : Int) := hD 6 (by kernel_rfl)
       rw [h0, h1, h2]
       have hsl := qyw w.heap.size k f t W hft htn
       exact qbx.rd rfl (qmj w.heap.size k f t) (by go_simp) hSW rfl
     | 8, ho =>
       simp only [xab, xad, xae, xai] at ho
       subst ho
       have h0 : us 7 = qmj w.heap.size k f t := hD 7 (by kernel_rfl)
       rw [h0]
       have hrow : R8 W (qmj w.heap.size k f t) ((cl.drop f).take (t - f)) := qzp q3 HCLn.out HCLg.out hft htn
       have hln : ((cl.drop f).take (t - f)).length = t - f := by rw [List.length_take, List.length_drop, HCLn.out]; omega
       refine .inl ⟨qaa rfl _, .inr ⟨_, _, (by go_simp), (qjp _ _ W hrow (by omega) HPOS.out).mono ?_⟩⟩
       rintro e W' ⟨G, rfl, hG, b⟩
       rw [hln, HBS.out] at hG
       refine ⟨_, rfl, ⟨hSW.1.trans ((xap b).mono fun _ h => (show (False : Prop) from h).elim), ?_⟩, ⟨G, by rw [hln], by rw [hln]; exact hG⟩, fun j _ _ h => qqy.below h b⟩
       obtain ⟨_, P', h1, h2⟩ := hSW
       exact ⟨P', h1, h2.kb b⟩
     | 9, ho =>
       simp only [xab, xad, xae, xai] at ho
       subst ho
       have h3 : us 3 = qmj wr.heap.size k f t := hD 3 (by kernel_rfl)
       obtain ⟨G, h8, hG⟩ : ∃ G, us 8 = .slice (some ⟨G, 0, none⟩) (t - f) (t - f) /\ RB W (us 8) bs := hD 8 (by kernel_rfl)
       rw [h8] at hG
       rw [h3, h8, qrc]
       obtain ⟨hM, P', h1, h2⟩ := hSW
       have hbl := HBL.out
       have hcl2 : (rb bs).length = t - f := by rw [qw8, hbl]
       have hsrc : ∀ j v, (rb bs)[j]? = some v -> W.cell? ((⟨G, 0, none⟩ : Addr).add j) = some v := by
        rcases hG with ⟨h, _⟩ | ⟨a, cp, hv, _, hc⟩
        ·cases h
        ·injection hv with hv1
         injection hv1 with hv1
         subst hv1
         exact hc
       have hrun := run_copy_row Tryz.prog W 120 120 3 4 wr.heap.size (if k = f then 0 else f) (t - f) (k - f) ⟨G, 0, none⟩ (t - f) (t - f) (qa0 k fun j => .bool (cov P' j && bk j)) 4 (rb bs)
        Tryz.underlying120 (by kernel_rfl) h2 (by rw [hcl2]; simp) hsrc (by rw [hcl2, qa1]; split <;> omega) (fun v hv => by
         obtain ⟨b, _, rfl⟩ := List.mem_map.1 hv
         rfl)
       rw [qqh (G := fun j => .bool (cov (pre.map (·.1) ++ [(f, t)]) j && bk j)) (f := f) (by rw [hcl2]; omega) (by
        by_cases e : k = f
        ·rw [if_pos e]
         exact .inr ⟨List.eq_nil_of_length_eq_zero (by rw [hcl2]; omega), Nat.zero_le _⟩
        ·rw [if_neg e]
         exact .inl rfl) (fun j v hj => by
        have hjl := (xah hj).1
        rw [hcl2] at hjl
        have e := HBA.out (f + j) (by omega) (by omega)
        rw [show f + j - f = j by omega] at e
        unfold rb at hj
        rw [xan, e] at hj
        injection hj with hj
        rw [<- hj, qfm]
        have e1 : decide (f <= f + j) = true := decide_eq_true (by omega)
        have e2 : decide (f + j < t) = true := decide_eq_true (by omega)
        show Value.bool ((cov _ (f + j) || (decide (f <= f + j) && decide (f + j < t))) && bk (f + j)) = _
        rw [e1, e2]
        simp) (fun j hj hn => by
        rw [hcl2] at hn
        have e1 : (decide (f <= j) && decide (j < t)) = false := by
         rw [Bool.eq_false_iff]
         intro h
         simp only [Bool.and_eq_true, decide_eq_true_eq] at h
         exact hn ⟨h.1, by omega⟩
        rcases h1 with rfl | rfl
        ·show Value.bool (cov (_ ++ [(f, t)]) j && bk j) = _
         rw [qfm]
         show Value.bool ((_ || (decide (f <= j) && decide (j < t))) && bk j) = _
         rw [e1, Bool.or_false]
        ·rfl)] at hrun
       rw [HROW.out] at hrun
       have hB' : Blk (W.setRow wr.heap.size row) wr.heap.size 4 row := setRow_heap _ _ _ _ _ _ h2
       refine .inl ⟨qaa rfl _, .inl ⟨goInt (rb bs).length, W.setRow wr.heap.size row, ?_, ⟨hM.trans (qai _ _ _), pre.map (·.1) ++ [(f, t)], .inr rfl, by rw [HROW.out]; exact hB'⟩, ⟨row, rfl, hB'⟩, fun j hj hk h => qqy.copy h (fun e => by subst e; exact absurd hk (by decide)) hj⟩⟩
       rotate_left
       ·unfold execOp
        simp only [resolve, invoke, builtin, Sem.run_bind, Sem.run_pure, Result.andThen_ok, List.map_toArray, List.map_cons, List.map_nil, Act.eval]
        simp [hrun]
     | n + 10, ho => simp at ho
    case doneK =>
     intro us W hSW hD
     obtain ⟨row2, hr2, hB9⟩ : ∃ r, Value.agg row = .agg r /\ Blk W wr.heap.size 4 r := hD 9 (by decide) (fun i _ hk _ => by simp [killL] at hk)
     injection hr2 with hr2
     subst hr2
     rw [<- HROW.out] at hB9
     simp only [qae, Act.put, xaf, xaj, xak]
     have P7 := HP6.out.over (P' := pre.map (·.1) ++ [(f, t)]) hSW.1 (by omega) (by omega) (by omega) (by omega) (by omega) (by omega) (by omega) hB9
     have k7 : Kq (w4.heap.size + 2) X W := ⟨xau HK6.out.1 hSW.1.size, fun j h1 h2 => (hSW.1.block j (by have := HK6.out.1; omega) (by omega)).trans (HK6.out.2 j h1 h2)⟩
     have P9 := P7.put rdy (by omega) (by omega) (by omega) (by omega) (by omega) (by omega)
     have k9 : Kq (w4.heap.size + 2) X (W.putObj (w4.heap.size + 1) rdy) := ⟨xau k7.1 (by simp [World.putObj]), fun j h1 h2 => (World.putObj_heap_other (by omega)).trans (k7.2 j h1 h2)⟩
     have l8 := P7.loop
     have Q9 := P9
     rw [<- HPM.out] at P9
     clear P7 k7 hB9 hD HSS
     gi_wp2_with fail
     all_goals first | exact Q9 | exact P9 | exact k9 | exact l8
   case done =>
    intro rdy exh xs X hr he hxs hP
    have P9 := hP.put exh (by omega) (by omega) (by omega) (by omega) (by omega) (by omega)
    obtain ⟨X9, hX9⟩ : ∃ X9, X.putObj (w4.heap.size + 1) exh = X9 := ⟨_, rfl⟩
    rw [hX9] at P9 |-
    clear hX9 hP
    have c9 := P9.be.cell
    gi_wp2
    refine ⟨by simp, .inl ⟨_, _, rfl, run_takeDeferred P9.defd, ?_⟩⟩
    have ga := grownBy_putObj' X9 w4.heap.size (.deferred none)
    refine ⟨_, results_tmp rfl _ _ _, wr.heap.size, rfl, by omega, ?_, P9.below.grown ga P9.below.size (fun k e => by injection e with e; omega)⟩
    have h9 := P9.row
    have e : (qa0 k fun j => Value.bool (cov (xs.map (·.1)) j && bk j)) = qa0 k fun j => .bool (bk j) := qdc fun j hj => by rw [<- HBK.out, qwo hxs (by rw [HL.out]; exact hj)]
    rw [e] at h9
    exact (World.putObj_heap_other (by omega)).trans h9
end
end Go.Proofs.YtmceblkjbpbcoaaGreatDoor
