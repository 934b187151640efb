/- Contracts of layers below. -/
import Derived.Test.YtmceblkjbpbcoaaGreatDoorPBase
import Derived.Test.YtmceblkjbpbcoaaGreatDoorPWhB
import Derived.Test.YtmceblkjbpbcoaaGreatDoorPApG
namespace Go.Proofs.YtmceblkjbpbcoaaGreatDoor
set_option maxRecDepth 100000
set_option maxHeartbeats 8000000
namespace Wl
open Go.ChangeShapes Go.WideShapes Go.ChangeAt Go.RowKit Go.Shelf
open Wh
theorem qb5 (x : Cw) (l : List Cw) : qcx (x :: l) = (cwA x).toList ++ qcx l := rfl
theorem qbv (x : Cw) : (cwA x).toList.length = 6 := rfl
theorem qtk {α : Type} (X ys : List α) (o N : Nat) (hy : ys.length = 6) (h1 : o + 6 <= N) (h2 : N <= X.length) : (X.take o ++ (ys ++ X.drop (o + 6))).take N = (X.take N).take o ++ (ys ++ (X.take N).drop (o + 6)) := by
 have e : (X.take o).length = o := by rw [List.length_take]; omega
 rw [List.take_append, List.take_append, e, hy, List.take_take, List.take_take, List.drop_take, Nat.min_eq_right (by omega), Nat.min_eq_left (by omega), List.take_of_length_le (l := ys) (by omega), show N - o - 6 = N - (o + 6) by omega]
theorem qj4 (y : Cw) : ∀ (l : List Cw) (k : Nat), k < l.length -> qcx (l.set k y) = (qcx l).take (k * 6) ++ ((cwA y).toList ++ (qcx l).drop (k * 6 + 6))
 | x :: l, 0, _ => by
   rw [xaj, qb5, qb5, Nat.zero_mul, List.take_zero, List.nil_append, Nat.zero_add, List.drop_append, qbv, Nat.sub_self, List.drop_zero, @List.drop_eq_nil_of_le _ (cwA x).toList _ (by rw [qbv]; exact xat), List.nil_append]
 | x :: l, k + 1, h => by
   have ih := qj4 y l k (by simpa using h)
   rw [xak, qb5, qb5, ih, List.take_append, List.drop_append, qbv, List.take_of_length_le (l := (cwA x).toList) (by rw [qbv]; omega), @List.drop_eq_nil_of_le _ (cwA x).toList _ (by rw [qbv]; omega), List.nil_append,
    show (k + 1) * 6 - 6 = k * 6 by omega, show (k + 1) * 6 + 6 - 6 = k * 6 + 6 by omega, List.append_assoc]
structure OwnAt (base g cap : Nat) (cur : Array Value) (l : List Cw) (w : World) : Prop where
 hb : base <= g
 hB : Blk w g 116 cur
 hn : l.length <= cap
 hm : cap <= maxLen
 hs : cur.size = cap * 6
 ht : cur.toList.take (l.length * 6) = qcx l
theorem OwW.at_ {base g cap n : Nat} {w : World} {l : List Cw} (h : OwW base w (.slice (some ⟨g, 0, none⟩) n cap) l) : ∃ cur, OwnAt base g cap cur l w := by
 rcases h.2 with ⟨h, _⟩ | ⟨g', cap', cur, hv, h1, h2, h3, h4, h5, h6⟩
 ·cases h
 ·injection hv with e1 e2 e3
  injection e1 with e1
  injection e1 with e1
  subst e1 e3
  exact ⟨cur, h1, h2, h3, h4, h5, h6⟩
theorem OwnAt.ow {base g cap : Nat} {cur : Array Value} {l : List Cw} {w : World} (h : OwnAt base g cap cur l w) : OwW base w (.slice (some ⟨g, 0, none⟩) l.length cap) l :=
 ⟨qgh l, .inr ⟨g, cap, cur, rfl, h.hb, h.hB, h.hn, h.hm, h.hs, h.ht⟩⟩
theorem OwnAt.has {base g cap : Nat} {cur : Array Value} {l : List Cw} {w : World} (h : OwnAt base g cap cur l w) {k : Nat} {c : Cw} (hk : l[k]? = some c) : Has cur (k * 6) (cwA c).toList :=
 ⟨fun j u hu => by
  obtain ⟨a, cap2, o, hv, hb, ha, hL⟩ := h.ow.rw_.get (xas) hk
  injection hv with e1
  injection e1 with e1
  subst e1
  have e2 : (⟨g, 0, none⟩ : Addr).add (k * 6) = ⟨g, k * 6, none⟩ := by unfold Addr.add; split <;> simp_all
  rw [e2] at ha
  injection ha with _ ha
  subst ha
  have := hL j u (by simpa using hu)
  rw [Addr.add_lit, h.hB.cell] at this
  exact this⟩
theorem OwnAt.set_ {base g cap : Nat} {cur : Array Value} {l : List Cw} {w w' : World} (h : OwnAt base g cap cur l w) {k : Nat} {c y : Cw} (hk : l[k]? = some c) (hB : Blk w' g 116 (spl cur (k * 6) (cwA y).toList)) : OwnAt base g cap (spl cur (k * 6) (cwA y).toList) (l.set k y) w' := by
 have hkl := (xah hk).1
 have hle := (h.has hk).le (by simp [cwA])
 rw [qbv] at hle
 refine ⟨h.hb, hB, by rw [List.length_set]; exact h.hn, h.hm, by rw [qfi _ _ _ (by rw [qbv]; exact hle)]; exact h.hs, ?_⟩
 rw [List.length_set, qj4 y l k hkl, <- h.ht]
 have h3 : l.length * 6 <= cur.toList.length := by rw [Array.length_toList (xs := cur), h.hs]; exact Nat.mul_le_mul_right 6 h.hn
 exact qtk cur.toList (cwA y).toList (k * 6) (l.length * 6) rfl (by omega) h3
theorem qa6 {P : Program} {ops : Array Oper} {Q : Exit -> Act -> World -> Prop} {a : Act} {w : World} {rest : List Oper} {o : Oper} (hg : o.guard = none) (ty : TypeId) (x y : Operand) (ho : o.op = .store ty x y) (hd : o.dst = none) (g : Nat) (hx : a.eval x = .pointer (some ⟨g, 0, none⟩)) (u : Value) (hy : a.eval y = u) (hone : u.oneCell' = true) (hcl : u.cells = #[u])
 (hi : (P.info? ty).map (·.size) = some 1) (t : TypeId) (old : Value) (hB : Boxed w g t old) (h : ∀ w', Mod (fun k => k = g) w w' -> Boxed w' g t u -> wpList P ops Q rest a w') : wpList P ops Q (o :: rest) a w := by
 refine wpList_plain hg fun K hK => ?_
 have hb : Blk w g t #[old] := hB
 have hrun := qap (P := P) g 0 t [u] 0 #[old] w hb (by simp) (fun v hv => by rw [List.mem_singleton] at hv; rw [hv]; exact hone)
 have hv : (storeVar ty ⟨g, 0, none⟩ u).run P w = .ok () (w.setRow g #[u]) := by
  cases hq : P.info? ty with
  | none => simp [hq] at hi
  | some i =>
    have hs : i.size = 1 := by simpa [hq] using hi
    have e : spl #[old] (0 + 0) [u] = #[u] := by simp [spl]
    rw [e] at hrun
    simp [storeVar, sizeOf, typeInfo, hq, hs, hcl, hrun]
 unfold Oper.wp execOp
 simp only [ho, hx, hy, Instr.storeAt, Instr.sureAddr, Sem.run_bind, Sem.run_pure, Result.andThen_ok, hv]
 show K (a.put o.dst undef) _
 rw [hd]
 exact hK _ _ (h _ (qai _ _ _) (setRow_heap _ _ _ _ _ _ hb))
theorem wpOp_call {P : Program} {ops : Array Oper} {Q : Exit -> Act -> World -> Prop} {i f : Nat} {o : Oper} {a : Act} {w : World} {K : Act -> World -> Prop} {args : Array Value} (hi : ops[i]? = some o) (hg : o.guard = none) (hr : (execOp a.eval o).run P w = .ok (.enter f args) w)
 (hc : Calls P f args w fun e w' => ∃ u, e = .returned u /\ K (a.put o.dst u) w') : Go.wpOp P ops Q i K a w := by
 refine qbh hi hg ?_
 simp only [Oper.wp, hr, Oper.upon]
 refine Calls.mono hc ?_
 rintro e w'' ⟨u, rfl, h⟩
 exact h
theorem qfx (H : Nat) (t : Cw -> Cw) (base : Nat) (l : List Cw) (v : Value) (w : World) (hO : OwW base w v l) (hbase : base <= w.heap.size) (hlen : l.length <= 1048576)
 (hegH : ∀ args w, (callFunc H args).run Tryz.prog w = .ok (.enter H args) w)
 (hT : ∀ x g o cur W, Blk W g 116 cur -> Has cur o (cwA x).toList -> Calls Tryz.prog H #[.pointer (some ⟨g, o, none⟩)] W (Chg g o cur (t x) W)) :
 Calls Tryz.prog 39 #[.agg #[Value.nilFunc, Value.nilFunc, .func (.func H) #[] #[]], v] w fun e w' => ∃ u, e = .returned u /\ OwW base w' u ((l).map t) /\ Below base w w' := by
 have hng : ∀ w, (binOp BinOp.neq 108 (Value.nilFunc) Value.nilFunc).run Tryz.prog w = .ok (.bool false) w := fun _ => by kernel_rfl
 have hnh : ∀ w, (binOp BinOp.neq 109 (.func (.func H) #[] #[]) Value.nilFunc).run Tryz.prog w = .ok (.bool true) w := fun _ => by kernel_rfl
 have HT := xaa hT
 clear hT
 have HO := xaa hO
 have HLEN := xaa hlen
 have HNE : Hid (∀ A n c, v = .slice A n c -> ∀ g, A = some ⟨g, 0, none⟩ -> g ≠ w.heap.size) := xaa fun A n c hv g hg he => by
  subst hv hg he
  obtain ⟨cur, h⟩ := hO.at_
  have := h.hB.lt
  omega
 obtain ⟨A, cap, rfl⟩ := hO.rw_.form
 have HNE := xaa (HNE.out A _ cap rfl)
 obtain ⟨n, hn⟩ : ∃ n, l.length = n := ⟨_, rfl⟩
 have HN := xaa hn
 rw [hn] at HO hlen |-
 clear hO hn
 go_enter Tryz.func39, Tryz.ntmps39
 go_wp2_with fail
 have b1 : Below w.heap.size w ((w.alloc (.cells #[Value.nilFunc, Value.nilFunc, .func (.func H) #[] #[]] 111)).alloc (.cells #[.slice A n cap] 104)) := ((Below.refl _ w).alloc (xat) _).alloc (by simp) _
 have B1 := (Blk.new w 111 #[Value.nilFunc, Value.nilFunc, .func (.func H) #[] #[]]).alloc (.cells #[.slice A n cap] 104)
 have X1 := Boxed.new (w.alloc (.cells #[Value.nilFunc, Value.nilFunc, .func (.func H) #[] #[]] 111)) 104 (.slice A n cap)
 simp only [World.size_alloc] at X1
 obtain ⟨w1, hw1⟩ : ∃ w1, (w.alloc (.cells #[Value.nilFunc, Value.nilFunc, .func (.func H) #[] #[]] 111)).alloc (.cells #[.slice A n cap] 104) = w1 := ⟨_, rfl⟩
 rw [hw1] at b1 B1 X1 |-
 clear hw1
 have bb1 := b1.mono hbase
 have O1 : OwW base w1 (.slice A n cap) l := HO.out.below b1
 have OS := O1
 have BS := B1
 have bS := bb1
 clear O1 B1 bb1 X1 b1 HO
 go_loopg [27] n (fun kx s27 wr => ∃ k : Nat, s27 = .int .i64 k /\ k <= n /\ kx = n - k /\ OwW base wr (.slice A n cap) (mt t l k) /\ Blk wr w.heap.size 111 #[Value.nilFunc, Value.nilFunc, .func (.func H) #[] #[]] /\ Below base w wr)
 case atStart => exact ⟨0, rfl, by omega, by omega, OS, BS, bS⟩
 case round =>
  clear OS BS bS
  obtain ⟨k, rfl, hk, rfl, O, B, b⟩ := hrel
  by_cases hkm : k < n
  ·obtain ⟨c, hc⟩ := qef (l := l) (i := k) (by rw [HN.out]; exact hkm)
   have hmt := mt_at (t := t) hc
   obtain ⟨g, rfl⟩ : ∃ g, A = some ⟨g, 0, none⟩ := by
    rcases O.2 with ⟨h, _⟩ | ⟨g, cap, cur, hv, _⟩
    ·injection h with _ h
     omega
    ·injection hv with hv
     exact ⟨g, hv⟩
   have hne := HNE.out g rfl
   obtain ⟨cur, OA⟩ := O.at_
   have HAS := xaa (OA.has hmt)
   have hao : (⟨g, 0, none⟩ : Addr).add (k * 6) = ⟨g, k * 6, none⟩ := by rw [Addr.add_lit, Nat.zero_add]
   have hgb := OA.hb
   have CC : Hid (∀ W, Below wr.heap.size wr W -> W.cell? ⟨w.heap.size, 2, none⟩ = some (.func (.func H) #[] #[])) := xaa fun W h => (B.kb h).cell 2
   have HOA := xaa OA
   have HB := xaa b
   have HBS := xaa B
   have HMT := xaa hmt
   have HC := xaa hc
   have hbs' : base <= wr.heap.size := xau hbase b.size
   have hkz : (k : Int) < n := by omega
   clear O OA b B hmt hc
   go_wp2_with fail
   refine qcs (by kernel_rfl) (fun W => Below wr.heap.size wr W) (below_drewN (xas) 1) 5 (by rfl) (by kernel_rfl) (by kernel_rfl) (fun R hR => ?_)
   refine AllS.f_ (i := 0) CC.out ?_
   refine AllS.f_ (i := 1) CC.out ?_
   refine AllS.f_ (i := 2) CC.out ?_
   refine AllS.f_ (i := 3) CC.out ?_
   refine AllS.f_ (i := 4) CC.out ?_
   refine AllS.done (by kernel_rfl) (hR.out _ ?_) _
   clear hR R
   intro w2 b2
   have q := CC.out w2 b2
   have B2 := HOA.out.hB.kb b2
   refine wpOp_call (by rw [xab]; rfl) rfl (by go_simp) ((HT.out c g (k * 6) cur w2 B2 HAS.out).mono ?_)
   rintro e w3 ⟨rfl, m3, B3⟩
   refine ⟨_, rfl, ?_⟩
   have O3 : OwW base w3 (.slice (some ⟨g, 0, none⟩) n cap) (mt t l (k + 1)) := by
    rw [qrb HC.out]
    have := (HOA.out.set_ HMT.out B3).ow
    rwa [List.length_set, qxf, HN.out] at this
   have S3 : Blk w3 w.heap.size 111 #[Value.nilFunc, Value.nilFunc, .func (.func H) #[] #[]] := (HBS.out.kb b2).keep m3 (fun h => hne h.symm)
   have b3 : Below base w w3 := HB.out.trans ((b2.mono hbs').trans (m3.below (xau hbs' b2.size) fun j hj => by omega))
   clear q B2 B3 m3 b2 HOA HAS HBS HMT CC
   go_wp2_with fail
   go_roundg (n - (k + 1))
   case measure => omega
   case rel => exact ⟨k + 1, by go_num, by omega, by omega, O3, S3, b3⟩
  ·obtain rfl : k = n := by omega
   have O2 := O
   have hma := qxg t l
   rw [HN.out] at hma
   rw [hma] at O2
   have HO2 := xaa O2
   clear O O2 hma
   go_wp2_with fail
   go_ret
   exact ⟨_, rfl, by have := HO2.out; exact this, b⟩
theorem qdz (K : Nat) (gone : Cw -> Cw -> Cw -> Bool) (base : Nat) (l : List Cw) (v : Value) (w : World) (hO : OwW base w v l) (hbase : base <= w.heap.size) (hlen : l.length <= 1048576)
 (hegK : ∀ args w, (callFunc K args).run Tryz.prog w = .ok (.enter K args) w)
 (hG : ∀ b c a W, Below base w W -> Calls Tryz.prog K #[.agg (cwA b), .agg (cwA c), .agg (cwA a)] W fun e w' => e = .returned (.bool (gone b c a)) /\ Below W.heap.size W w') :
 Calls Tryz.prog 39 #[.agg #[Value.nilFunc, .func (.func K) #[] #[], Value.nilFunc], v] w fun e w' => ∃ u, e = .returned u /\ OwW base w' u (filt none1 gone nb l) /\ Below base w w' := by
 have hng : ∀ w, (binOp BinOp.neq 108 (.func (.func K) #[] #[]) Value.nilFunc).run Tryz.prog w = .ok (.bool true) w := fun _ => by kernel_rfl
 have hnh : ∀ w, (binOp BinOp.neq 109 (Value.nilFunc) Value.nilFunc).run Tryz.prog w = .ok (.bool false) w := fun _ => by kernel_rfl
 have HG := xaa hG
 clear hG
 have HO := xaa hO
 have HLEN := xaa hlen
 obtain ⟨A, cap, rfl⟩ := hO.rw_.form
 obtain ⟨n, hn⟩ : ∃ n, l.length = n := ⟨_, rfl⟩
 have HN := xaa hn
 rw [hn] at HO hlen |-
 clear hO hn
 go_enter Tryz.func39, Tryz.ntmps39
 go_wp2_with fail
 have b1 : Below w.heap.size w ((w.alloc (.cells #[Value.nilFunc, .func (.func K) #[] #[], Value.nilFunc] 111)).alloc (.cells #[.slice A n cap] 104)) := ((Below.refl _ w).alloc (xat) _).alloc (by simp) _
 have B1 := (Blk.new w 111 #[Value.nilFunc, .func (.func K) #[] #[], Value.nilFunc]).alloc (.cells #[.slice A n cap] 104)
 have X1 := Boxed.new (w.alloc (.cells #[Value.nilFunc, .func (.func K) #[] #[], Value.nilFunc] 111)) 104 (.slice A n cap)
 simp only [World.size_alloc] at X1
 obtain ⟨w1, hw1⟩ : ∃ w1, (w.alloc (.cells #[Value.nilFunc, .func (.func K) #[] #[], Value.nilFunc] 111)).alloc (.cells #[.slice A n cap] 104) = w1 := ⟨_, rfl⟩
 rw [hw1] at b1 B1 X1 |-
 clear hw1
 have bb1 := b1.mono hbase
 have O1 : OwW base w1 (.slice A n cap) l := HO.out.below b1
 have R1 := O1.rw_
 have HX1 := xaa X1
 have HB1 := xaa B1
 have HR1 := xaa R1
 have hs1 := b1.size
 clear O1 R1 X1 B1
 refine (qlv _ _ l (.slice A n cap) w1 HR1.out HLEN.out).mono ?_
 rintro e w2 ⟨u1, u2, rfl, n1, n2, b2⟩
 have HN1 := xaa n1
 have HN2 := xaa n2
 obtain ⟨gf, gl, rfl, -⟩ := n1
 obtain ⟨gf2, gl2, rfl, -⟩ := n2
 have hc0 : w2.cell? ⟨w.heap.size + 1, 0, none⟩ = some (.slice A n cap) := (World.cell?_of_block (a := ⟨w.heap.size + 1, 0, none⟩) (b2.block _ HX1.out.lt)).trans HX1.out.cell
 have hl2 := HX1.out.lt
 have hl3 := b2.size
 have ou1 : (Value.func (.func 140) #[] #[.pointer (some ⟨gf, 0, none⟩), .pointer (some ⟨gl, 0, none⟩)]).oneCell' = true := by kernel_rfl
 have ou2 : (Value.func (.func 140) #[] #[.pointer (some ⟨gf2, 0, none⟩), .pointer (some ⟨gl2, 0, none⟩)]).oneCell' = true := by kernel_rfl
 have Z1 := xaa ((Boxed.new w2 150 Value.nilFunc).alloc (.cells #[Value.nilFunc] 150))
 have Z2 : Hid (Boxed ((w2.alloc (.cells #[Value.nilFunc] 150)).alloc (.cells #[Value.nilFunc] 150)) (w2.heap.size + 1) 150 Value.nilFunc) := xaa (by
  have := Boxed.new (w2.alloc (.cells #[Value.nilFunc] 150)) 150 Value.nilFunc
  simpa only [World.size_alloc] using this)
 have b23 : Below w2.heap.size w2 ((w2.alloc (.cells #[Value.nilFunc] 150)).alloc (.cells #[Value.nilFunc] 150)) := ((Below.refl _ w2).alloc (xat) _).alloc (by simp) _
 go_wp2_with (first
  | (refine qa6 rfl 150 (.tmp 6) (.tmp 17) rfl rfl w2.heap.size rfl _ rfl ou1 rfl (by kernel_rfl) _ _ Z1.out ?_; intro w25 m25 Y1)
  | (refine qa6 rfl 150 (.tmp 7) (.tmp 18) rfl rfl (w2.heap.size + 1) rfl _ rfl ou2 rfl (by kernel_rfl) _ _ ((m25.block _ (by simp) (by omega)).trans Z2.out) ?_; intro w3 m3 Y2; refine Mk.out ?_))
 constructor
 have m3s := m25.size
 simp only [World.size_alloc] at m3s
 have b3 : Below w2.heap.size w2 w3 := (b23.trans (m25.below (by simp; omega) fun k hk => by omega)).trans (m3.below (by omega) fun k hk => by omega)
 have Y1 : Boxed w3 w2.heap.size 150 _ := (m3.block _ (by omega) (by omega)).trans Y1
 clear m25 m3 m3s Z1 Z2 b23 ou1 ou2
 clear hc0 hl2 hl3
 have b13 := xaq b2 b3
 have b03 : Below base w w3 := bb1.trans (b13.mono (xau hbase hs1))
 have h1 := HB1.out.kb b13
 have h3 : Boxed w3 (w.heap.size + 1) 104 (.slice A n cap) := (b13.block _ HX1.out.lt).trans HX1.out
 have hc3 := h3.cell
 go_wp2_with fail
 clear hc3
 refine (qhx l (.slice A n cap) (gnI none1 gone l) _ _ _ _ w3 (HR1.out.below b13) HLEN.out ?ask).mono ?_
 case ask =>
  intro i W hi hW
  obtain ⟨c, hc⟩ := qef hi
  rw [qmo hc]
  have hW1 := xaq b13 hW
  refine qfw K gone _ _ l (.slice A n cap) _ _ _ _ w.heap.size w2.heap.size (w.heap.size + 1) (w2.heap.size + 1) i c W hegK (fun b c a X hX => HG.out b c a X (b03.trans ((xaq hW hX).mono (xau hbase b03.size)))) (h1.kb hW) ((hW.block _ Y1.lt).trans Y1) (HN1.out.below (xaq b3 hW)) ((hW.block _ h3.lt).trans h3) ((HR1.out.below b13).below hW) ((hW.block _ Y2.lt).trans Y2) (HN2.out.below (xaq b3 hW)) hc
 rintro e w4 ⟨u, rfl, O4, b4⟩
 have b04 : Below base w w4 := b03.trans (b4.mono (xau hbase b03.size))
 have h4 := h1.kb b4
 have hsz4 := b03.size
 have hgl := h4.cell 2
 rw [qjl] at O4
 have HO4 := xaa (O4.base_ (xau hbase b03.size))
 clear O4 b4 h1 h3 Y1 Y2 b3 b2
 go_wp2_with fail
 go_ret
 exact ⟨_, rfl, HO4.out, b04⟩
theorem qpu (K : Nat) (gone : Cw -> Cw -> Cw -> Bool) (base : Nat) (l : List Cw) (v : Value) (w : World) (hO : OwW base w v l) (hbase : base <= w.heap.size) (hlen : l.length <= 1048576)
 (hegK : ∀ args w, (callFunc K args).run Tryz.prog w = .ok (.enter K args) w)
 (hG : ∀ b c a W, Below base w W -> Calls Tryz.prog K #[.agg (cwA b), .agg (cwA c), .agg (cwA a)] W fun e w' => e = .returned (.bool (gone b c a)) /\ Below W.heap.size W w') :
 Calls Tryz.prog 39 #[.agg #[.func (.func 66) #[] #[], .func (.func K) #[] #[], Value.nilFunc], v] w fun e w' => ∃ u, e = .returned u /\ OwW base w' u (filt whtW gone nb l) /\ Below base w w' := by
 have hng : ∀ w, (binOp BinOp.neq 108 (.func (.func K) #[] #[]) Value.nilFunc).run Tryz.prog w = .ok (.bool true) w := fun _ => by kernel_rfl
 have hnh : ∀ w, (binOp BinOp.neq 109 (Value.nilFunc) Value.nilFunc).run Tryz.prog w = .ok (.bool false) w := fun _ => by kernel_rfl
 have HG := xaa hG
 clear hG
 have HO := xaa hO
 have HLEN := xaa hlen
 obtain ⟨A, cap, rfl⟩ := hO.rw_.form
 obtain ⟨n, hn⟩ : ∃ n, l.length = n := ⟨_, rfl⟩
 have HN := xaa hn
 rw [hn] at HO hlen |-
 clear hO hn
 go_enter Tryz.func39, Tryz.ntmps39
 go_wp2_with fail
 have b1 : Below w.heap.size w ((w.alloc (.cells #[.func (.func 66) #[] #[], .func (.func K) #[] #[], Value.nilFunc] 111)).alloc (.cells #[.slice A n cap] 104)) := ((Below.refl _ w).alloc (xat) _).alloc (by simp) _
 have B1 := (Blk.new w 111 #[.func (.func 66) #[] #[], .func (.func K) #[] #[], Value.nilFunc]).alloc (.cells #[.slice A n cap] 104)
 have X1 := Boxed.new (w.alloc (.cells #[.func (.func 66) #[] #[], .func (.func K) #[] #[], Value.nilFunc] 111)) 104 (.slice A n cap)
 simp only [World.size_alloc] at X1
 obtain ⟨w1, hw1⟩ : ∃ w1, (w.alloc (.cells #[.func (.func 66) #[] #[], .func (.func K) #[] #[], Value.nilFunc] 111)).alloc (.cells #[.slice A n cap] 104) = w1 := ⟨_, rfl⟩
 rw [hw1] at b1 B1 X1 |-
 clear hw1
 have bb1 := b1.mono hbase
 have O1 : OwW base w1 (.slice A n cap) l := HO.out.below b1
 have R1 := O1.rw_
 have HX1 := xaa X1
 have HB1 := xaa B1
 have HR1 := xaa R1
 have hs1 := b1.size
 clear O1 R1 X1 B1
 refine (qtb _ _ l (.slice A n cap) w1 HR1.out HLEN.out).mono ?_
 rintro e w2 ⟨u1, u2, rfl, n1, n2, b2⟩
 have HN1 := xaa n1
 have HN2 := xaa n2
 obtain ⟨gf, gl, rfl, -⟩ := n1
 obtain ⟨gf2, gl2, rfl, -⟩ := n2
 have hc0 : w2.cell? ⟨w.heap.size + 1, 0, none⟩ = some (.slice A n cap) := (World.cell?_of_block (a := ⟨w.heap.size + 1, 0, none⟩) (b2.block _ HX1.out.lt)).trans HX1.out.cell
 have hl2 := HX1.out.lt
 have hl3 := b2.size
 have ou1 : (Value.func (.func 140) #[] #[.pointer (some ⟨gf, 0, none⟩), .pointer (some ⟨gl, 0, none⟩)]).oneCell' = true := by kernel_rfl
 have ou2 : (Value.func (.func 140) #[] #[.pointer (some ⟨gf2, 0, none⟩), .pointer (some ⟨gl2, 0, none⟩)]).oneCell' = true := by kernel_rfl
 have Z1 := xaa ((Boxed.new w2 150 Value.nilFunc).alloc (.cells #[Value.nilFunc] 150))
 have Z2 : Hid (Boxed ((w2.alloc (.cells #[Value.nilFunc] 150)).alloc (.cells #[Value.nilFunc] 150)) (w2.heap.size + 1) 150 Value.nilFunc) := xaa (by
  have := Boxed.new (w2.alloc (.cells #[Value.nilFunc] 150)) 150 Value.nilFunc
  simpa only [World.size_alloc] using this)
 have b23 : Below w2.heap.size w2 ((w2.alloc (.cells #[Value.nilFunc] 150)).alloc (.cells #[Value.nilFunc] 150)) := ((Below.refl _ w2).alloc (xat) _).alloc (by simp) _
 go_wp2_with (first
  | (refine qa6 rfl 150 (.tmp 6) (.tmp 17) rfl rfl w2.heap.size rfl _ rfl ou1 rfl (by kernel_rfl) _ _ Z1.out ?_; intro w25 m25 Y1)
  | (refine qa6 rfl 150 (.tmp 7) (.tmp 18) rfl rfl (w2.heap.size + 1) rfl _ rfl ou2 rfl (by kernel_rfl) _ _ ((m25.block _ (by simp) (by omega)).trans Z2.out) ?_; intro w3 m3 Y2; refine Mk.out ?_))
 constructor
 have m3s := m25.size
 simp only [World.size_alloc] at m3s
 have b3 : Below w2.heap.size w2 w3 := (b23.trans (m25.below (by simp; omega) fun k hk => by omega)).trans (m3.below (by omega) fun k hk => by omega)
 have Y1 : Boxed w3 w2.heap.size 150 _ := (m3.block _ (by omega) (by omega)).trans Y1
 clear m25 m3 m3s Z1 Z2 b23 ou1 ou2
 clear hc0 hl2 hl3
 have b13 := xaq b2 b3
 have b03 : Below base w w3 := bb1.trans (b13.mono (xau hbase hs1))
 have h1 := HB1.out.kb b13
 have h3 : Boxed w3 (w.heap.size + 1) 104 (.slice A n cap) := (b13.block _ HX1.out.lt).trans HX1.out
 have hc3 := h3.cell
 go_wp2_with fail
 clear hc3
 refine (qhx l (.slice A n cap) (gnI whtW gone l) _ _ _ _ w3 (HR1.out.below b13) HLEN.out ?ask).mono ?_
 case ask =>
  intro i W hi hW
  obtain ⟨c, hc⟩ := qef hi
  rw [qmo hc]
  have hW1 := xaq b13 hW
  refine qfw K gone _ _ l (.slice A n cap) _ _ _ _ w.heap.size w2.heap.size (w.heap.size + 1) (w2.heap.size + 1) i c W hegK (fun b c a X hX => HG.out b c a X (b03.trans ((xaq hW hX).mono (xau hbase b03.size)))) (h1.kb hW) ((hW.block _ Y1.lt).trans Y1) (HN1.out.below (xaq b3 hW)) ((hW.block _ h3.lt).trans h3) ((HR1.out.below b13).below hW) ((hW.block _ Y2.lt).trans Y2) (HN2.out.below (xaq b3 hW)) hc
 rintro e w4 ⟨u, rfl, O4, b4⟩
 have b04 : Below base w w4 := b03.trans (b4.mono (xau hbase b03.size))
 have h4 := h1.kb b4
 have hsz4 := b03.size
 have hgl := h4.cell 2
 rw [qjl] at O4
 have HO4 := xaa (O4.base_ (xau hbase b03.size))
 clear O4 b4 h1 h3 Y1 Y2 b3 b2
 go_wp2_with fail
 go_ret
 exact ⟨_, rfl, HO4.out, b04⟩
theorem qpv (K : Nat) (gone : Cw -> Cw -> Cw -> Bool) (H : Nat) (t : Cw -> Cw) (base : Nat) (l : List Cw) (v : Value) (w : World) (hO : OwW base w v l) (hbase : base <= w.heap.size) (hlen : l.length <= 1048576)
 (hegK : ∀ args w, (callFunc K args).run Tryz.prog w = .ok (.enter K args) w)
 (hG : ∀ b c a W, Below base w W -> Calls Tryz.prog K #[.agg (cwA b), .agg (cwA c), .agg (cwA a)] W fun e w' => e = .returned (.bool (gone b c a)) /\ Below W.heap.size W w')
 (hegH : ∀ args w, (callFunc H args).run Tryz.prog w = .ok (.enter H args) w)
 (hT : ∀ x g o cur W, Blk W g 116 cur -> Has cur o (cwA x).toList -> Calls Tryz.prog H #[.pointer (some ⟨g, o, none⟩)] W (Chg g o cur (t x) W)) :
 Calls Tryz.prog 39 #[.agg #[Value.nilFunc, .func (.func K) #[] #[], .func (.func H) #[] #[]], v] w fun e w' => ∃ u, e = .returned u /\ OwW base w' u ((filt none1 gone nb l).map t) /\ Below base w w' := by
 have hng : ∀ w, (binOp BinOp.neq 108 (.func (.func K) #[] #[]) Value.nilFunc).run Tryz.prog w = .ok (.bool true) w := fun _ => by kernel_rfl
 have hnh : ∀ w, (binOp BinOp.neq 109 (.func (.func H) #[] #[]) Value.nilFunc).run Tryz.prog w = .ok (.bool true) w := fun _ => by kernel_rfl
 have HT := xaa hT
 clear hT
 have HG := xaa hG
 clear hG
 have HO := xaa hO
 have HLEN := xaa hlen
 obtain ⟨A, cap, rfl⟩ := hO.rw_.form
 obtain ⟨n, hn⟩ : ∃ n, l.length = n := ⟨_, rfl⟩
 have HN := xaa hn
 rw [hn] at HO hlen |-
 clear hO hn
 go_enter Tryz.func39, Tryz.ntmps39
 go_wp2_with fail
 have b1 : Below w.heap.size w ((w.alloc (.cells #[Value.nilFunc, .func (.func K) #[] #[], .func (.func H) #[] #[]] 111)).alloc (.cells #[.slice A n cap] 104)) := ((Below.refl _ w).alloc (xat) _).alloc (by simp) _
 have B1 := (Blk.new w 111 #[Value.nilFunc, .func (.func K) #[] #[], .func (.func H) #[] #[]]).alloc (.cells #[.slice A n cap] 104)
 have X1 := Boxed.new (w.alloc (.cells #[Value.nilFunc, .func (.func K) #[] #[], .func (.func H) #[] #[]] 111)) 104 (.slice A n cap)
 simp only [World.size_alloc] at X1
 obtain ⟨w1, hw1⟩ : ∃ w1, (w.alloc (.cells #[Value.nilFunc, .func (.func K) #[] #[], .func (.func H) #[] #[]] 111)).alloc (.cells #[.slice A n cap] 104) = w1 := ⟨_, rfl⟩
 rw [hw1] at b1 B1 X1 |-
 clear hw1
 have bb1 := b1.mono hbase
 have O1 : OwW base w1 (.slice A n cap) l := HO.out.below b1
 have R1 := O1.rw_
 have HX1 := xaa X1
 have HB1 := xaa B1
 have HR1 := xaa R1
 have hs1 := b1.size
 clear O1 R1 X1 B1
 refine (qlv _ _ l (.slice A n cap) w1 HR1.out HLEN.out).mono ?_
 rintro e w2 ⟨u1, u2, rfl, n1, n2, b2⟩
 have HN1 := xaa n1
 have HN2 := xaa n2
 obtain ⟨gf, gl, rfl, -⟩ := n1
 obtain ⟨gf2, gl2, rfl, -⟩ := n2
 have hc0 : w2.cell? ⟨w.heap.size + 1, 0, none⟩ = some (.slice A n cap) := (World.cell?_of_block (a := ⟨w.heap.size + 1, 0, none⟩) (b2.block _ HX1.out.lt)).trans HX1.out.cell
 have hl2 := HX1.out.lt
 have hl3 := b2.size
 have ou1 : (Value.func (.func 140) #[] #[.pointer (some ⟨gf, 0, none⟩), .pointer (some ⟨gl, 0, none⟩)]).oneCell' = true := by kernel_rfl
 have ou2 : (Value.func (.func 140) #[] #[.pointer (some ⟨gf2, 0, none⟩), .pointer (some ⟨gl2, 0, none⟩)]).oneCell' = true := by kernel_rfl
 have Z1 := xaa ((Boxed.new w2 150 Value.nilFunc).alloc (.cells #[Value.nilFunc] 150))
 have Z2 : Hid (Boxed ((w2.alloc (.cells #[Value.nilFunc] 150)).alloc (.cells #[Value.nilFunc] 150)) (w2.heap.size + 1) 150 Value.nilFunc) := xaa (by
  have := Boxed.new (w2.alloc (.cells #[Value.nilFunc] 150)) 150 Value.nilFunc
  simpa only [World.size_alloc] using this)
 have b23 : Below w2.heap.size w2 ((w2.alloc (.cells #[Value.nilFunc] 150)).alloc (.cells #[Value.nilFunc] 150)) := ((Below.refl _ w2).alloc (xat) _).alloc (by simp) _
 go_wp2_with (first
  | (refine qa6 rfl 150 (.tmp 6) (.tmp 17) rfl rfl w2.heap.size rfl _ rfl ou1 rfl (by kernel_rfl) _ _ Z1.out ?_; intro w25 m25 Y1)
  | (refine qa6 rfl 150 (.tmp 7) (.tmp 18) rfl rfl (w2.heap.size + 1) rfl _ rfl ou2 rfl (by kernel_rfl) _ _ ((m25.block _ (by simp) (by omega)).trans Z2.out) ?_; intro w3 m3 Y2; refine Mk.out ?_))
 constructor
 have m3s := m25.size
 simp only [World.size_alloc] at m3s
 have b3 : Below w2.heap.size w2 w3 := (b23.trans (m25.below (by simp; omega) fun k hk => by omega)).trans (m3.below (by omega) fun k hk => by omega)
 have Y1 : Boxed w3 w2.heap.size 150 _ := (m3.block _ (by omega) (by omega)).trans Y1
 clear m25 m3 m3s Z1 Z2 b23 ou1 ou2
 clear hc0 hl2 hl3
 have b13 := xaq b2 b3
 have b03 : Below base w w3 := bb1.trans (b13.mono (xau hbase hs1))
 have h1 := HB1.out.kb b13
 have h3 : Boxed w3 (w.heap.size + 1) 104 (.slice A n cap) := (b13.block _ HX1.out.lt).trans HX1.out
 have hc3 := h3.cell
 go_wp2_with fail
 clear hc3
 refine (qhx l (.slice A n cap) (gnI none1 gone l) _ _ _ _ w3 (HR1.out.below b13) HLEN.out ?ask).mono ?_
 case ask =>
  intro i W hi hW
  obtain ⟨c, hc⟩ := qef hi
  rw [qmo hc]
  have hW1 := xaq b13 hW
  refine qfw K gone _ _ l (.slice A n cap) _ _ _ _ w.heap.size w2.heap.size (w.heap.size + 1) (w2.heap.size + 1) i c W hegK (fun b c a X hX => HG.out b c a X (b03.trans ((xaq hW hX).mono (xau hbase b03.size)))) (h1.kb hW) ((hW.block _ Y1.lt).trans Y1) (HN1.out.below (xaq b3 hW)) ((hW.block _ h3.lt).trans h3) ((HR1.out.below b13).below hW) ((hW.block _ Y2.lt).trans Y2) (HN2.out.below (xaq b3 hW)) hc
 rintro e w4 ⟨u, rfl, O4, b4⟩
 have b04 : Below base w w4 := b03.trans (b4.mono (xau hbase b03.size))
 have h4 := h1.kb b4
 have hsz4 := b03.size
 rw [qjl] at O4
 have hgl := h4.cell 2
 have hw1s := HX1.out.lt
 have hw1l := b13.size
 have HNE0 : Hid (∀ A2 n2 c2, u = .slice A2 n2 c2 -> ∀ g, A2 = some ⟨g, 0, none⟩ -> g ≠ w.heap.size) := xaa fun A2 n2 c2 hv g hg he => by
  subst hv hg he
  obtain ⟨cur, h⟩ := O4.at_
  have := h.hb
  omega
 obtain ⟨A2, cap2, rfl⟩ := O4.rw_.form
 have HNE := xaa (HNE0.out A2 _ cap2 rfl)
 obtain ⟨L, hL⟩ : ∃ L, filt none1 gone nb l = L := ⟨_, rfl⟩
 have HLF := xaa hL
 rw [hL] at O4
 have hL2 : L.length <= 1048576 := by
  have := qmb (gnI none1 gone l) l l.length
  rw [qjl, hL] at this
  exact xau this HLEN.out
 rw [hL]
 obtain ⟨n2, hn2⟩ : ∃ n2, L.length = n2 := ⟨_, rfl⟩
 have HN := xaa hn2
 have OS : OwW base w4 (.slice A2 L.length cap2) L := O4.base_ (xau hbase b03.size)
 rw [hn2] at hL2 OS |-
 have BS := h4
 have bS := b04
 clear O4 hL hn2 b4 h4 h1 h3 Y1 Y2 b3 b2 HN1 HN2 HB1 HX1 HR1 b13 b03 HG HNE0 b04 b1 bb1
 go_wp2_with fail
 go_loopg [27] n2 (fun kx s27 wr => ∃ k : Nat, s27 = .int .i64 k /\ k <= n2 /\ kx = n2 - k /\ OwW base wr (.slice A2 n2 cap2) (mt t L k) /\ Blk wr w.heap.size 111 #[Value.nilFunc, .func (.func K) #[] #[], .func (.func H) #[] #[]] /\ Below base w wr)
 case atStart => exact ⟨0, rfl, by omega, by omega, OS, BS, bS⟩
 case round =>
  clear OS BS bS
  obtain ⟨k, rfl, hk, rfl, O, B, b⟩ := hrel
  by_cases hkm : k < n2
  ·obtain ⟨c, hc⟩ := qef (l := L) (i := k) (by rw [HN.out]; exact hkm)
   have hmt := mt_at (t := t) hc
   obtain ⟨g, rfl⟩ : ∃ g, A2 = some ⟨g, 0, none⟩ := by
    rcases O.2 with ⟨h, _⟩ | ⟨g, cap, cur, hv, _⟩
    ·injection h with _ h
     omega
    ·injection hv with hv
     exact ⟨g, hv⟩
   have hne := HNE.out g rfl
   obtain ⟨cur, OA⟩ := O.at_
   have HAS := xaa (OA.has hmt)
   have hao : (⟨g, 0, none⟩ : Addr).add (k * 6) = ⟨g, k * 6, none⟩ := by rw [Addr.add_lit, Nat.zero_add]
   have hgb := OA.hb
   have CC : Hid (∀ W, Below wr.heap.size wr W -> W.cell? ⟨w.heap.size, 2, none⟩ = some (.func (.func H) #[] #[])) := xaa fun W h => (B.kb h).cell 2
   have HOA := xaa OA
   have HB := xaa b
   have HBS := xaa B
   have HMT := xaa hmt
   have HC := xaa hc
   have hbs' : base <= wr.heap.size := xau hbase b.size
   have hkz : (k : Int) < n2 := by omega
   clear O OA b B hmt hc
   go_wp2_with fail
   refine qcs (by kernel_rfl) (fun W => Below wr.heap.size wr W) (below_drewN (xas) 1) 5 (by rfl) (by kernel_rfl) (by kernel_rfl) (fun R hR => ?_)
   refine AllS.f_ (i := 0) CC.out ?_
   refine AllS.f_ (i := 1) CC.out ?_
   refine AllS.f_ (i := 2) CC.out ?_
   refine AllS.f_ (i := 3) CC.out ?_
   refine AllS.f_ (i := 4) CC.out ?_
   refine AllS.done (by kernel_rfl) (hR.out _ ?_) _
   clear hR R
   intro w2 b2
   have q := CC.out w2 b2
   have B2 := HOA.out.hB.kb b2
   refine wpOp_call (by rw [xab]; rfl) rfl (by go_simp) ((HT.out c g (k * 6) cur w2 B2 HAS.out).mono ?_)
   rintro e w3 ⟨rfl, m3, B3⟩
   refine ⟨_, rfl, ?_⟩
   have O3 : OwW base w3 (.slice (some ⟨g, 0, none⟩) n2 cap2) (mt t L (k + 1)) := by
    rw [qrb HC.out]
    have := (HOA.out.set_ HMT.out B3).ow
    rwa [List.length_set, qxf, HN.out] at this
   have S3 : Blk w3 w.heap.size 111 #[Value.nilFunc, .func (.func K) #[] #[], .func (.func H) #[] #[]] := (HBS.out.kb b2).keep m3 (fun h => hne h.symm)
   have b3 : Below base w w3 := HB.out.trans ((b2.mono hbs').trans (m3.below (xau hbs' b2.size) fun j hj => by omega))
   clear q B2 B3 m3 b2 HOA HAS HBS HMT CC
   go_wp2_with fail
   go_roundg (n2 - (k + 1))
   case measure => omega
   case rel => exact ⟨k + 1, by go_num, by omega, by omega, O3, S3, b3⟩
  ·obtain rfl : k = n2 := by omega
   have O2 := O
   have hma := qxg t L
   rw [HN.out] at hma
   rw [hma] at O2
   have HO2 := xaa O2
   clear O O2 hma
   go_wp2_with fail
   go_ret
   exact ⟨_, rfl, by have := HO2.out; rw [HLF.out]; exact this, b⟩
end Wl
end Go.Proofs.YtmceblkjbpbcoaaGreatDoor
