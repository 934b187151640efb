/- Contracts of layers below. -/
import Derived.Test.YtmceblkjbpbcoaaGreatDoorPBase
import Derived.Test.YtmceblkjbpbcoaaGreatDoorPPr5
import Derived.Test.YtmceblkjbpbcoaaGreatDoorPRowF
namespace Go.Proofs.YtmceblkjbpbcoaaGreatDoor
set_option maxRecDepth 100000
set_option maxHeartbeats 8000000
open Go.ChangeShapes Go.WideShapes Go.ChangeAt Go.RowKit
section
open Go.Shelf
attribute [local go_sem] Oper.semAt_some
theorem qn1 (tf : Nat) (g : Int × Bool -> Bool) (heg : ∀ args w, (callFunc tf args).run Tryz.prog w = .ok (.enter tf args) w)
 (hcl : ∀ x w, Calls Tryz.prog tf #[.agg (vdC x)] w fun e w' => e = .returned (.bool (g x)) /\ Below w.heap.size w w')
 (l : List Int) (v : Value) (w : World) (hR : R8 w v l) (hlen : l.length <= 1048576) :
 Calls Tryz.prog 124 #[v, .func (.func tf) #[] #[]] w fun e w' => ∃ G, e = .returned (.slice (some ⟨G, 0, none⟩) l.length l.length) /\ w.heap.size <= G /\ Blk w' G 4 (qa0 l.length (got (.bool false) (fun j => .bool (g (qyh l j))) (List.range' 1 (l.length - 1)))) /\ Below w.heap.size w w' := by
 have HRw := xaa hR
 have HG := xaa heg
 have HT := xaa hcl
 obtain ⟨A, cap, hv⟩ := hR.form
 obtain ⟨n, hl⟩ : ∃ n, l.length = n := ⟨_, rfl⟩
 have HL := xaa hl
 rw [qd6, hl] at hv
 subst hv
 have hmk : ∀ W : World, _ := fun W => qdh (P := Tryz.prog) 120 4 (.bool false) 1 Tryz.underlying120 (by kernel_rfl) (by decide) rfl n (by omega) W
 obtain ⟨gz, hgz⟩ : ∃ gz : Nat -> Value, (fun j => .bool (g (qyh l j))) = gz := ⟨_, rfl⟩
 have HGZ := xaa hgz
 rw [hgz, hl]
 have hlen2 : n <= 1048576 := by omega
 clear hR hcl hl hlen hgz heg
 refine (callsIn_wide (n := 7)).1 ?_
 refine callsIn_of_wp_marks Tryz.func124 rfl trivial ?_ rfl
 simp only [Tryz.ntmps124, List.size_toArray, List.length_cons, List.length_nil, Nat.reduceAdd, Nat.reduceSub, Array.replicate_succ, Array.replicate_zero, List.push_toArray, List.append_toArray, List.nil_append, List.cons_append]
 gi_wp2_with fail
 have F0 := Boxed.new w 201 (.func (.func tf) #[] #[])
 have R0 := Blk.new (w.alloc (.cells #[.func (.func tf) #[] #[]] 201)) 4 (qa0 n (fun _ => .bool false))
 have A0 := Boxed.new ((w.alloc (.cells #[.func (.func tf) #[] #[]] 201)).alloc (.cells (qa0 n (fun _ => .bool false)) 4)) 120 (.slice (some ⟨w.heap.size + 1, 0, none⟩) n n)
 simp only [World.size_alloc] at R0 A0
 have F1 := (F0.alloc (.cells (qa0 n (fun _ => .bool false)) 4)).alloc (.cells #[.slice (some ⟨w.heap.size + 1, 0, none⟩) n n] 120)
 have R1 := R0.alloc (.cells #[.slice (some ⟨w.heap.size + 1, 0, none⟩) n n] 120)
 have b1 : Below w.heap.size w (((w.alloc (.cells #[.func (.func tf) #[] #[]] 201)).alloc (.cells (qa0 n (fun _ => .bool false)) 4)).alloc (.cells #[.slice (some ⟨w.heap.size + 1, 0, none⟩) n n] 120)) := (((Below.refl _ w).alloc (xat) _).alloc (by simp) _).alloc (by simp; omega) _
 have hsz : (((w.alloc (.cells #[.func (.func tf) #[] #[]] 201)).alloc (.cells (qa0 n (fun _ => .bool false)) 4)).alloc (.cells #[.slice (some ⟨w.heap.size + 1, 0, none⟩) n n] 120)).heap.size = w.heap.size + 3 := by simp
 obtain ⟨w1, hw1⟩ : ∃ w1, (((w.alloc (.cells #[.func (.func tf) #[] #[]] 201)).alloc (.cells (qa0 n (fun _ => .bool false)) 4)).alloc (.cells #[.slice (some ⟨w.heap.size + 1, 0, none⟩) n n] 120)) = w1 := ⟨_, rfl⟩
 rw [hw1] at F1 R1 A0 b1 hsz |-
 clear hw1 F0 R0 hmk
 refine ⟨trivial, (callsIn_wide.2 (qn2 w1)).mono ?_⟩
 rintro e w2 ⟨rfl, b2⟩
 gi_wp2_with (refine nwTbIn (fun _ => trivial) rfl rfl 6 rfl rfl (.tmp 12) rfl rfl (fun _ => rfl) (fun _ => rfl) ?_; intro w3 b3 k3 T3; refine Mk.out ?_)
 constructor
 gi_wp2_with fail
 refine ⟨trivial, (callsIn_wide.2 (qn3 A n cap w3)).mono ?_⟩
 rintro e w4 ⟨rfl, S4, b4⟩
 have b13 : Below w1.heap.size w1 w3 := xaq b2 b3
 have s1 := b1.size
 have s2 := b2.size
 have s3 := T3.lt
 have s4 := S4.lt
 have s23 := b3.size
 have s34 := b4.size
 have F4 : Boxed w4 w.heap.size 201 (.func (.func tf) #[] #[]) := (b4.block _ (by omega)).trans ((b13.block _ (by omega)).trans F1)
 have R4 : Blk w4 (w.heap.size + 1) 4 (qa0 n (fun _ => .bool false)) := (b4.block _ (by omega)).trans ((b13.block _ (by omega)).trans R1)
 have A4 : Boxed w4 (w.heap.size + 1 + 1) 120 (.slice (some ⟨w.heap.size + 1, 0, none⟩) n n) := (b4.block _ (by omega)).trans ((b13.block _ (by omega)).trans A0)
 have T4 : Blk w4 w2.heap.size 228 qly := (b4.block _ (by omega)).trans T3
 have b04 : Below w.heap.size w w4 := xaq b1 (xaq b13 b4)
 clear F1 R1 A0 T3 b13 b2 b3 b4 k3 b1
 have hg0 : got (.bool false) gz [] = fun _ => .bool false := by funext j; simp [got]
 rw [<- hg0] at R4
 clear hg0
 gi_wp2_with fail
 refine qbk rfl (by omega) (gf := 180) (lb := #[.pointer (some ⟨w3.heap.size, 0, none⟩)]) rfl trivial (enters_of Tryz.func180 (by kernel_rfl) rfl)
  (encs := encP (l := l)) (fun _ => rfl) (fun rdy pre X => Pt w (w4.heap.size + 1) 201 120 4 73 (.func (.func tf) #[] #[]) (.slice A n cap) (.slice (some ⟨w.heap.size + 1, 0, none⟩) n n) (w.heap.size + 1) (w.heap.size + 1 + 1) w2.heap.size w3.heap.size n (.bool false) gz rdy (pre.map (fun x => x.1)) X)
  (Kq (w4.heap.size + 2)) (fun xs => xs.map (fun x => x.1) = List.range' 1 (l.length - 1)) l.length (fun _ _ _ h => h.loop) ?round ?iter ?done
 case iter =>
  intro rdy hrd HY
  have bd : Below w4.heap.size w4 ((w4.alloc (.deferred (some []))).alloc rdy) := ((Below.refl _ w4).alloc (xat) _).alloc (by simp) _
  have hL : ((w4.alloc (.deferred (some []))).alloc rdy).heap[w4.heap.size + 1]? = some rdy := by
   have := World.alloc_heap_new (w4.alloc (.deferred (some []))) rdy
   rwa [World.size_alloc] at this
  have hD : ((w4.alloc (.deferred (some []))).alloc rdy).heap[w4.heap.size]? = some (.deferred (some [])) := (Below.heap_alloc _ _ _ (by simp)).trans (World.alloc_heap_new w4 _)
  have hs : ((w4.alloc (.deferred (some []))).alloc rdy).heap.size = w4.heap.size + 2 := by simp
  refine (qn4 _ w3.heap.size (w4.heap.size + 1) l (.slice A n cap) _ (fun pre X => Pt w (w4.heap.size + 1) 201 120 4 73 (.func (.func tf) #[] #[]) (.slice A n cap) (.slice (some ⟨w.heap.size + 1, 0, none⟩) n n) (w.heap.size + 1) (w.heap.size + 1 + 1) w2.heap.size w3.heap.size n (.bool false) gz rdy (pre.map (fun x => x.1)) X) (by have := HL.out; omega) ?_ ?_ ?_ ?_).mono fun e X h => ⟨h.1, h.2⟩
  ·intro pre X Y h m
   exact h.mod (B := ((w4.alloc (.deferred (some []))).alloc rdy).heap.size) (by omega) (by omega) (by omega) (by omega) (by omega) (by omega) m
  ·intro pre X h
   exact ⟨h.ls.cell, HRw.out.below h.below⟩
  ·rw [hs]
   exact HY
  ·exact ⟨(bd.block _ F4.lt).trans F4, (bd.block _ R4.lt).trans R4, (bd.block _ A4.lt).trans A4, (bd.block _ T4.lt).trans T4, (bd.block _ S4.lt).trans S4, hL, hD, xaq b04 bd, by omega⟩
 case round =>
  rintro rdy bsy m pre ⟨i, hi0, hil⟩ X hr hb hP hN
  obtain ⟨p, hp⟩ : ∃ p, pst l (i + 1) = p := ⟨_, rfl⟩
  obtain ⟨r, hr2⟩ : ∃ r, frst p rl = r := ⟨_, rfl⟩
  have hgi : gz i = .bool (g r) := by rw [<- HGZ.out, <- hr2, <- hp]; rfl
  have HGI := xaa hgi
  have hen : encP (⟨i, hi0, hil⟩ : NI l) = #[.int .i64 (i : Int), .agg (plC p)] := by unfold encP; rw [hp]
  rw [hen]
  have hin : i < n := by rw [<- HL.out]; exact hil
  have hLX := hP.size
  have HPM : Hid ((pre ++ [(⟨i, hi0, hil⟩ : NI l)]).map (fun x => x.1) = pre.map (fun x => x.1) ++ [i]) := xaa (by rw [List.map_append]; rfl)
  have HF : Hid (∀ W, Blk W w2.heap.size 228 qly -> Calls Tryz.prog 147 #[.pointer (some ⟨w2.heap.size, 0, none⟩), .agg (plC p)] W fun e W' => e = .returned (.agg (vdC r)) /\ Below W.heap.size W W') := xaa fun W h => by rw [<- hr2]; exact qn6 p _ W h
  clear hen hgi hr2 hp
  gi_wp2_with (refine nwPIn (fun _ => trivial) rfl rfl 8 rfl rfl (.tmp 16) rfl rfl p (fun _ => rfl) (fun _ => rfl) ?_; intro w5 b5 k5 B5; refine Mk.out ?_)
  constructor
  gi_wp2_with fail
  have P5 := hP.mod (B := X.heap.size) hP.size (by omega) (by omega) (by omega) (by omega) (by omega) ((xap (S := fun k => X.heap.size <= k) b5))
  refine ⟨P5.loop, ?_⟩
  have P6 := P5.put bsy (by omega) (by omega) (by omega) (by omega) (by omega)
  have B6 : Blk (w5.putObj (w4.heap.size + 1) bsy) X.heap.size 234 (plC p) := (World.putObj_heap_other (by omega)).trans B5
  have K6 : Kq (w4.heap.size + 2) X (w5.putObj (w4.heap.size + 1) bsy) := ⟨xau b5.size (by simp [World.putObj]), fun k h1 h2 => (World.putObj_heap_other (by omega)).trans (b5.block k h2)⟩
  obtain ⟨W6, hW6⟩ : ∃ W6, w5.putObj (w4.heap.size + 1) bsy = W6 := ⟨_, rfl⟩
  rw [hW6] at P6 B6 K6 |-
  clear hW6 P5 B5 b5 k5 hP
  have HC : Hid (∀ W, Below W6.heap.size W6 W -> W.cell? ⟨w.heap.size + 1 + 1, 0, none⟩ = some (.slice (some ⟨w.heap.size + 1, 0, none⟩) n n) /\ W.cell? ⟨w.heap.size, 0, none⟩ = some (.func (.func tf) #[] #[]) /\ Blk W X.heap.size 234 (plC p) /\ Blk W w2.heap.size 228 qly) := xaa fun W h =>
   ⟨(h.cell (p := ⟨w.heap.size + 1 + 1, 0, none⟩) P6.all.lt).trans P6.all.cell, (h.cell (p := ⟨w.heap.size, 0, none⟩) P6.fn.lt).trans P6.fn.cell, B6.kb h, P6.tb.kb h⟩
  have HP6 := xaa P6
  have HK6 := xaa K6
  have hinz : (i : Int) < n := by omega
  have heg := HG.out
  clear P6 B6 K6 F4 R4 A4 T4 S4 b04
  gi_wp2_with fail
  refine qcb (by kernel_rfl) (fun W => Below W6.heap.size W6 W) (below_drewN (xas) 1) (by kernel_rfl) 7 (by rfl) (by kernel_rfl) (by kernel_rfl) (fun R hR => ?_)
  refine AllS.f_ (i := 0) (fun W hSw => (HC.out W hSw).1) ?_
  refine AllS.t_ (i := 1) ?_
  refine AllS.f_ (i := 2) (fun W hSw => (HC.out W hSw).2.1) ?_
  refine AllS.r_ (i := 3) (.agg (plC p)) (fun W hSw => ?_) ?_
  ·(try dsimp only at hSw)
   exact rdP (.tmp 8) rfl _ rfl p (HC.out W hSw).2.2.1.lies
  refine AllS.c_ (i := 4) (.agg (vdC r)) 147 #[.pointer (some ⟨w2.heap.size, 0, none⟩), .agg (plC p)] (fun W hSw => ?_) ?_
  ·exact (HF.out W (HC.out W hSw).2.2.2).mono (fun e w' h => ⟨h.1, xaq hSw h.2⟩)
  refine AllS.c_ (i := 5) (.bool (g r)) tf #[.agg (vdC r)] (fun W hSw => ?_) ?_
  ·exact (HT.out r W).mono (fun e w' h => ⟨h.1, xaq hSw h.2⟩)
  refine AllS.t_ (i := 6) ?_
  refine AllS.done (by kernel_rfl) (hR.out _ ?_) _
  clear hR R
  intro W7 b7
  refine qfs (by rw [xab]; rfl) rfl ?_
  have P7 := HP6.out.mod (B := W6.heap.size) HP6.out.size (by have := HP6.out.size; omega) (by have := HP6.out.size; omega) (by have := HP6.out.size; omega) (by have := HP6.out.size; omega) (by have := HP6.out.size; omega) (xap (S := fun k => W6.heap.size <= k) b7)
  have hq := (P7.row.cell i).trans (qaw hin)
  have hfz := P7.row.frozen i
  refine wpIn_skp (fun _ => trivial) (fun c hc => by cases hc) (w' := W7.setCell ⟨w.heap.size + 1, i, none⟩ (.bool (g r))) (by go_simp) ?_
  have P8 := P7.set_ i (by omega) (by omega) (by omega) (by omega) (by omega) (by omega) (by omega)
  rw [HGI.out, <- HPM.out] at P8
  have k8 : Kq (w4.heap.size + 2) X (W7.setCell ⟨w.heap.size + 1, i, none⟩ (.bool (g r))) := ⟨xau HK6.out.1 (xau b7.size (by simp [World.setCell])), fun k h1 h2 => (Below.heap_setCell _ _ _ k (by show k ≠ w.heap.size + 1; omega)).trans ((b7.block k (by have := HK6.out.1; omega)).trans (HK6.out.2 k h1 h2))⟩
  obtain ⟨W8, hW8⟩ : ∃ W8, W7.setCell ⟨w.heap.size + 1, i, none⟩ (.bool (g r)) = W8 := ⟨_, rfl⟩
  rw [hW8] at P8 k8 |-
  have P9 := P8.put rdy (by omega) (by omega) (by omega) (by omega) (by omega)
  have k9 : Kq (w4.heap.size + 2) X (W8.putObj (w4.heap.size + 1) rdy) := ⟨xau k8.1 (by simp [World.putObj]), fun k h1 h2 => (World.putObj_heap_other (by omega)).trans (k8.2 k h1 h2)⟩
  have l8 := P8.loop
  clear hW8 P8 k8 P7 hq hfz
  gi_wp2_with fail
  have Q9 := P9
  rw [HPM.out] at Q9
  all_goals first | exact Q9 | exact k9 | exact l8
 case done =>
  intro rdy exh xs X hr he hxs hP
  have P9 := hP.put exh (by omega) (by omega) (by omega) (by omega) (by omega)
  obtain ⟨X9, hX9⟩ : ∃ X9, X.putObj (w4.heap.size + 1) exh = X9 := ⟨_, rfl⟩
  rw [hX9] at P9 |-
  clear hX9 hP
  have c9 := P9.all.cell
  gi_wp2
  refine ⟨by simp, .inl ⟨_, _, rfl, run_takeDeferred P9.defd, ?_⟩⟩
  have ga := grownBy_putObj' X9 w4.heap.size (.deferred none)
  refine ⟨_, results_tmp rfl _ _ _, w.heap.size + 1, rfl, by omega, ?_, P9.below.grown ga P9.below.size (fun k e => by injection e with e; omega)⟩
  have := P9.row
  rw [hxs, HL.out] at this
  exact (World.putObj_heap_other (by omega)).trans this
end
section
open Go.Shelf
open Pr
theorem qq9 (o : Option Int) {k : Int} (h : k ≠ 255) : (oI o == k) = (o == some k) := by
 cases o with
 | none =>
   show ((255 : Int) == k) = false
   simpa using fun e => h e.symm
 | some d =>
   show (d == k) = _
   rw [Bool.eq_iff_iff]
   simp
theorem q0y (a b o : Int) (cl : Bool) : ap21 ⟨a, b, o, cl⟩ = qte a b := by
 unfold ap21 qte
 by_cases h1 : b = 24
 ·subst h1
  rw [Bool.eq_iff_iff]
  simp [has]
 by_cases h2 : b = 23
 ·subst h2
  rw [Bool.eq_iff_iff]
  simp [has]
 by_cases h3 : b = 22
 ·subst h3
  rw [Bool.eq_iff_iff]
  simp [has]
  omega
 by_cases h4 : b = 14
 ·subst h4
  rw [Bool.eq_iff_iff]
  simp [has]
 ·rw [Bool.eq_iff_iff]
  simp [has, h1, h2, h3, h4]
theorem qry (a b : Int) (o : Option Int) (cl : Bool) : frst ⟨a, b, oI o, cl⟩ rl = rule a b o cl := by
 have e2 : ap2 ⟨a, b, oI o, cl⟩ = hard a := by rw [Bool.eq_iff_iff]; simp [ap2, has, hard, or_assoc]
 have n2 : en2 ⟨a, b, oI o, cl⟩ = !(a == 2 && b == 3) := by unfold en2; congr 1; rw [Bool.eq_iff_iff]; simp [has]
 have e3 : ap3 ⟨a, b, oI o, cl⟩ = (b == 1 || hard b) := by rw [Bool.eq_iff_iff]; simp [ap3, has, hard, or_assoc]
 have e4 : ap4 ⟨a, b, oI o, cl⟩ = (b == 5 || b == 6) := by rw [Bool.eq_iff_iff]; simp [ap4, has]
 have e5 : ap5 ⟨a, b, oI o, cl⟩ = (o == some 6) := qq9 o (by decide)
 have e8 : ap8 ⟨a, b, oI o, cl⟩ = (a == 8 || (b == 8 && !(a == 5 || a == 10 || a == 13))) := by rw [Bool.eq_iff_iff]; simp [ap8, has, and_assoc]
 have e9 : ap9 ⟨a, b, oI o, cl⟩ = (b == 15 || b == 17 || b == 18) := by rw [Bool.eq_iff_iff]; simp [ap9, has, or_assoc]
 have e10 : ap10 ⟨a, b, oI o, cl⟩ = (o == some 14) := qq9 o (by decide)
 have e11 : ap11 ⟨a, b, oI o, cl⟩ = (o == some 16 && b == 14) := by unfold ap11; rw [qq9 o (by decide)]
 have e12 : ap12 ⟨a, b, oI o, cl⟩ = (o == some 15 && b == 19) := by unfold ap12; rw [qq9 o (by decide)]
 have e13 : ap13 ⟨a, b, oI o, cl⟩ = (o == some 12 && b == 12) := by unfold ap13; rw [qq9 o (by decide)]
 have e17 : ap17 ⟨a, b, oI o, cl⟩ = (b == 10 || b == 13 || b == 19 || a == 11) := by rw [Bool.eq_iff_iff]; simp [ap17, has, or_assoc]
 have e19 : ap19 ⟨a, b, oI o, cl⟩ = qyn a b := by rw [Bool.eq_iff_iff]; simp [ap19, has, qyn]
 have e20 : ap20 ⟨a, b, oI o, cl⟩ = qym a b := by rw [Bool.eq_iff_iff]; simp [ap20, has, qym]; omega
 have e21 : ap21 ⟨a, b, oI o, cl⟩ = qte a b := q0y a b (oI o) cl
 have e22 : ap22 ⟨a, b, oI o, cl⟩ = (a == 0 && b == 0) := by rw [Bool.eq_iff_iff]; simp [ap22, has]
 have e23 : ap23 ⟨a, b, oI o, cl⟩ = (a == 18 && b == 0) := by rw [Bool.eq_iff_iff]; simp [ap23, has]
 simp only [frst, rl, e2, n2, e3, e4, e5, e8, e9, e10, e11, e12, e13, e17, e19, e20, e21, e22, e23]
 rfl
theorem qsu {c : Int} : base c = 9 ↔ c = 9 := by
 unfold base
 split
 ·omega
 ·split <;> omega
theorem qmz {c : Int} {p : Option Int} (hp : ∀ d, p = some d -> inside d) : cntI c (oI p) = cnt p c := by
 unfold cntI cnt
 by_cases h9 : c = 9
 ·subst h9
  rw [if_pos (show base 9 = 9 from rfl)]
  cases p with
  | none => rfl
  | some d =>
    obtain ⟨h0, h1, _, _⟩ := hp d rfl
    show (if (9 : Int) = 9 /\ hldB d = true then (d, true) else if (9 : Int) = 9 \/ 26 < (9 : Int) then (0, false) else _) = if bare d = true then (0, false) else (d, true)
    have e : hldB d = !bare d := by
     unfold hldB bare
     congr 1
     rw [Bool.eq_iff_iff]
     simp
     omega
    rw [e]
    cases bare d <;> simp
 ·rw [if_neg (fun h => h9 h.1), if_neg (fun h => h9 (qsu.1 h))]
  unfold base
  by_cases h26 : 26 < c
  ·rw [if_pos (.inr h26), if_neg (by omega), if_pos h26]
  ·rw [if_neg (by omega)]
   by_cases h20 : c = 20
   ·rw [if_pos h20, if_pos h20]
   ·rw [if_neg h20, if_neg h20, if_neg h26]
theorem qxa (l : List Int) (h0 : ∀ c ∈ l, 0 <= c) : ∀ k, k <= l.length -> (pst l k).b = oI (st s0 (l.take k)).1 /\ (if (pst l k).b = 5 then (pst l k).o else (pst l k).b) = oI (st s0 (l.take k)).2
 | 0, _ => ⟨rfl, rfl⟩
 | k + 1, hk => by
   obtain ⟨i1, i2⟩ := qxa l h0 k (by omega)
   obtain ⟨x, hx⟩ : ∃ x, l[k]? = some x := ⟨_, xac (by omega)⟩
   rw [qii hx, qp9 l s0 k hx]
   have hin : qls (st s0 (l.take k)) := qls.st _ qls.zero fun c hc => h0 c (List.mem_of_mem_take hc)
   have e := qmz (c := x) hin.1
   obtain ⟨s, hs⟩ : ∃ s, st s0 (l.take k) = s := ⟨_, rfl⟩
   rw [hs] at i1 i2 e |-
   have e1 : (nxP (pst l k) x).b = (cnt s.1 x).1 := by unfold nxP; rw [i1, e]
   have e2 : (nxP (pst l k) x).o = oI s.2 := by rw [<- i2]; rfl
   refine ⟨e1, ?_⟩
   rw [e1, e2]
   unfold nx
   dsimp only
   split <;> rfl
theorem vd_plc {l : List Int} (h0 : ∀ c ∈ l, 0 <= c) {j : Nat} {x : Int} (hx : l[j]? = some x) (hj : 0 < j) : qyh l j = qjk (st s0 (l.take j)) x := by
 have hl := (xah hx).1
 obtain ⟨i1, i2⟩ := qxa l h0 j (by omega)
 have hin : qls (st s0 (l.take j)) := qls.st _ qls.zero fun c hc => h0 c (List.mem_of_mem_take hc)
 have e := qmz (c := x) hin.1
 obtain ⟨a, ha⟩ : ∃ a, (st s0 (l.take j)).1 = some a := by
  obtain ⟨i, rfl⟩ : ∃ i, j = i + 1 := ⟨j - 1, by omega⟩
  obtain ⟨y, hy⟩ : ∃ y, l[i]? = some y := ⟨_, xac (by omega)⟩
  rw [qp9 l s0 i hy]
  exact ⟨_, rfl⟩
 obtain ⟨s, hs⟩ : ∃ s, st s0 (l.take j) = s := ⟨_, rfl⟩
 rw [hs] at i1 i2 e ha |-
 have ep : pst l (j + 1) = ⟨a, (cnt (some a) x).1, oI s.2, (cnt (some a) x).2⟩ := by
  rw [qii hx]
  unfold nxP
  rw [i2, i1, e, ha]
  rfl
 unfold qyh
 rw [ep, qry]
 unfold qjk
 rw [ha]
theorem qb4 {w : World} {G n : Nat} {t : TypeId} {f : Nat -> Value} {xs : List Value} (h : Blk w G t (qa0 n f)) (hn : xs.length = n) (hx : ∀ j x, xs[j]? = some x -> f j = x) : Row (fun _ => False) w (.slice (some ⟨G, 0, none⟩) n n) xs := by
 refine .inr ⟨⟨G, 0, none⟩, n, by rw [hn], .inr ⟨h.lt, id⟩, fun j u hj => ?_⟩
 have hjn : j < n := by rw [<- hn]; exact (xah hj).1
 have e : (⟨G, 0, none⟩ : Addr).add j = ⟨G, j, none⟩ := by simp [Addr.add]; exact fun h => h.symm
 rw [e, h.cell j, qaw hjn, hx j u hj]
theorem qyo {l : List Int} (h0 : ∀ c ∈ l, 0 <= c) {α : Type} (z : α) (g : Int × Bool -> α) (V : α -> Value) (hz : g (0, false) = z) : ∀ j x, (((plc s0 l).map g).map V)[j]? = some x -> got (V z) (fun j => V (g (qyh l j))) (List.range' 1 (l.length - 1)) j = x := fun j x hx => by
 have hj : j < l.length := by
  have := (xah hx).1
  rwa [xao, xao, qdo] at this
 obtain ⟨c, hc⟩ : ∃ c, l[j]? = some c := ⟨_, xac hj⟩
 rw [xan, xan, qqw l s0 j hc] at hx
 injection hx with hx
 subst hx
 unfold got
 by_cases hj0 : j = 0
 ·subst hj0
  rw [if_neg (by simp)]
  show V z = V (g (0, false))
  rw [hz]
 ·rw [if_pos (by rw [List.mem_range']; exact ⟨j - 1, by omega, by omega⟩)]
  show V (g (qyh l j)) = _
  rw [vd_plc h0 hc (by omega)]
def qew (l : List Int) : List Bool := (plc s0 l).map (·.2)
theorem qgp (l : List Int) : (qew l).length = l.length := by simp [qew, qdo]
end
section
open Go.Shelf
open Pr
theorem qjp (l : List Int) (v : Value) (w : World) (hR : R8 w v l) (hlen : l.length <= 1048576) (h0 : ∀ c ∈ l, 0 <= c) :
 Calls Tryz.prog 87 #[v] w fun e w' => ∃ G, e = .returned (.slice (some ⟨G, 0, none⟩) l.length l.length) /\ RB w' (.slice (some ⟨G, 0, none⟩) l.length l.length) (qew l) /\ Below w.heap.size w w' := by
 have C := xaa (qn1 125 (fun x => x.2) (enters_of Tryz.func125 (by kernel_rfl) rfl) qn0 l v w hR hlen)
 have HT : Hid (∀ G w', Blk w' G 4 (qa0 l.length (got (.bool false) (fun j => .bool (qyh l j).2) (List.range' 1 (l.length - 1)))) -> RB w' (.slice (some ⟨G, 0, none⟩) l.length l.length) (qew l)) := xaa fun G w' B =>
  qb4 B (by rw [qw8, qgp]) (qyo h0 (false) (fun x => x.2) Value.bool rfl)
 clear hR
 go_enter Tryz.func87, Tryz.ntmps87
 go_wp2_with fail
 refine (C.out).mono ?_
 rintro e w1 ⟨G, rfl, _, B, b⟩
 have hr := HT.out G w1 B
 clear C HT B
 go_wp2_with fail
 go_ret
 exact ⟨_, rfl, hr, b⟩
def hdA : List Int := [0, 9, 5, 14, 5, 0, 15]
end
end Go.Proofs.YtmceblkjbpbcoaaGreatDoor
