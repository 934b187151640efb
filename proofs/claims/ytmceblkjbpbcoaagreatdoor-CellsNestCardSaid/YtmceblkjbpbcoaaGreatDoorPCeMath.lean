/- Contracts of layers below. -/
import Derived.Test.YtmceblkjbpbcoaaGreatDoorPArMath
import Derived.Test.YtmceblkjbpbcoaaGreatDoorPWhMath
import Derived.Test.YtmceblkjbpbcoaaGreatDoorPAr5
import Derived.Test.YtmceblkjbpbcoaaGreatDoorPArOpIn
import Derived.Test.YtmceblkjbpbcoaaGreatDoorPApG
import Derived.Test.YtmceblkjbpbcoaaGreatDoorPUP3
import Derived.Test.YtmceblkjbpbcoaaGreatDoorPWhD
import Derived.Test.YtmceblkjbpbcoaaGreatDoorPRowF
namespace Go.Proofs.YtmceblkjbpbcoaaGreatDoor
set_option maxRecDepth 100000
set_option maxHeartbeats 8000000
open Go.ChangeShapes Go.WideShapes Go.ChangeAt Go.RowKit
namespace Ce
open Ar
open Wh (Cr)
def vis (ps : List Int) (bx : Nat -> Bool) : Nat -> Nat -> List (Nat × Bool)
 | 0, _ => []
 | f + 1, n => (kidsL ps n).flatMap fun k => (k, true) :: ((if bx k then vis ps bx f k else []) ++ [(k, false)])
def visL (ps : List Int) (bx : Nat -> Bool) (n : Nat) : List (Nat × Bool) := vis ps bx ps.length n
def qgf (ps : List Int) (bx : Nat -> Bool) (k : Nat) : List (Nat × Bool) := (k, true) :: ((if bx k then visL ps bx k else []) ++ [(k, false)])
section
variable {ps : List Int}
theorem qge (h : Tre ps) {n k : Nat} (hk : k ∈ kidsL ps n) : n < k /\ k < ps.length := by
 obtain ⟨h1, h2⟩ := qu2 hk
 have h3 := (h.lt k (by omega)).1
 rw [h2, xax] at h3
 exact ⟨h3, h1⟩
theorem qd0 (h : Tre ps) (bx : Nat -> Bool) {n : Nat} (hn : ps.length <= n) : ∀ g, vis ps bx g n = [] := by
 intro g
 cases g with
 | zero => rfl
 | succ g =>
   have hk : kidsL ps n = [] := by
    rw [List.eq_nil_iff_forall_not_mem]
    intro k hk
    have := qge h hk
    omega
   show (kidsL ps n).flatMap _ = []
   rw [hk]
   rfl
theorem qtc (h : Tre ps) (bx : Nat -> Bool) : ∀ f n, ps.length <= n + f -> ∀ g, ps.length <= n + g -> vis ps bx f n = vis ps bx g n := by
 intro f
 induction f with
 | zero =>
   intro n hn g hg
   rw [qd0 h bx (by omega), qd0 h bx (by omega)]
 | succ f ih =>
   intro n hn g hg
   cases g with
   | zero => rw [qd0 h bx (by omega), qd0 h bx (by omega)]
   | succ g =>
     show (kidsL ps n).flatMap _ = (kidsL ps n).flatMap _
     refine qe2 _ _ _ fun k hk => ?_
     have := qge h hk
     rw [ih k (by omega) g (by omega)]
theorem qfz (h : Tre ps) (bx : Nat -> Bool) (n : Nat) : visL ps bx n = (kidsL ps n).flatMap (qgf ps bx) := by
 unfold visL
 rw [qtc h bx ps.length n (by omega) (ps.length + 1) (by omega)]
 rfl
theorem qd3 {α : Type} {P : List α -> Prop} (nil : P []) (snoc : ∀ (l : List α) (a : α), P l -> P (l ++ [a])) (l : List α) : P l := by
 have h : ∀ r : List α, P r.reverse := by
  intro r
  induction r with
  | nil => exact nil
  | cons a r ih => rw [List.reverse_cons]; exact snoc _ _ ih
 have := h l.reverse
 rwa [List.reverse_reverse] at this
def ins (l : List (Nat × Bool)) : List Nat := (l.filter fun x => x.2).map fun x => x.1
theorem qrw (l m : List (Nat × Bool)) : ins (l ++ m) = ins l ++ ins m := by simp [ins]
theorem qxn (k : Nat) (l : List (Nat × Bool)) : ins ((k, true) :: l) = k :: ins l := rfl
theorem qz2 (k : Nat) (l : List (Nat × Bool)) : ins ((k, false) :: l) = ins l := rfl
theorem qip {α : Type} (g : α -> List (Nat × Bool)) : ∀ l : List α, ins (l.flatMap g) = l.flatMap fun x => ins (g x)
 | [] => rfl
 | x :: l => by rw [List.flatMap_cons, qrw, qip g l, List.flatMap_cons]
theorem qrv (bx : Nat -> Bool) (k : Nat) : ins (qgf ps bx k) = k :: (if bx k then ins (visL ps bx k) else []) := by
 unfold qgf
 rw [qxn, qrw]
 show k :: (ins (if bx k then visL ps bx k else []) ++ []) = _
 rw [List.append_nil]
 split <;> rfl
abbrev Inc (l : List Nat) : Prop := l.Pairwise (· < ·)
theorem q0o {e n : Nat} {l : List Nat} (h : Chn ps e n l) : ∀ (g : Nat -> List Nat), (∀ k f, k ∈ l -> EndOf ps k f -> Inc (g k) /\ ∀ j ∈ g k, k <= j /\ j < f) -> n <= e /\ Inc (l.flatMap g) /\ ∀ j ∈ l.flatMap g, n <= j /\ j < e := by
 induction h with
 | nil => intro g _; exact ⟨xat, .nil, fun j hj => by cases hj⟩
 | cons hf _ ih =>
   rename_i n f l _
   intro g hg
   obtain ⟨h1, h2, h3⟩ := ih g fun k f hk => hg k f (List.mem_cons_of_mem _ hk)
   obtain ⟨h4, h5⟩ := hg n f (List.mem_cons_self ..) hf
   have hlt := hf.lt
   refine ⟨by omega, ?_, ?_⟩
   ·rw [List.flatMap_cons]
    refine List.pairwise_append.2 ⟨h4, h2, fun a ha b hb => ?_⟩
    have := h5 a ha
    have := h3 b hb
    omega
   ·intro j hj
    rw [List.flatMap_cons] at hj
    rcases List.mem_append.1 hj with hj | hj
    ·have := h5 j hj; omega
    ·have := h3 j hj; omega
theorem qru (h : Tre ps) (bx : Nat -> Bool) : ∀ d n e, ps.length <= n + d -> EndOf ps n e -> Inc (ins (visL ps bx n)) /\ ∀ j ∈ ins (visL ps bx n), n < j /\ j < e := by
 intro d
 induction d with
 | zero =>
   intro n e hd he
   have := he.lt
   have := he.le
   omega
 | succ d ih =>
   intro n e hd he
   rw [qfz h, qip]
   have := q0o (qhm h he) (fun x => ins (qgf ps bx x)) fun k f hk hf => by
    have hg := qge h hk
    have hlt := hf.lt
    rw [qrv]
    obtain ⟨h1, h2⟩ := ih k f (by omega) hf
    split
    ·refine ⟨List.pairwise_cons.2 ⟨fun j hj => (h2 j hj).1, h1⟩, fun j hj => ?_⟩
     rcases List.mem_cons.1 hj with rfl | hj
     ·omega
     ·have := h2 j hj; omega
    ·refine ⟨List.pairwise_cons.2 ⟨(fun j hj => by cases hj), .nil⟩, fun j hj => ?_⟩
     rcases List.mem_cons.1 hj with rfl | hj
     ·omega
     ·cases hj
   exact ⟨this.2.1, fun j hj => by have := this.2.2 j hj; omega⟩
theorem qk8 (h : Tre ps) (bx : Nat -> Bool) {n : Nat} (hn : n < ps.length) : Inc (ins (visL ps bx n)) /\ ∀ j ∈ ins (visL ps bx n), n < j /\ j < ps.length := by
 obtain ⟨e, he⟩ := EndOf.qlc (ps := ps) n hn
 obtain ⟨h1, h2⟩ := qru h bx ps.length n e (by omega) he
 have := he.le
 exact ⟨h1, fun j hj => by have := h2 j hj; omega⟩
theorem inc_le : ∀ {l : List Nat} {n : Nat}, Inc l -> (∀ j ∈ l, j < n) -> l.length <= n := by
 intro l
 induction l using qd3 with
 | nil => intro n _ _; exact Nat.zero_le _
 | snoc l a ih =>
   intro n h1 h2
   obtain ⟨h3, _, h4⟩ := List.pairwise_append.1 h1
   have h5 := ih (n := a) h3 fun j hj => h4 j hj a (List.mem_singleton.2 rfl)
   have := h2 a (by simp)
   rw [List.length_append, List.length_singleton]
   omega
theorem qyg (h : Tre ps) (bx : Nat -> Bool) : ∀ d n, ps.length <= n + d -> (visL ps bx n).length = 2 * (ins (visL ps bx n)).length := by
 intro d
 induction d with
 | zero =>
   intro n hd
   unfold visL
   rw [qd0 h bx (by omega)]
   rfl
 | succ d ih =>
   intro n hd
   rw [qfz h, qip]
   have key : ∀ ks : List Nat, (∀ k ∈ ks, n < k) -> (ks.flatMap (qgf ps bx)).length = 2 * (ks.flatMap fun x => ins (qgf ps bx x)).length := by
    intro ks
    induction ks with
    | nil => intro _; rfl
    | cons k ks ih2 =>
      intro hks
      rw [List.flatMap_cons, List.flatMap_cons, List.length_append, List.length_append, ih2 fun k hk => hks k (List.mem_cons_of_mem _ hk), qrv]
      have hk := hks k (List.mem_cons_self ..)
      have h1 := ih k (by omega)
      unfold qgf
      rw [List.length_cons, List.length_append, List.length_cons]
      split
      ·rw [h1]
       simp
       omega
      ·simp
       omega
   exact key _ fun k hk => (qge h hk).1
theorem qlx (h : Tre ps) (bx : Nat -> Bool) {n : Nat} (hn : n < ps.length) : (visL ps bx n).length <= 2 * ps.length := by
 rw [qyg h bx ps.length n (by omega)]
 obtain ⟨h1, h2⟩ := qk8 h bx hn
 have := inc_le h1 fun j hj => (h2 j hj).2
 omega
end
end Ce
namespace Ce
open Go.Shelf
open Ar
attribute [local go_sem] Oper.semAt_some
structure Mk (P : Prop) : Prop where
 out : P
structure Kps (S : World -> Nat -> Prop) (W W' : World) : Prop where
 mod : Mod (S W) W W'
 own : ∀ k, S W' k -> S W k \/ W.heap.size <= k
theorem Kps.refl (S : World -> Nat -> Prop) (W : World) : Kps S W W := ⟨Mod.refl _ _, fun _ h => .inl h⟩
theorem Kps.trans {S : World -> Nat -> Prop} {a b c : World} (h : Kps S a b) (k : Kps S b c) : Kps S a c :=
 ⟨h.mod.seq k.mod h.own, fun i hi => by
  rcases k.own i hi with h1 | h1
  ·exact h.own i h1
  ·exact .inr (xau h.mod.size h1)⟩
theorem qid {S : World -> Nat -> Prop} {W W' : World} {v : Value} {xs : List Value} (h : Row (S W) W v xs) (k : Kps S W W') : Row (S W') W' v xs := by
 have h1 : Row (fun b => S W b \/ S W' b) W v xs := h.mono fun b hb hT => by
  rcases hT with h | h
  ·exact h
  ·rcases k.own b h with h | h
   ·exact h
   ·omega
 exact (h1.keep k.mod fun b _ hb => .inl hb).mono fun b _ hb => .inr hb
theorem qy0 {S : World -> Nat -> Prop} {W W' : World} {v : Value} {xs : List Value} (h : Row (S W) W v xs) (b : Below W.heap.size W W') (hS : ∀ k, S W' k -> S W k) : Row (S W') W' v xs :=
 (h.below b).mono fun k _ hk => hS k hk
theorem qsr {S : World -> Nat -> Prop} {W W' : World} {g : Nat} {t : TypeId} {cs : Array Value} (h : Blk W g t cs) (k : Kps S W W') (hS : ¬ S W g) : Blk W' g t cs := h.keep k.mod hS
structure Frm (I : List (Nat × Bool) -> World -> Prop) (S : World -> Nat -> Prop) (l : List Nod) (v : Value) : Prop where
 ext : ∀ pre W W', I pre W -> Below W.heap.size W W' -> I pre W' /\ ∀ k, S W' k -> S W k
 lt : ∀ pre W k, I pre W -> S W k -> k < W.heap.size
 tr : ∀ pre W, I pre W -> Tr W v l
theorem Frm.kps {I : List (Nat × Bool) -> World -> Prop} {S : World -> Nat -> Prop} {l : List Nod} {v : Value} (F : Frm I S l v) {pre : List (Nat × Bool)} {W W' : World} (h : I pre W) (b : Below W.heap.size W W') : Kps S W W' :=
 ⟨xap b, fun k hk => .inl ((F.ext pre W W' h b).2 k hk)⟩
def qs7 (l : List Nod) (x : Nat × Bool) : Array Value := #[.agg #[.int .i64 (x.1 : Int), .bool x.2], .agg (l.getD x.1 .zero).cells]
def bxL (l : List Nod) (k : Nat) : Bool := decide ((l.getD k .zero).k = 2)
theorem getD_at {l : List Nod} {k : Nat} {x : Nod} (h : l[k]? = some x) : l.getD k .zero = x := by rw [xal, h]; rfl
section
variable {F : Fence} {n : Nat} {ops : Array Oper} {Q : Exit -> Act -> World -> Prop} {a : Act} {w : World} {rest : List Oper} {o o1 o2 : Oper}
theorem ldNIn (hF : ∀ f, F.fn f) (hg : o.guard = none) (x : Operand) (ho : o.op = .load 50 x) (p : Addr) (hx : a.eval x = .pointer (some p)) (s : Nod) (hL : qar w p s.cells)
 (h : wpListIn F n Tryz.prog ops Q rest (a.put o.dst (.agg s.cells)) w) : wpListIn F n Tryz.prog ops Q (o :: rest) a w :=
 wpListIn_val hF (by rw [ho]; intro c hc; cases hc) hg _ rfl _ _ (rdN x ho p hx s hL) h
theorem nwNIn (hF : ∀ f, F.fn f) (hg1 : o1.guard = none) (hg2 : o2.guard = none) (D : Tmp) (hd1 : o1.dst = some D) (ho1 : o1.op = .alloc 50) (y : Operand) (ho2 : o2.op = .store 50 (.tmp D) y) (hd2 : o2.dst = none)
 (s : Nod) (hx : ∀ v, (a.put (some D) v).eval (.tmp D) = v) (hy : ∀ v, (a.put (some D) v).eval y = .agg s.cells)
 (h : ∀ w', Below w.heap.size w w' -> KeepsOthers w w' -> Blk w' w.heap.size 50 s.cells -> wpListIn F n Tryz.prog ops Q rest (a.put (some D) (.pointer (some ⟨w.heap.size, 0, none⟩))) w') : wpListIn F n Tryz.prog ops Q (o1 :: o2 :: rest) a w :=
 wpListIn_newS hF hg1 hg2 50 D hd1 ho1 y ho2 hd2 _ alN s.cells hx hy iN rfl (oneN s) h
end
end Ce
namespace Ce
open Go.Shelf
open Ar (Nod ldN bxNV)
open Wh (Cr)
structure Grw (v : Value) (w : World) (v' : Value) (w' : World) : Prop where
 mod : Mod (fun k => v.ownBlock = some k) w w'
 own : ∀ k, v'.ownBlock = some k -> v.ownBlock = some k \/ w.heap.size <= k
theorem Grw.trans {v1 v2 v3 : Value} {a b c : World} (h : Grw v1 a v2 b) (k : Grw v2 b v3 c) : Grw v1 a v3 c :=
 ⟨h.mod.seq k.mod h.own, fun i hi => by
  rcases k.own i hi with h1 | h1
  ·exact h.own i h1
  ·exact .inr (xau h.mod.size h1)⟩
theorem Grw.ext {v : Value} {w w' : World} (b : Below w.heap.size w w') : Grw v w v w' := ⟨xap b, fun _ h => .inl h⟩
theorem elhCr : Elh Tryz.prog 32 52 5 40 := ⟨Tryz.underlying32, ⟨.agg (chA zCr), by kernel_rfl, rfl⟩, by decide, by decide⟩
theorem apCr {ops : Array Oper} {Q : Exit -> Act -> World -> Prop} {a : Act} {w : World} {rest : List Oper} {o1 o2 : Oper} (hg1 : o1.guard = none) (x : Operand) (ho1 : o1.op = .buildSlice 32 1 #[(0, x)]) (D : Tmp) (hd1 : o1.dst = some D)
 (hg2 : o2.guard = none) (sl : Operand) (ho2 : o2.op = .call { callee := .builtin .append, args := #[sl, .tmp D], argTypes := #[32, 32] }) (s : Cr) (hx : a.eval x = .agg (chA s))
 (v : Value) (hs : ∀ u, (a.put (some D) u).eval sl = v) (hD : ∀ u, (a.put (some D) u).eval (.tmp D) = u) (base : Nat) (l : List Cr) (hown : Wl.OwC base w v l) (hn : l.length < 4194304) (hbase : base <= w.heap.size)
 (h : ∀ u v' w', Wl.OwC base w' v' (l ++ [s]) -> Below base w w' -> Grw v w v' w' -> wpList Tryz.prog ops Q rest ((a.put (some D) u).put o2.dst v') w') : wpList Tryz.prog ops Q (o1 :: o2 :: rest) a w :=
 apH elhCr hg1 x ho1 D hd1 hg2 sl ho2 (.agg (chA s)) (chA s) hx rfl (oneC s) (bsC s) v hs hD base l.length (qcj l) hown hn hbase fun u v' w' h1 h2 h3 h4 =>
  h u v' w' (by unfold Wl.OwC; rw [List.length_append, qok]; exact h1) h2 ⟨h3, h4⟩
def tx0 (s : ByteArray) : List Cr := (Ut.chs 0 (Utf.qi4 (bs s))).map fun c => ⟨c.r, c.node, c.at_, c.n, c.kind⟩
def atN (n : Nat) (c : Cr) : Cr := { c with node := (n : Int) }
def ownC (x : Nod) (n : Nat) : List Cr :=
 if x.k = 1 then (tx0 x.t).map (atN n) else if x.k = 3 then [⟨0, n, 0, 0, 5⟩] else if x.k = 4 \/ x.k = 5 \/ x.k = 6 then [⟨65532, n, 0, 0, 6⟩] else []
theorem qp0 (s : ByteArray) : (tx0 s).length <= s.size := by
 unfold tx0
 rw [xao, Ut.qsi]
 have := Ut.Utf.qdv (bs s)
 rwa [bs_len] at this
theorem qze {w : World} {base : Nat} {v : Value} {s : ByteArray} (h : Ut.Own w base v (Ut.chs 0 (Utf.qi4 (bs s)))) : Wl.OwC base w v (tx0 s) := by
 have e : ∀ l : List Ut.Ch, l.flatMap Ut.Ch.cells = qcj (l.map fun c => (⟨c.r, c.node, c.at_, c.n, c.kind⟩ : Cr)) := by
  intro l
  unfold qcj
  rw [List.map_map, <- List.flatMap_def]
  rfl
 unfold Wl.OwC tx0
 rw [xao, <- e]
 exact h
theorem qtt (c : Cr) (n : Nat) : (chA c).setIfInBounds 1 (.int .i64 (n : Int)) = chA (atN n c) := by simp [chA, atN]
def inl (k : Int) : Bool := decide (k = 0) || decide (k = 4) || decide (k = 6) || decide (k = 7) || decide (k = 8)
theorem qgl (k : Int) (w : World) :
 Calls Tryz.prog 28 #[.int .u8 k] w fun e w' => e = .returned (.bool (inl k)) /\ w = w' := by
 by_cases h0 : k = 0
 ·subst h0
  go_enter Tryz.func28, Tryz.ntmps28
  go_wp2_with fail
  go_ret
  exact ⟨rfl, rfl⟩
 ·by_cases h4 : k = 4
  ·subst h4
   go_enter Tryz.func28, Tryz.ntmps28
   go_wp2_with fail
   go_ret
   exact ⟨rfl, rfl⟩
  ·by_cases h6 : k = 6
   ·subst h6
    go_enter Tryz.func28, Tryz.ntmps28
    go_wp2_with fail
    go_ret
    exact ⟨rfl, rfl⟩
   ·by_cases h7 : k = 7
    ·subst h7
     go_enter Tryz.func28, Tryz.ntmps28
     go_wp2_with fail
     go_ret
     exact ⟨rfl, rfl⟩
    ·by_cases h8 : k = 8
     ·subst h8
      go_enter Tryz.func28, Tryz.ntmps28
      go_wp2_with fail
      go_ret
      exact ⟨rfl, rfl⟩
     ·have e : inl k = false := by simp [inl, h0, h4, h6, h7, h8]
      go_enter Tryz.func28, Tryz.ntmps28
      go_wp2_with fail
      go_ret
      exact ⟨by rw [e]; rfl, rfl⟩
theorem qll (base : Nat) (l : List Cr) (v : Value) (n : Nat) (x : Nod) (w : World) (hO : Wl.OwC base w v l) (hbase : base <= w.heap.size) (hl : l.length <= 1048576) (ht : x.t.size <= 100000) (hT : Ut.Tab w) :
 Calls Tryz.prog 29 #[v, .int .i64 (n : Int), .agg x.cells] w fun e w' => ∃ u, e = .returned u /\ Wl.OwC base w' u (l ++ ownC x n) /\ Grw v w u w' := by
 have CD := xaa fun W (b : Below w.heap.size w W) => Ut.qko x.t W (hT.below b) ht
 have HO := xaa hO
 obtain ⟨LM, hLM⟩ : ∃ L, ownC x n = L := ⟨_, rfl⟩
 have HLM := xaa hLM
 rw [hLM]
 have hz : ∃ z, x.k = z := ⟨_, rfl⟩
 obtain ⟨z, hz⟩ := hz
 have HZ := xaa hz
 clear hT hLM hO hz
 go_enter Tryz.func29, Tryz.ntmps29
 go_wp2_with (refine bxNV rfl (.tmp 2) rfl x rfl ?_; intro w1 b1 B1; refine Mk.out ?_)
 constructor
 have O1 := xaa (HO.out.below b1)
 have c0 : w1.cell? ⟨w.heap.size, 0, none⟩ = some (.int .u8 z) := by rw [<- HZ.out]; exact B1.cell 0
 have c2 : w1.cell? ⟨w.heap.size, 2, none⟩ = some (.string x.t) := B1.cell 2
 have hb1 : base <= w1.heap.size := xau hbase b1.size
 have HB1 := xaa b1
 clear B1 b1
 by_cases h1 : z = 1
 ·subst h1
  obtain ⟨T, hT⟩ : ∃ T, tx0 x.t = T := ⟨_, rfl⟩
  have HL : Hid (LM = T.map (atN n)) := xaa (by rw [<- HLM.out, <- hT]; unfold ownC; rw [if_pos HZ.out])
  have HTL : Hid (T.length <= 100000) := xaa (by rw [<- hT]; exact xau (qp0 _) ht)
  have HOT : Hid (∀ W b u, Ut.Own W b u (Ut.chs 0 (Utf.qi4 (bs x.t))) -> Wl.OwC b W u T) := xaa fun W b u h => by rw [<- hT]; exact qze h
  clear hT
  go_wp2_with fail
  refine (CD.out _ HB1.out).mono ?_
  rintro e w2 ⟨tv, rfl, b2, hown⟩
  have OT := HOT.out _ _ _ hown
  have O2 := O1.out.below b2
  obtain ⟨A, cap, rfl⟩ := OT.rw_.form
  obtain ⟨m, hm⟩ : ∃ m, T.length = m := ⟨_, rfl⟩
  have HM := xaa hm
  have HAP : Hid (Apart (.slice A m cap) v) := xaa fun k h1 h2 => by
   have := qme O1.out h2
   rw [<- hm] at h1
   rcases OT.2 with ⟨h, _⟩ | ⟨g, c, cur, h, hb, _⟩
   ·injection h with h _ _
    subst h
    simp [Value.ownBlock] at h1
   ·injection h with h _ _
    subst h
    have : g = k := by simpa [Value.ownBlock] using h1
    omega
  rw [hm] at OT |-
  have HOT2 := xaa OT
  have HO2 := xaa O2
  have HG2 : Hid (Grw v w v w2) := xaa (Grw.ext (xaq HB1.out b2))
  have hb2 : base <= w2.heap.size := xau hb1 b2.size
  have hml : m <= 100000 := by have := HTL.out; omega
  clear hown OT O2 b2 hm c0 c2 O1 HB1
  go_wp2_with fail
  go_loopg [17, 0] (m + 1) (fun kx s17 s0 wr => ∃ i : Nat, s17 = .int .i64 (i : Int) /\ i <= m /\ kx = m + 1 - i /\ base <= wr.heap.size /\ Hid (Wl.OwC base wr s0 (l ++ (T.take i).map (atN n))) /\ Hid (Grw v w s0 wr) /\ Hid (∃ bb, Wl.OwC bb wr (.slice A m cap) T) /\ Hid (Apart (.slice A m cap) s0))
  case atStart => exact ⟨0, by go_num, Nat.zero_le _, by omega, hb2, by simpa using HO2, HG2, xaa ⟨_, HOT2.out⟩, HAP⟩
  case round =>
   obtain ⟨i, rfl, hi, rfl, hbr, JO, JG, JT, JA⟩ := hrel
   clear HO2 HG2 HOT2 HAP hb2
   by_cases h1 : i < m
   ·obtain ⟨c, hc⟩ : ∃ c, T[i]? = some c := ⟨_, xac (by rw [HM.out]; exact h1)⟩
    obtain ⟨bb, hTT⟩ := JT.out
    obtain ⟨a, cap2, o, hv, hab, ha, hLi⟩ := hTT.rw_.get (xas) hc
    rw [HM.out] at hv
    injection hv with hv1 hv2 hv3
    subst hv1 hv3
    have hiz : (i : Int) < m := by omega
    have HTK : Hid ((T.take (i + 1)).map (atN n) = (T.take i).map (atN n) ++ [atN n c]) := xaa (by rw [List.take_add_one, hc, List.map_append]; rfl)
    have HTT := xaa hTT
    have hll : (l ++ (T.take i).map (atN n)).length < 4194304 := by
     rw [List.length_append, xao, List.length_take]
     omega
    clear hv2 hc hab hTT
    go_wp2_with (first
     | (refine ldC (o := ⟨some 20, _, _, _, _, _⟩) rfl (.tmp 19) rfl _ rfl c (by first | exact hLi | exact ha ▸ hLi) ?_)
     | (refine nwC rfl rfl 8 rfl rfl (.tmp 20) rfl rfl c (fun _ => rfl) (fun _ => rfl) ?_; intro w3 b3 B3)
     | (refine qbr rfl 3 (.tmp 22) (.tmp 21) rfl rfl wr.heap.size 1 rfl (.int .i64 (n : Int)) rfl rfl rfl (by kernel_rfl) _ _ B3 (by simp [chA]) ?_; intro w4 m4 B4; refine Mk.out ?_))
    constructor
    rw [qtt] at B4
    have b4 : Below wr.heap.size wr w4 := b3.trans (m4.below b3.size fun k hk => by omega)
    have L4 := B4.lies
    have O4 := JO.out.below b4
    have HT4 := xaa (HTT.out.below b4)
    have HG4 := xaa (JG.out.trans (Grw.ext b4))
    have hb4 : base <= w4.heap.size := xau hbr b4.size
    clear b4
    clear B3 b3 m4 B4 JO JT JG HTT hLi ha
    go_wp2_with (first
     | (refine ldC (o := ⟨some 24, _, _, _, _, _⟩) rfl (.tmp 8) rfl _ rfl (atN n c) L4 ?_)
     | (refine apCr rfl (.tmp 24) rfl 25 rfl rfl (.tmp 23) rfl (atN n c) rfl _ (fun _ => rfl) (fun _ => rfl) base _ O4 hll hb4 ?_; intro u5 v5 w5 O5 b5 g5; refine Mk.out ?_))
    constructor
    have HO5 : Hid (Wl.OwC base w5 v5 (l ++ (T.take (i + 1)).map (atN n))) := xaa (by rw [HTK.out, <- List.append_assoc]; exact O5)
    have HG5 := xaa (HG4.out.trans g5)
    have HT5 : Hid (∃ bb, Wl.OwC bb w5 (.slice (some a) m cap) T) := xaa ⟨_, Apart.keep JA.out HT4.out g5.mod⟩
    have HA5 : Hid (Apart (.slice (some a) m cap) v5) := xaa (Apart.step JA.out HT4.out g5.own)
    have hb5 : base <= w5.heap.size := xau hb4 b5.size
    clear O4 L4 O5 g5 HG4 HT4 JA b5
    go_wp2_with fail
    go_roundg (m + 1 - (i + 1))
    case rel => exact ⟨i + 1, by go_num, by omega, rfl, hb5, HO5, HG5, HT5, HA5⟩
    case measure => omega
   ·obtain rfl : i = m := by omega
    have HF : Hid (∀ s0, Hid (Wl.OwC base wr s0 (l ++ (T.take i).map (atN n))) -> Hid (Grw v w s0 wr) -> Wl.OwC base wr s0 (l ++ LM) /\ Grw v w s0 wr) := xaa fun s0 h k => ⟨by rw [HL.out]; have := h.out; rwa [List.take_of_length_le (by rw [HM.out]; exact xat)] at this, k.out⟩
    have HR := xaa (HF.out _ JO JG)
    clear JO JG JT JA HF
    go_wp2_with fail
    go_ret
    exact ⟨_, rfl, HR.out⟩
 ·have d1 : decide (z = 1) = false := decide_eq_false h1
  by_cases h3 : z = 3
  ·subst h3
   have HL : Hid (LM = [⟨0, n, 0, 0, 5⟩]) := xaa (by rw [<- HLM.out]; unfold ownC; rw [if_neg (by rw [HZ.out]; decide), if_pos HZ.out])
   have O1' := O1.out
   have hll : l.length < 4194304 := by omega
   have hbd : ∀ w, (Instr.build 52 #[(4, .int .u8 5), (1, .int .i64 (n : Int))]).run Tryz.prog w = .ok (.agg (chA ⟨0, n, 0, 0, 5⟩)) w := fun _ => by kernel_rfl
   clear d1
   go_wp2_with (refine apCr rfl (.tmp 32) rfl 33 rfl rfl (.tmp 30) rfl ⟨0, n, 0, 0, 5⟩ rfl _ (fun _ => rfl) (fun _ => rfl) base _ O1' hll hb1 ?_; intro u5 v5 w5 O5 b5 g5; refine Mk.out ?_)
   constructor
   have HR : Hid (Wl.OwC base w5 v5 (l ++ LM) /\ Grw v w v5 w5) := xaa ⟨by rw [HL.out]; exact O5, (Grw.ext HB1.out).trans g5⟩
   clear O1' O5 g5 b5 c0 c2 O1
   go_wp2_with fail
   go_ret
   exact ⟨_, rfl, HR.out⟩
  ·have d3 : decide (z = 3) = false := decide_eq_false h3
   by_cases h4 : z = 4 \/ z = 5 \/ z = 6
   ·have HL : Hid (LM = [⟨65532, n, 0, 0, 6⟩]) := xaa (by rw [<- HLM.out]; unfold ownC; rw [if_neg (by rw [HZ.out]; exact h1), if_neg (by rw [HZ.out]; exact h3), if_pos (by rw [HZ.out]; exact h4)])
    have O1' := O1.out
    have hll : l.length < 4194304 := by omega
    rcases h4 with rfl | rfl | rfl
    all_goals
     clear d1 d3
     go_wp2_with (refine apCr rfl (.tmp 41) rfl 42 rfl rfl (.tmp 39) rfl ⟨65532, n, 0, 0, 6⟩ rfl _ (fun _ => rfl) (fun _ => rfl) base _ O1' hll hb1 ?_; intro u5 v5 w5 O5 b5 g5; refine Mk.out ?_)
     constructor
     have HR : Hid (Wl.OwC base w5 v5 (l ++ LM) /\ Grw v w v5 w5) := xaa ⟨by rw [HL.out]; exact O5, (Grw.ext HB1.out).trans g5⟩
     clear O1' O5 g5 b5 c0 c2 O1
     go_wp2_with fail
     go_ret
     exact ⟨_, rfl, HR.out⟩
   ·have HL : Hid (LM = []) := xaa (by rw [<- HLM.out]; unfold ownC; rw [if_neg (by rw [HZ.out]; exact h1), if_neg (by rw [HZ.out]; exact h3), if_neg (by rw [HZ.out]; exact h4)])
    have h4' : ¬ z = 4 := fun h => h4 (.inl h)
    have h5' : ¬ z = 5 := fun h => h4 (.inr (.inl h))
    have h6' : ¬ z = 6 := fun h => h4 (.inr (.inr h))
    have HR : Hid (Wl.OwC base w1 v (l ++ LM) /\ Grw v w v w1) := xaa ⟨by rw [HL.out, List.append_nil]; exact O1.out, Grw.ext HB1.out⟩
    clear d1 d3 O1 c2
    go_wp2_with fail
    go_ret
    exact ⟨_, rfl, HR.out⟩
end Ce
namespace Ce
open Go.Shelf
open Ar
attribute [local go_sem] Oper.semAt_some
theorem qr3 {α β : Type} (g : α -> List β) (l : List α) {i : Nat} {x : α} (h : l[i]? = some x) : (l.take (i + 1)).flatMap g = (l.take i).flatMap g ++ g x := by
 rw [List.take_add_one, h, List.flatMap_append]
 simp
theorem qla {α β : Type} (g : α -> List β) (l : List α) (i : Nat) : ((l.take i).flatMap g).length <= (l.flatMap g).length := by
 have e : l.flatMap g = (l.take i).flatMap g ++ (l.drop i).flatMap g := by rw [<- List.flatMap_append, List.take_append_drop]
 rw [e, List.length_append]
 omega
theorem qho {I : List (Nat × Bool) -> World -> Prop} {S : World -> Nat -> Prop} {L N : Nat} (l : List Nod) (v : Value) (F : Frm I S l v) (hT : Tre (psOf l)) (hlen : l.length <= 1000)
 (HY : ∀ (m : Nat) (pre : List (Nat × Bool)) (x : Nat × Bool) (W : World), I pre W -> pre.length < N -> YieldAt Fence.wide m Tryz.prog L (qs7 l x) W fun e W' => e = .returned (.bool true) /\ I (pre ++ [x]) W' /\ Kps S W W') :
 ∀ (d k : Nat) (pre : List (Nat × Bool)) (W : World), l.length <= k + d -> k < l.length -> I pre W -> pre.length + (visL (psOf l) (bxL l) k).length <= N →
  Calls Tryz.prog 50 #[v, .int .i64 (k : Int), .func (.yield L) #[] #[]] W fun e W' => e = .returned (.bool true) /\ I (pre ++ visL (psOf l) (bxL l) k) W' /\ Kps S W W' := by
 intro d
 induction d with
 | zero => intro k pre W h1 h2; omega
 | succ d ih =>
   intro k pre W hkd hk hI hN
   have CK := xaa (qs0 v l k W (F.tr _ _ hI) hT hk (by omega))
   have FR := xaa F
   have IH := xaa ih
   have HYD := xaa HY
   have HI0 := xaa hI
   have HKG : Hid (∀ j ∈ kidsL (psOf l) k, k < j /\ j < l.length) := xaa fun j hj => by have := qge hT hj; rw [qad] at this; exact this
   have HKL : Hid ((kidsL (psOf l) k).length <= 1000) := xaa (xau (List.length_filter_le _ _) (by rw [List.length_range, qad]; exact hlen))
   have HST := xaa (qfz hT (bxL l) k)
   obtain ⟨V, hV⟩ : ∃ V, visL (psOf l) (bxL l) k = V := ⟨_, rfl⟩
   rw [hV] at HST hN |-
   obtain ⟨ks, hks⟩ : ∃ ks, kidsL (psOf l) k = ks := ⟨_, rfl⟩
   rw [hks] at CK HKG HKL HST
   have HNN := xaa hN
   clear hV hks hN F ih HY hI
   refine (callsIn_wide (n := 7)).1 ?_
   refine callsIn_of_wp Tryz.func50 rfl trivial ?_ rfl
   simp only [Tryz.ntmps50, List.size_toArray, List.length_cons, List.length_nil, Nat.reduceAdd, Nat.reduceSub, Array.replicate_succ, Array.replicate_zero, List.push_toArray, List.append_toArray, List.nil_append, List.cons_append]
   gi_wp2_with fail
   refine ⟨trivial, (callsIn_wide.2 CK.out).mono ?_⟩
   rintro e w1 ⟨u, rfl, hR, b1⟩
   obtain ⟨I1, S1⟩ := FR.out.ext _ _ _ HI0.out b1
   have R1 : Row (S w1) w1 u (ks.map iv) := hR.mono fun j _ hj => FR.out.lt _ _ _ HI0.out (S1 j hj)
   have K1 : Kps S W w1 := FR.out.kps HI0.out b1
   obtain ⟨A, cap, rfl⟩ := R1.form
   obtain ⟨m, hm⟩ : ∃ m, ks.length = m := ⟨_, rfl⟩
   have HM := xaa hm
   rw [xao, hm] at R1 |-
   have hml : m <= 1000 := by have := HKL.out; omega
   clear hR b1 hm S1
   gi_wp2_with fail
   gi_loopw [21] (fun s21 wr => ∃ (i : Nat), s21 = .int .i64 (i : Int) /\ i <= m /\ I (pre ++ (ks.take i).flatMap (qgf (psOf l) (bxL l))) wr /\ Row (S wr) wr (.slice A m cap) (ks.map iv) /\ Kps S W wr)
    (fun s21 _ => m - (intOf s21).toNat)
   case atStart => exact ⟨0, by go_num, Nat.zero_le _, by simpa using I1, R1, K1⟩
   case round =>
    obtain ⟨i, rfl, hi, hJ, hRw, hK⟩ := hrel
    clear I1 R1 K1
    by_cases h1 : i < m
    ·obtain ⟨k2, hk2⟩ : ∃ k2, ks[i]? = some k2 := ⟨_, xac (by rw [HM.out]; exact h1)⟩
     obtain ⟨hk3, hk4⟩ := HKG.out k2 (xav hk2)
     obtain ⟨x, hx⟩ : ∃ x, l[k2]? = some x := ⟨_, xac hk4⟩
     have HX := xaa (getD_at hx)
     obtain ⟨a, cap2, hv, _, _, hcell⟩ := hRw.at_ (by rw [xao, HM.out]; omega)
     rw [xao, HM.out] at hv
     injection hv with hv1 hv2 hv3
     subst hv1 hv3
     have hcz := hcell i (iv k2) (by rw [xan, hk2]; rfl)
     unfold iv at hcz
     have hiz : (i : Int) < m := by omega
     have CN := xaa (fun W' (b : Below wr.heap.size wr W') => qgt v l k2 x W' (FR.out.tr _ _ (FR.out.ext _ _ _ hJ b).1) hx)
     have HFT := xaa (qr3 (qgf (psOf l) (bxL l)) ks hk2)
     have HJ := xaa hJ
     have HRw := xaa hRw
     have HK := xaa hK
     have HLN : Hid (pre.length + ((ks.take i).flatMap (qgf (psOf l) (bxL l))).length + (qgf (psOf l) (bxL l) k2).length <= N) := xaa (by
      have h5 := qla (qgf (psOf l) (bxL l)) ks (i + 1)
      rw [HFT.out, List.length_append, <- HST.out] at h5
      have := HNN.out
      omega)
     obtain ⟨PF, hPF⟩ : ∃ PF, pre ++ (ks.take i).flatMap (qgf (psOf l) (bxL l)) = PF := ⟨_, rfl⟩
     have HPF : Hid (pre ++ (ks.take (i + 1)).flatMap (qgf (psOf l) (bxL l)) = PF ++ qgf (psOf l) (bxL l) k2) := xaa (by rw [HFT.out, <- List.append_assoc, hPF])
     have HLN : Hid (PF.length + (qgf (psOf l) (bxL l) k2).length <= N) := xaa (by have := HLN.out; rw [<- hPF, List.length_append]; exact this)
     rw [hPF] at HJ
     clear hv2 hcell hk2 hx hJ hRw hK hPF HFT
     gi_wp2_with fail
     refine ⟨trivial, (callsIn_wide.2 (CN.out _ (xas))).mono ?_⟩
     rintro e w2 ⟨rfl, b2⟩
     gi_wp2_with (refine nwNIn (fun _ => trivial) rfl rfl 11 rfl rfl (.tmp 29) rfl rfl x (fun _ => rfl) (fun _ => rfl) ?_; intro w3 b3 k3 B3; refine Mk.out ?_)
     constructor
     have b13 : Below wr.heap.size wr w3 := xaq b2 b3
     obtain ⟨J3, S3⟩ := FR.out.ext _ _ _ HJ.out b13
     have hg3 : ¬ S w3 w2.heap.size := fun h => by
      have := FR.out.lt _ _ _ HJ.out (S3 _ h)
      have := b2.size
      omega
     have R3 := qy0 HRw.out b13 S3
     have K3 : Kps S W w3 := HK.out.trans (FR.out.kps HJ.out b13)
     have L3 := B3.lies
     obtain ⟨fn, tmps, assign, body, hy, hRd⟩ := HYD.out 6 PF (k2, true) w3 J3 (by have := HLN.out; unfold qgf at this; rw [List.length_cons] at this; omega)
     dsimp only [qs7] at hy
     rw [HX.out] at hy
     have HB3 := xaa B3
     have HR3 := xaa R3
     have HK3 := xaa K3
     have HJ3 := xaa J3
     have HG3 := xaa hg3
     clear b2 b3 b13 S3 J3 R3 K3 B3 k3 hg3 CN HJ HRw HK
     gi_wp2_with (refine ldNIn (fun _ => trivial) rfl (.tmp 11) rfl _ rfl x L3 ?_)
     refine hRd.mono ?_
     rintro e w4 ⟨rfl, J4, k4⟩
     have B4 := qsr HB3.out k4 HG3.out
     have hg4 : ¬ S w4 w2.heap.size := fun h => by
      rcases k4.own _ h with h | h
      ·exact HG3.out h
      ·have := HB3.out.lt; omega
     have R4 := qid HR3.out k4
     have K4 := HK3.out.trans k4
     have c4 : w4.cell? ⟨w2.heap.size, 0, none⟩ = some (.int .u8 x.k) := B4.cell 0
     obtain ⟨z, hz⟩ : ∃ z, x.k = z := ⟨_, rfl⟩
     rw [hz] at c4
     have HB4 := xaa B4
     have HR4 := xaa R4
     have HK4 := xaa K4
     have HG4 := xaa hg4
     clear L3 hy hRd B4 R4 K4 hg4 k4 HB3 HR3 HK3 HJ3 HG3
     by_cases hb : z = 2
     ·subst hb
      have hbx : bxL l k2 = true := by unfold bxL; rw [HX.out, hz]; rfl
      have HKV : Hid (qgf (psOf l) (bxL l) k2 = (k2, true) :: (visL (psOf l) (bxL l) k2 ++ [(k2, false)])) := xaa (by unfold qgf; rw [if_pos hbx])
      have C := xaa (IH.out k2 (PF ++ [(k2, true)]) w4 (by omega) hk4 J4 (by have := HLN.out; rw [HKV.out] at this; simp only [List.length_cons, List.length_append, List.length_nil] at this |-; omega))
      clear J4
      gi_wp2_with fail
      refine ⟨trivial, (callsIn_wide.2 C.out).mono ?_⟩
      rintro e w5 ⟨rfl, J5, k5⟩
      have B5 := qsr HB4.out k5 HG4.out
      have R5 := qid HR4.out k5
      have K5 := HK4.out.trans k5
      have L5 := B5.lies
      obtain ⟨fn2, tmps2, assign2, body2, hy2, hRd2⟩ := HYD.out 6 _ (k2, false) w5 J5 (by have := HLN.out; rw [HKV.out] at this; simp only [List.length_cons, List.length_append, List.length_nil] at this |-; omega)
      dsimp only [qs7] at hy2
      rw [HX.out] at hy2
      have HR5 := xaa R5
      have HK5 := xaa K5
      clear B5 R5 K5 k5 C c4
      gi_wp2_with (refine ldNIn (fun _ => trivial) rfl (.tmp 11) rfl _ rfl x L5 ?_)
      refine hRd2.mono ?_
      rintro e w6 ⟨rfl, J6, k6⟩
      have HR6 := xaa (qid HR5.out k6)
      have HK6 := xaa (HK5.out.trans k6)
      have HJ6 : Hid (I (pre ++ (ks.take (i + 1)).flatMap (qgf (psOf l) (bxL l))) w6) := xaa (by rw [HPF.out, HKV.out]; simpa using J6)
      clear hy2 hRd2 L5 J6 k6
      gi_wp2_with fail
      go_roundw
      case rel => exact ⟨i + 1, by go_num, by omega, HJ6.out, HR6.out, HK6.out⟩
      case measure => simp [intOf]; omega
     ·have hbx : bxL l k2 = false := by unfold bxL; rw [HX.out, hz]; exact decide_eq_false hb
      have HKV : Hid (qgf (psOf l) (bxL l) k2 = [(k2, true), (k2, false)]) := xaa (by unfold qgf; rw [hbx]; rfl)
      have hd : decide (z = 2) = false := decide_eq_false hb
      have hd2 : (z == 2) = false := by simpa using hb
      have L4 := HB4.out.lies
      obtain ⟨fn2, tmps2, assign2, body2, hy2, hRd2⟩ := HYD.out 6 _ (k2, false) w4 J4 (by have := HLN.out; rw [HKV.out] at this; simp only [List.length_cons, List.length_append, List.length_nil] at this |-; omega)
      dsimp only [qs7] at hy2
      rw [HX.out] at hy2
      clear J4
      gi_wp2_with (first
       | (refine wpListIn_val (o := ⟨some 39, _, _, _, _, _⟩) (fun _ => trivial) (fun c hc => by cases hc) rfl _ rfl (.bool false) _ (by go_simp; simp [hd2]) ?_)
       | (refine ldNIn (fun _ => trivial) rfl (.tmp 11) rfl _ rfl x L4 ?_))
      refine ⟨trivial, ?_⟩
      gi_wp2_with (refine ldNIn (fun _ => trivial) rfl (.tmp 11) rfl _ rfl x L4 ?_)
      refine hRd2.mono ?_
      rintro e w6 ⟨rfl, J6, k6⟩
      have HR6 := xaa (qid HR4.out k6)
      have HK6 := xaa (HK4.out.trans k6)
      have HJ6 : Hid (I (pre ++ (ks.take (i + 1)).flatMap (qgf (psOf l) (bxL l))) w6) := xaa (by rw [HPF.out, HKV.out]; simpa using J6)
      clear hy2 hRd2 L4 J6 k6 c4
      gi_wp2_with fail
      go_roundw
      case rel => exact ⟨i + 1, by go_num, by omega, HJ6.out, HR6.out, HK6.out⟩
      case measure => simp [intOf]; omega
    ·obtain rfl : i = m := by omega
     have HJ : Hid (I (pre ++ V) wr) := xaa (by rw [HST.out]; rw [List.take_of_length_le (by rw [HM.out]; exact xat)] at hJ; exact hJ)
     have HK := xaa hK
     clear hJ hRw hK
     gi_wp2_with fail
     go_ret
     exact ⟨rfl, HJ.out, HK.out⟩
theorem qkb (n : Nat) (v : Option Addr) (k : Int) (w : World) :
 CallsIn Fence.wide n Tryz.prog 25 #[.pointer v, .int .i64 k] w fun e w' => e = .returned (.func (.func 49) #[] #[.pointer (some ⟨w.heap.size, 0, none⟩), .pointer (some ⟨w.heap.size + 1, 0, none⟩)]) /\ w' = (w.alloc (.cells #[.pointer v] 28)).alloc (.cells #[.int .i64 k] 3) := by
 refine callsIn_of_wp Tryz.func25 rfl trivial ?_ rfl
 simp only [Tryz.ntmps25, List.size_toArray, List.length_cons, List.length_nil, Nat.reduceAdd, Nat.reduceSub, Array.replicate_succ, Array.replicate_zero, List.push_toArray, List.append_toArray, List.nil_append, List.cons_append]
 gi_wp2
 go_ret
 exact ⟨by simp, rfl⟩
theorem qkc (n Bt Bn L : Nat) (g : Nat) (k : Int) (W : World) (R : World -> Prop) (hBt : W.cell? ⟨Bt, 0, none⟩ = some (.pointer (some ⟨g, 0, none⟩))) (hBn : W.cell? ⟨Bn, 0, none⟩ = some (.int .i64 k))
 (C : Calls Tryz.prog 50 #[.pointer (some ⟨g, 0, none⟩), .int .i64 k, .func (.yield L) #[] #[]] W fun e W' => e = .returned (.bool true) /\ R W') :
 CallsIn Fence.wide n Tryz.prog 49 #[.func (.yield L) #[] #[], .pointer (some ⟨Bt, 0, none⟩), .pointer (some ⟨Bn, 0, none⟩)] W fun e W' => (∃ v, e = .returned v) /\ R W' := by
 have HC := xaa C
 clear C
 refine callsIn_wide.2 ?_
 go_enter Tryz.func49, Tryz.ntmps49
 go_wp2_with fail
 refine HC.out.mono ?_
 rintro e w2 ⟨rfl, hR⟩
 go_wp2_with fail
 refine ⟨rfl, _, results_none rfl _ _ _, ⟨_, rfl⟩, hR⟩
end Ce
namespace Ce
open Go.Shelf
open Ar
structure Sta (J : List (Nat × Bool) -> World -> Prop) (SJ : World -> Nat -> Prop) (n0 : Nat) : Prop where
 keep : ∀ pre W W' (T : Nat -> Prop), J pre W -> Mod T W W' -> (∀ k, SJ W k -> ¬ T k) -> J pre W' /\ ∀ k, SJ W' k -> SJ W k
 cells : ∀ pre W k, J pre W -> SJ W k -> n0 <= k /\ ∃ o, W.heap[k]? = some o /\ o.isCells = true
structure Ist (J : List (Nat × Bool) -> World -> Prop) (w0 : World) (L : Nat) (dfr rec : Obj) (pre : List (Nat × Bool)) (W : World) : Prop where
 st : J pre W
 loop : W.heap[L]? = some rec
 defd : W.heap[L - 1]? = some dfr
 below : Below w0.heap.size w0 W
def SL (SJ : World -> Nat -> Prop) (L : Nat) (W : World) (k : Nat) : Prop := SJ W k \/ k = L
section
variable {J : List (Nat × Bool) -> World -> Prop} {SJ : World -> Nat -> Prop} {w0 W : World} {L : Nat} {dfr rec : Obj} {pre : List (Nat × Bool)} {l : List Nod} {v : Value}
theorem Sta.ext (h : Sta J SJ w0.heap.size) {W' : World} (hJ : J pre W) (b : Below W.heap.size W W') : J pre W' /\ ∀ k, SJ W' k -> SJ W k := h.keep pre W W' (fun _ => False) hJ (xap b) fun _ _ => id
theorem Sta.lt (h : Sta J SJ w0.heap.size) (hJ : J pre W) {k : Nat} (hk : SJ W k) : k < W.heap.size := by
 obtain ⟨_, o, ho, _⟩ := h.cells pre W k hJ hk
 exact (xag ho).1
theorem Ist.lt (hI : Ist J w0 L dfr rec pre W) : L < W.heap.size := (xag hI.loop).1
theorem Ist.frm (h : Sta J SJ w0.heap.size) (hT : Tr w0 v l) : Frm (Ist J w0 L dfr rec) (SL SJ L) l v :=
 ⟨fun pre W W' hI b => ⟨⟨(h.ext hI.st b).1, (b.block _ hI.lt).trans hI.loop, (b.block _ (by have := hI.lt; omega)).trans hI.defd, hI.below.trans (b.mono hI.below.size)⟩, fun k hk => by
  rcases hk with hk | hk
  ·exact .inl ((h.ext hI.st b).2 k hk)
  ·exact .inr hk⟩,
  fun pre W k hI hk => by
   rcases hk with hk | hk
   ·exact h.lt hI.st hk
   ·rw [hk]; exact hI.lt,
  fun pre W hI => hT.below hI.below⟩
theorem Ist.ahead (h : Sta J SJ w0.heap.size) (hI : Ist J w0 L dfr rec pre W) (hr : rec.isCells = false) {w5 : World} (b5 : Below W.heap.size W w5) (bsy : Obj) : J pre (w5.putObj L bsy) /\ (∀ k, SJ (w5.putObj L bsy) k -> SJ W k) /\ (w5.putObj L bsy).heap.size = w5.heap.size /\ (∀ k, k ≠ L -> (w5.putObj L bsy).heap[k]? = w5.heap[k]?) /\ Mod (fun k => k = L) w5 (w5.putObj L bsy) := by
 obtain ⟨j5, s5⟩ := h.ext hI.st b5
 have hm : Mod (fun k => k = L) w5 (w5.putObj L bsy) := (Mod.refl _ w5).grown (grownBy_putObj' w5 L bsy) fun k e => by
  injection e with e
  exact .inl e.symm
 have hL5 : w5.heap[L]? = some rec := (b5.block _ hI.lt).trans hI.loop
 obtain ⟨j6, s6⟩ := h.keep pre w5 _ _ j5 hm fun k hk e => by
  obtain ⟨_, o, ho, hc⟩ := h.cells pre w5 k j5 hk
  rw [e, hL5] at ho
  injection ho with ho
  rw [<- ho, hr] at hc
  cases hc
 exact ⟨j6, fun k hk => s5 k (s6 k hk), by simp [World.putObj], fun k hk => World.putObj_heap_other hk, hm⟩
theorem Ist.behind (h : Sta J SJ w0.heap.size) (hI : Ist J w0 L dfr rec pre W) (hL0 : w0.heap.size <= L) (hL1 : 0 < L) (hr : rec.isCells = false) (hd : dfr.isCells = false) {w5 w8 : World} (b5 : Below W.heap.size W w5) {bsy : Obj} (hb : bsy.isCells = false) {pre' : List (Nat × Bool)} (hJ8 : J pre' w8) (k8 : Kps SJ (w5.putObj L bsy) w8) :
 w8.heap[L]? = some bsy /\ Ist J w0 L dfr rec pre' (w8.putObj L rec) /\ Kps (SL SJ L) W (w8.putObj L rec) := by
 obtain ⟨j6, s6, z6, o6, m6⟩ := hI.ahead h hr b5 bsy
 have hlt := hI.lt
 have s5 := b5.size
 have hL6 : (w5.putObj L bsy).heap[L]? = some bsy := World.putObj_heap_same (by omega)
 have hD6 : (w5.putObj L bsy).heap[L - 1]? = some dfr := (o6 _ (by omega)).trans ((b5.block _ (by omega)).trans hI.defd)
 have nL : ¬ SJ (w5.putObj L bsy) L := fun hk => by
  obtain ⟨_, o, ho, hc⟩ := h.cells pre _ L j6 hk
  rw [hL6] at ho
  injection ho with ho
  rw [<- ho, hb] at hc
  cases hc
 have nD : ¬ SJ (w5.putObj L bsy) (L - 1) := fun hk => by
  obtain ⟨_, o, ho, hc⟩ := h.cells pre _ _ j6 hk
  rw [hD6] at ho
  injection ho with ho
  rw [<- ho, hd] at hc
  cases hc
 have hL8 : w8.heap[L]? = some bsy := (k8.mod.block L (by omega) nL).trans hL6
 have hD8 : w8.heap[L - 1]? = some dfr := (k8.mod.block _ (by omega) nD).trans hD6
 have m9 : Mod (fun k => k = L) w8 (w8.putObj L rec) := (Mod.refl _ w8).grown (grownBy_putObj' w8 L rec) fun k e => by
  injection e with e
  exact .inl e.symm
 have z8 := k8.mod.size
 obtain ⟨j9, s9⟩ := h.keep pre' w8 _ _ hJ8 m9 fun k hk e => by
  obtain ⟨_, o, ho, hc⟩ := h.cells pre' w8 k hJ8 hk
  rw [e, hL8] at ho
  injection ho with ho
  rw [<- ho, hb] at hc
  cases hc
 have all : Mod (SL SJ L W) W (w8.putObj L rec) :=
  (((xap b5).trans ((m6.mono fun k hk => .inl (.inr hk) : Mod (SL SJ L W) w5 _))).seq k8.mod fun k hk => .inl (.inl (s6 k hk))).trans (m9.mono fun k hk => .inl (.inr hk))
 refine ⟨hL8, ⟨j9, World.putObj_heap_same (by omega), (World.putObj_heap_other (by omega)).trans hD8, ?_⟩, all, fun k hk => ?_⟩
 ·refine hI.below.trans (all.below hI.below.size fun k hk => ?_)
  rcases hk with hk | hk
  ·exact (h.cells pre W k hI.st hk).1
  ·omega
 ·rcases hk with hk | hk
  ·have h1 := s9 k hk
   rcases k8.own k h1 with h2 | h2
   ·exact .inl (.inl (s6 k h2))
   ·exact .inr (by omega)
  ·exact .inl (.inr hk)
end
end Ce
end Go.Proofs.YtmceblkjbpbcoaaGreatDoor
