/- Contracts of layers below. -/
import Derived.Test.YtmceblkjbpbcoaaGreatDoorPYLaws
import Derived.Maps.AppendAt
import Derived.OwnWalkIn
import Derived.ChangeOld
namespace Go.Proofs.YtmceblkjbpbcoaaGreatDoor
set_option maxRecDepth 100000
open Go.ChangeShapes Go.WideShapes Go.ChangeAt Go.RowKit
section
open Go.Deep
theorem qdq {w : World} {p : Addr} {cs : Array Value} {g o : Nat} (hp : p = ⟨g, o, none⟩) (h : ∀ j u, cs.toList[j]? = some u -> w.cell? ⟨g, o + j, none⟩ = some u) : qar w p cs := by
 subst hp
 intro j v hv
 have : (⟨g, o, none⟩ : Addr).add j = ⟨g, o + j, none⟩ := by unfold Addr.add; split <;> simp_all
 rw [this]
 exact h j v (by simpa using hv)
theorem flat_get (k : Nat) : ∀ (rows : List (List Value)), (∀ x ∈ rows, x.length = k) -> ∀ (i : Nat) (x : List Value), rows[i]? = some x -> ∀ (j : Nat) (u : Value), x[j]? = some u -> rows.flatten[i * k + j]? = some u
 | [], _, i, x, hx, _, _, _ => by simp at hx
 | r :: rows, hk, i, x, hx, j, u, hu => by
   have hr := hk r (List.mem_cons_self ..)
   rw [List.flatten_cons]
   cases i with
   | zero =>
     rw [xad] at hx
     injection hx with hx
     subst hx
     have hj : j < r.length := (xah hu).1
     rw [Nat.zero_mul, Nat.zero_add, List.getElem?_append_left hj]
     exact hu
   | succ i =>
     rw [xae] at hx
     rw [List.getElem?_append_right (by rw [hr, Nat.succ_mul]; omega), hr, show (i + 1) * k + j - k = i * k + j by rw [Nat.succ_mul]; omega]
     exact flat_get k rows (fun x hx => hk x (List.mem_cons_of_mem _ hx)) i x hx j u hu
theorem qa5.of_own {w : World} {base : Nat} {e : TypeId} {k n : Nat} {v : Value} {xs : List Value} {rows : List (List Value)} (h : w.ownsRow base e k v n xs) (hx : rows.flatten = xs) (hn : rows.length = n) (hk : ∀ x ∈ rows, x.length = k) : qa5 k (fun b => b < base) w v rows := by
 subst hx hn
 rcases h.2 with ⟨rfl, h0⟩ | ⟨g, cap, cur, rfl, hb, hg, rest⟩
 ·exact .inl ⟨rfl, List.length_eq_zero_iff.1 h0⟩
 ·refine .inr ⟨⟨g, 0, none⟩, cap, rfl, .inr ⟨(xag hg).1, by show ¬ g < base; omega⟩, fun i x hx j u hu => ?_⟩
  exact World.ownsRow.cells h (g := g) rfl _ u (flat_get k rows hk i x hx j u hu)
theorem qee {w : World} {g n c k : Nat} {t : TypeId} {cs : Array Value} {rows : List (List Value)} (h : Blk w g t cs) (hk : ∀ x ∈ rows, x.length = k) (hx : cs.toList = rows.flatten) (hn : rows.length = n) : qa5 k (fun _ => False) w (.slice (some ⟨g, 0, none⟩) n c) rows := by
 subst hn
 refine .inr ⟨_, c, rfl, .inr ⟨h.lt, id⟩, fun i x hi j u hu => h.lies _ u ?_⟩
 have := flat_get k _ hk i x hi j u hu
 rw [<- hx] at this
 simpa using this
end
section
theorem qrx {P : Program} {t : TypeId} {z : Value} {s b : Nat} (h : (P.info? t).map (fun i => (i.zero, i.size, i.bytes)) = some (some z, s, b)) : ∃ i, P.info? t = some i /\ i.zero = some z /\ i.size = s /\ i.bytes = b := by
 cases hq : P.info? t with
 | none => rw [hq] at h; cases h
 | some i =>
   rw [hq] at h
   injection h with h
   injection h with h1 h2
   injection h2 with h2 h3
   exact ⟨i, rfl, h1, h2, h3⟩
theorem qo1 {B : Nat} {w w' : World} {r : Option Nat} (h : w.grownBy w' r) (hB : B <= w.heap.size) (hr : ∀ g, r = some g -> B <= g) : Below B w w' :=
 (Mod.grown (S := fun k => r = some k) (Mod.refl _ _) h (fun _ e => .inl e)).below hB hr
structure Elh (P : Program) (T E : TypeId) (size bytes : Nat) : Prop where
 und : P.underlying T = some (.slice E)
 info : ∃ z : Value, ((P.info? E).map (fun i => (i.zero, i.size, i.bytes)) = some (some z, size, bytes)) /\ z.cells.size = size
 pos : 0 < size
 small : bytes <= 1024
theorem apH {P : Program} {T E : TypeId} {size bytes : Nat} (hE : Elh P T E size bytes) {ops : Array Oper} {Q : Exit -> Act -> World -> Prop} {a : Act} {w : World} {rest : List Oper} {o1 o2 : Oper} (hg1 : o1.guard = none) (x : Operand) (ho1 : o1.op = .buildSlice T 1 #[(0, x)]) (D : Tmp) (hd1 : o1.dst = some D)
 (hg2 : o2.guard = none) (sl : Operand) (ho2 : o2.op = .call { callee := .builtin .append, args := #[sl, .tmp D], argTypes := #[T, T] }) (val : Value) (cs : Array Value) (hx : a.eval x = val) (hcs : cs.size = size) (h1 : cs.all (·.oneCell') = true)
 (hbs : ∀ w, (Instr.buildSlice T 1 #[(0, val)]).run P w = .ok (.slice (some ⟨w.heap.size, 0, none⟩) 1 1) (w.alloc (.cells cs E)))
 (v : Value) (hs : ∀ u, (a.put (some D) u).eval sl = v) (hD : ∀ u, (a.put (some D) u).eval (.tmp D) = u) (base n : Nat) (xs : List Value) (hown : w.ownsRow base E size v n xs) (hn : n < 4194304) (hbase : base <= w.heap.size)
 (h : ∀ u v' w', w'.ownsRow base E size v' (n + 1) (xs ++ cs.toList) -> Below base w w' -> Mod (fun k => v.ownBlock = some k) w w' -> (∀ k, v'.ownBlock = some k -> v.ownBlock = some k \/ w.heap.size <= k) -> wpList P ops Q rest ((a.put (some D) u).put o2.dst v') w') : wpList P ops Q (o1 :: o2 :: rest) a w := by
 obtain ⟨z, hi0, hzc⟩ := hE.info
 obtain ⟨i0, hi, hz0, hz1, hz2⟩ := qrx hi0
 have hsm := hE.small
 refine qam (qaa hg1 _) _ hd1 (.slice (some ⟨w.heap.size, 0, none⟩) 1 1) (w.alloc (.cells cs E)) ?_ ?_
 ·unfold execOp
  simp only [ho1, List.map_toArray, List.map_cons, List.map_nil, hx, Sem.run_bind, hbs, Sem.run_pure, Result.andThen_ok]
 ·have B0 := Blk.new w E cs
  refine wpList_append_own_at _ hg2 sl (.tmp D) T ho2 base E i0 z size bytes hE.und hi hz0 hz1 hz2 hzc hE.pos v n xs (hs _) (hown.alloc _) ⟨w.heap.size, 0, none⟩ 1 1 cs.toList (hD _) (by rw [Array.length_toList, hcs, Nat.one_mul]) (fun j u hu => B0.lies j u (by simpa using hu)) (fun u hu => (Array.all_eq_true_iff_forall_mem.1 h1) u (by simpa using hu)) (by unfold maxLen; omega) (xau (Nat.mul_le_mul (show n + 1 <= 4194304 by omega) hsm) (by omega)) (by simp; omega) ?_
  intro v' w' h1 h2 h3 h5
  have hblk : ∀ g, v.ownBlock = some g -> base <= g := fun g hg => by
   rcases hown.2 with ⟨rfl, _⟩ | ⟨g', cap, cur, rfl, hb, _⟩
   ·simp [Value.ownBlock] at hg
   ·have e : g' = g := by simpa [Value.ownBlock] using hg
    omega
  refine h _ v' w' h1 (((xar w _).mono hbase).trans (qo1 h2 (by simp; omega) hblk)) (((Mod.refl _ w).alloc _).grown h2 fun k e => .inl e) fun k hk => ?_
  rcases h5 with e | e
  ·exact .inl (e ▸ hk)
  ·rw [e] at hk
   injection hk with hk
   exact .inr (by rw [<- hk]; simp)
theorem qzh (w : World) (base size : Nat) (e : TypeId) : w.ownsRow base e size (.slice none 0 0) 0 [] := ⟨by simp, .inl ⟨rfl, rfl⟩⟩
def Apart (v u : Value) : Prop := ∀ k, v.ownBlock = some k -> ¬ u.ownBlock = some k
theorem qme {w : World} {base size : Nat} {e : TypeId} {v : Value} {n : Nat} {xs : List Value} (h : w.ownsRow base e size v n xs) {k : Nat} (hk : v.ownBlock = some k) : k < w.heap.size := by
 rcases h.2 with ⟨rfl, _⟩ | ⟨g, cap, cur, rfl, _, hg, _⟩
 ·simp [Value.ownBlock] at hk
 ·obtain rfl : g = k := by simpa [Value.ownBlock] using hk
  exact (xag hg).1
theorem Apart.step {w : World} {base size : Nat} {e : TypeId} {v v' u : Value} {n : Nat} {xs : List Value} (h : Apart u v) (hu : w.ownsRow base e size u n xs) (hv : ∀ k, v'.ownBlock = some k -> v.ownBlock = some k \/ w.heap.size <= k) : Apart u v' := fun k h1 h2 => by
 rcases hv k h2 with e | e
 ·exact h k h1 e
 ·have := qme hu h1
  omega
theorem Apart.keep {w w' : World} {base size : Nat} {e : TypeId} {v u : Value} {n : Nat} {xs : List Value} (h : Apart u v) (hu : w.ownsRow base e size u n xs) (m : Mod (fun k => v.ownBlock = some k) w w') : w'.ownsRow base e size u n xs := qcd hu m h
end
section
def RowI (k : IntKind) (w : World) (v : Value) (l : List Int) : Prop := Row (fun _ => False) w v (l.map (Value.int k))
section
variable {k : IntKind} {w w' : World} {v : Value} {l : List Int}
theorem RowI.lit (w : World) (l : List Int) (t : TypeId) (n : Nat) (cs : Array Value) (hn : l.length = n) (hc : cs = (l.map (Value.int k)).toArray) : RowI k (w.alloc (.cells cs t)) (.slice (some ⟨w.heap.size, 0, none⟩) n n) l := by
 subst hc hn
 have B := Blk.new w t (l.map (Value.int k)).toArray
 refine .inr ⟨⟨w.heap.size, 0, none⟩, l.length, by rw [xao], .inr ⟨B.lt, id⟩, fun j u hj => ?_⟩
 have e : (⟨w.heap.size, 0, none⟩ : Addr).add j = ⟨w.heap.size, j, none⟩ := by simp [Addr.add]; exact fun h => h.symm
 rw [e, B.cell j]
 simpa using hj
end
end
section
open Go.Deep
section
variable {H : Type} {enc : TypeId × Value -> H} {W : World} {r : Reach} {b0 : Nat} {v : Value} {d : DataW H} {ps : List MemPlace} {fuel : Nat} {cs : List Value} {y : DataW H × List MemPlace}
theorem qek {P : Program} {t e : TypeId} {k : Nat} {α : Type} (f : α -> List Value) (p : α -> Prop) (ht : P.underlying t = some (.slice e)) (hC : P.cellsOf e = k) (hpos : 0 < k) (hk : ∀ x, (f x).length = k)
 (hf : ∀ (n : Nat) (cs : List Value) (y : DataW H × List MemPlace), DataW.trod enc P W 0 (fun _ => true) true n e cs = some y -> ∃ x, cs = f x /\ p x) (h : DataW.trod enc P W 0 (fun _ => true) true fuel t [v] = some y) :
 ∃ xs : List α, qa5 k (fun b => W.heap.size <= b) W v (xs.map f) /\ ∀ x ∈ xs, p x := by
 rcases open_slice ht h with ⟨hcs, _⟩ | ⟨a, len, cap, m, n, D, Pl, hcs, _, hl, hm, hmm, _, hi⟩
 ·injection hcs with hcs
  subst hcs
  exact ⟨[], .inl ⟨rfl, rfl⟩, by simp⟩
 ·injection hcs with hcs
  subst hcs
  simp only [if_true] at hmm
  subst hmm
  have key : ∀ i, i < len -> ∃ x : α, p x /\ ∀ j u, (f x)[j]? = some u -> W.cell? (a.add (i * k + j)) = some u := by
   intro i hil
   obtain ⟨cs', hc, ht'⟩ := hi i (by omega)
   rw [hC] at hc
   obtain ⟨_, hcl, hat⟩ := World.cells?_some hc
   obtain ⟨x, rfl, hp⟩ := hf _ _ _ ht'
   refine ⟨x, hp, fun j u hj => ?_⟩
   have hjl : j < (f x).length := (xah hj).1
   rw [hk] at hjl
   rw [<- add_add, hat j (by omega)]
   exact hj
  have hnil : len = 0 \/ ∃ x : α, True := by
   rcases Nat.eq_zero_or_pos len with h0 | h0
   ·exact .inl h0
   ·obtain ⟨x, _⟩ := key 0 h0
    exact .inr ⟨x, trivial⟩
  rcases hnil with rfl | ⟨x0, _⟩
  ·refine ⟨[], .inr ⟨a, m, rfl, .inl rfl, fun i x hx => by simp at hx⟩, by simp⟩
  let X : Nat -> α := fun i => if h : i < len then (key i h).choose else x0
  have hX : ∀ i, i < len -> p (X i) /\ ∀ j u, (f (X i))[j]? = some u -> W.cell? (a.add (i * k + j)) = some u := by
   intro i hil
   have := (key i hil).choose_spec
   simp only [X, dif_pos hil]
   exact this
  refine ⟨(List.range len).map X, .inr ⟨a, m, by simp, ?_, fun i x hx => ?_⟩, fun x hx => ?_⟩
  ·rcases Nat.eq_zero_or_pos len with h0 | h0
   ·subst h0; exact .inl rfl
   ·right
    obtain ⟨_, hc⟩ := hX 0 h0
    have h2 := hc 0 _ (xac (by rw [hk]; exact hpos))
    have := World.block_lt_of_cell? _ _ h2
    rw [qac] at this
    exact ⟨this, by omega⟩
  ·rw [List.map_map, xan] at hx
   cases hr : (List.range len)[i]? with
   | none => rw [hr] at hx; cases hx
   | some q =>
     obtain ⟨hq, hq2⟩ := xah hr
     simp at hq hq2
     subst hq2
     rw [hr] at hx
     injection hx with hx
     subst hx
     exact (hX _ hq).2
  ·obtain ⟨i, hir, rfl⟩ := List.mem_map.1 hx
   exact (hX i (List.mem_range.1 hir)).1
end
end
end Go.Proofs.YtmceblkjbpbcoaaGreatDoor
