/- Contracts of layers below. -/
import Derived.Test.YtmceblkjbpbcoaaGreatDoorRows
import Derived.WalkKit
import Derived.ProofKit
import Derived.OpenShut
import Derived.ShutString
import Derived.IntWalk
import Derived.WalkSpells
import Derived.Lib.Hide
import Derived.Below
import Derived.OwnWalk
import Derived.Maps.AppendAt
import Derived.Deep.AppendLies
import Derived.Deep.QuietTactic
import Derived.BigQuiet
import Derived.Deep.LoopGhost
import Derived.Deep.DeepCutAuto
import Derived.Deep.CutBlock
import Derived.Deep.Draws
import Derived.Laws.Rows
import Derived.Laws.OwnMore
import Derived.Laws.BytesArg
import Derived.RegionTactic
import Derived.OrdersHeld
import Derived.SliceStrings
import Derived.ChangeOld
import Derived.Deep.Slices
import Derived.Deep.Fields
import Derived.Laws.MakeOwn
namespace Go.Proofs.YtmceblkjbpbcoaaGreatDoor
open Go.ChangeShapes Go.WideShapes Go.ChangeAt Go.RowKit
section
theorem qb7 {k : IntKind} {a c : Int} (h : a = c) : Ending.returned (.int k a) = .returned (.int k c) := by rw [h]
theorem qak {a c : Bool} (h : a = c) : Ending.returned (.bool a) = .returned (.bool c) := by rw [h]
def bs (s : ByteArray) : List Nat := s.data.toList.map UInt8.toNat
theorem bs_len (s : ByteArray) : (bs s).length = s.size := by simp [bs]
structure Mod (S : Nat -> Prop) (w w' : World) : Prop where
 os : w'.os = w.os
 tape : w'.tape = w.tape
 output : w'.output = w.output
 size : w.heap.size <= w'.heap.size
 block : ∀ k, k < w.heap.size -> ¬ S k -> w'.heap[k]? = w.heap[k]?
theorem Mod.refl (S : Nat -> Prop) (w : World) : Mod S w w := ⟨rfl, rfl, rfl, Nat.le_refl _, fun _ _ _ => rfl⟩
theorem Mod.seq {S T : Nat -> Prop} {a b c : World} (h : Mod S a b) (k : Mod T b c) (hT : ∀ i, T i -> S i \/ a.heap.size <= i) : Mod S a c :=
 ⟨k.os.trans h.os, k.tape.trans h.tape, k.output.trans h.output, Nat.le_trans h.size k.size, fun i hi hS => by
  refine (k.block i (Nat.lt_of_lt_of_le hi h.size) (fun ht => ?_)).trans (h.block i hi hS)
  rcases hT i ht with h1 | h1
  ·exact hS h1
  ·omega⟩
theorem Mod.trans {S : Nat -> Prop} {a b c : World} (h : Mod S a b) (k : Mod S b c) : Mod S a c := h.seq k fun _ hi => .inl hi
theorem Mod.mono {S T : Nat -> Prop} {a b : World} (h : Mod S a b) (hT : ∀ i, S i -> T i \/ a.heap.size <= i) : Mod T a b :=
 (Mod.refl T a).seq h hT
theorem Mod.alloc {S : Nat -> Prop} {a w : World} (h : Mod S a w) (o : Obj) : Mod S a (w.alloc o) :=
 h.trans ⟨rfl, rfl, rfl, by simp, fun k hk _ => Below.heap_alloc _ _ _ hk⟩
theorem Mod.drewN {S : Nat -> Prop} {a w : World} (h : Mod S a w) (n : Nat) : Mod S a (w.drewN n) := ⟨h.os, h.tape, h.output, h.size, h.block⟩
theorem Mod.drew {S : Nat -> Prop} {a w : World} (h : Mod S a w) : Mod S a w.drew := ⟨h.os, h.tape, h.output, h.size, h.block⟩
theorem Mod.setCell {S : Nat -> Prop} {a w : World} (h : Mod S a w) {p : Addr} (hp : S p.block \/ a.heap.size <= p.block) (u : Value) : Mod S a (w.setCell p u) :=
 h.seq (T := fun k => k = p.block) ⟨rfl, rfl, rfl, by simp [World.setCell], fun k _ hne => Below.heap_setCell _ _ _ _ hne⟩ (fun i hi => by rw [hi]; exact hp)
theorem Mod.grown {S : Nat -> Prop} {a w w' : World} {row : Option Nat} (h : Mod S a w) (hg : w.grownBy w' row) (hr : ∀ k, row = some k -> S k \/ a.heap.size <= k) : Mod S a w' :=
 h.seq (T := fun k => row = some k) ⟨hg.os, hg.tape, hg.output, hg.size, fun k hk hne => hg.block k hk (fun e => hne e.symm)⟩ hr
theorem Mod.of_below {S : Nat -> Prop} {w w' : World} (h : Below w.heap.size w w') : Mod S w w' := ⟨h.os, h.tape, h.output, h.size, fun k hk _ => h.block k hk⟩
theorem Mod.below {S : Nat -> Prop} {w w' : World} {B : Nat} (h : Mod S w w') (hB : B <= w.heap.size) (hS : ∀ k, S k -> B <= k) : Below B w w' :=
 ⟨h.os, h.tape, h.output, h.size, fun k hk => h.block k (by omega) (fun e => by have := hS k e; omega)⟩
theorem Mod.cell {S : Nat -> Prop} {w w' : World} (h : Mod S w w') {p : Addr} (hp : p.block < w.heap.size) (hS : ¬ S p.block) : w'.cell? p = w.cell? p := World.cell?_of_block (h.block p.block hp hS)
theorem below_drewN {B : Nat} {a w : World} (h : Below B a w) (n : Nat) : Below B a (w.drewN n) := ⟨h.os, h.tape, h.output, h.size, h.block⟩
theorem below_alloc (w : World) (o : Obj) : Below w.heap.size w (w.alloc o) := (Below.refl _ _).alloc (Nat.le_refl _) _
theorem below_seq {a b c : World} (h : Below a.heap.size a b) (k : Below b.heap.size b c) : Below a.heap.size a c := h.trans (k.mono h.size)
def Drawn (w w' : World) : Prop := ∃ n, w' = w.drewN n
def Blk (w : World) (g : Nat) (t : TypeId) (cs : Array Value) : Prop := w.heap[g]? = some (.cells cs t (0, 0))
section
variable {w w' : World} {g : Nat} {t : TypeId} {cs : Array Value}
theorem Blk.lt (h : Blk w g t cs) : g < w.heap.size := (Array.getElem?_eq_some_iff.1 h).1
theorem Blk.keep {S : Nat -> Prop} (h : Blk w g t cs) (m : Mod S w w') (hS : ¬ S g) : Blk w' g t cs := by
 have e := m.block g h.lt hS
 exact e.trans h
theorem Blk.cell (h : Blk w g t cs) (i : Nat) : w.cell? ⟨g, i, none⟩ = cs[i]? := by
 have := cell_of_row w g i cs t (0, 0) h
 exact this
theorem Blk.frozen (h : Blk w g t cs) (i : Nat) : w.frozen? ⟨g, i, none⟩ = false := by
 have e : w.heap[g]? = some (.cells cs t (0, 0)) := h
 simp [World.frozen?, e]
theorem Blk.new (w : World) (t : TypeId) (cs : Array Value) : Blk (w.alloc (.cells cs t)) w.heap.size t cs := by
 unfold Blk
 exact heap_alloc_new w (.cells cs t)
theorem Blk.drewN (h : Blk w g t cs) (n : Nat) : Blk (w.drewN n) g t cs := h.keep (S := fun _ => False) ((Mod.refl _ _).drewN n) id
theorem Blk.alloc (h : Blk w g t cs) (o : Obj) : Blk (w.alloc o) g t cs := h.keep (S := fun _ => False) ((Mod.refl _ _).alloc o) id
theorem Blk.grown {row : Option Nat} (h : Blk w g t cs) (hb : w.grownBy w' row) (hg : some g ≠ row) : Blk w' g t cs :=
 h.keep (S := fun k => row = some k) ((Mod.refl _ _).grown hb fun _ hk => .inl hk) fun e => hg e.symm
theorem Blk.set_ (h : Blk w g t cs) (i : Nat) (u : Value) : Blk (w.setCell ⟨g, i, none⟩ u) g t (cs.setIfInBounds i u) := by
 have e : w.heap[g]? = some (.cells cs t (0, 0)) := h
 show (w.setCell ⟨g, i, none⟩ u).heap[g]? = _
 simp [World.setCell, Array.getElem?_modify, e]
end
theorem qcd {S : Nat -> Prop} {w w' : World} {base : Nat} {e : TypeId} {size : Nat} {v : Value} {n : Nat} {xs : List Value} (h : w.ownsRow base e size v n xs) (m : Mod S w w') (hS : ∀ k, v.ownBlock = some k -> ¬ S k) : w'.ownsRow base e size v n xs := by
 refine ⟨h.1, ?_⟩
 rcases h.2 with hn | ⟨g, cap, cur, rfl, hb, hgg, rest⟩
 ·exact .inl hn
 ·refine .inr ⟨g, cap, cur, rfl, hb, ?_, rest⟩
  rw [m.block g (Array.getElem?_eq_some_iff.1 hgg).1 (hS g rfl)]
  exact hgg
theorem qmf {w : World} {base base' : Nat} {e : TypeId} {size : Nat} {v : Value} {n : Nat} {xs : List Value} (h : w.ownsRow base e size v n xs) (hb : base' <= base) : w.ownsRow base' e size v n xs := by
 refine ⟨h.1, ?_⟩
 rcases h.2 with hn | ⟨g, cap, cur, rfl, h1, rest⟩
 ·exact .inl hn
 ·exact .inr ⟨g, cap, cur, rfl, Nat.le_trans hb h1, rest⟩
def Row (S : Nat -> Prop) (w : World) (v : Value) (xs : List Value) : Prop :=
 (v = .slice none 0 0 /\ xs = []) \/ ∃ a cap, v = .slice (some a) xs.length cap /\ (xs = [] \/ (a.block < w.heap.size /\ ¬ S a.block)) /\ ∀ j u, xs[j]? = some u -> w.cell? (a.add j) = some u
theorem qac (a : Addr) (n : Nat) : (a.add n).block = a.block := by unfold Addr.add; split <;> rfl
theorem Row.form {S : Nat -> Prop} {w : World} {v : Value} {xs : List Value} (h : Row S w v xs) : ∃ A c, v = .slice A xs.length c := by
 rcases h with ⟨rfl, rfl⟩ | ⟨a, cap, rfl, _⟩
 ·exact ⟨_, _, rfl⟩
 ·exact ⟨_, _, rfl⟩
theorem Row.keep {S T : Nat -> Prop} {w w' : World} {v : Value} {xs : List Value} (h : Row S w v xs) (m : Mod T w w') (hT : ∀ k, k < w.heap.size -> T k -> S k) : Row S w' v xs := by
 rcases h with h | ⟨a, cap, rfl, hb, hc⟩
 ·exact .inl h
 ·refine .inr ⟨a, cap, rfl, ?_, fun j u hu => ?_⟩
  ·rcases hb with hb | ⟨hb, hS⟩
   ·exact .inl hb
   ·exact .inr ⟨Nat.lt_of_lt_of_le hb m.size, hS⟩
  ·rcases hb with rfl | ⟨hb, hS⟩
   ·simp at hu
   ·rw [m.cell (by rw [qac]; exact hb) (by rw [qac]; exact fun ht => hS (hT _ hb ht))]
    exact hc j u hu
theorem Row.mono {S T : Nat -> Prop} {w : World} {v : Value} {xs : List Value} (h : Row S w v xs) (hT : ∀ k, k < w.heap.size -> T k -> S k) : Row T w v xs := by
 rcases h with h | ⟨a, cap, rfl, hb, hc⟩
 ·exact .inl h
 ·refine .inr ⟨a, cap, rfl, ?_, hc⟩
  rcases hb with hb | ⟨hb, hS⟩
  ·exact .inl hb
  ·exact .inr ⟨hb, fun ht => hS (hT _ hb ht)⟩
theorem Row.below {S : Nat -> Prop} {w w' : World} {v : Value} {xs : List Value} (h : Row S w v xs) (b : Below w.heap.size w w') : Row S w' v xs := h.keep (T := fun _ => False) (Mod.of_below b) (fun _ _ h => h.elim)
theorem Row.of_own {w : World} {base : Nat} {e : TypeId} {v : Value} {n : Nat} {xs : List Value} (h : w.ownsRow base e 1 v n xs) : Row (fun k => k < base) w v xs := by
 have hl := h.1
 rw [Nat.mul_one] at hl
 rcases h.2 with ⟨rfl, h0⟩ | ⟨g, cap, cur, rfl, hb, hg, rest⟩
 ·exact .inl ⟨rfl, List.length_eq_zero_iff.1 (by omega)⟩
 ·refine .inr ⟨⟨g, 0, none⟩, cap, by rw [hl], .inr ⟨(Array.getElem?_eq_some_iff.1 hg).1, by show ¬ g < base; omega⟩, World.ownsRow.cells h (g := g) rfl⟩
theorem Row.at_ {S : Nat -> Prop} {w : World} {v : Value} {xs : List Value} (h : Row S w v xs) (h0 : 0 < xs.length) : ∃ a cap, v = .slice (some a) xs.length cap /\ a.block < w.heap.size /\ ¬ S a.block /\ ∀ j u, xs[j]? = some u -> w.cell? (a.add j) = some u := by
 rcases h with ⟨_, rfl⟩ | ⟨a, cap, rfl, hb, hc⟩
 ·simp at h0
 ·rcases hb with rfl | ⟨hb, hS⟩
  ·simp at h0
  ·exact ⟨a, cap, rfl, hb, hS, hc⟩
theorem qc0 (w : World) (v : Value) (t : TypeId) : (w.alloc (.cells #[v] t)).cell? ⟨w.heap.size, 0, none⟩ = some v := by
 have := World.cell?_alloc_new w #[v] t 0
 simp at this |-
theorem qbj {B : Nat} {w w' : World} (b : Below B w w') {k : Nat} (hk : k < B) {v : Value} (h : w.cell? ⟨k, 0, none⟩ = some v) : w'.cell? ⟨k, 0, none⟩ = some v := (b.cell (p := ⟨k, 0, none⟩) hk).trans h
end
section
section
variable {P : Program} {ops : Array Oper} {Q : Exit -> Act -> World -> Prop} {md : Region.Mode} {S : World -> Prop} {R : Act -> Prop}
def q04 (P : Program) (S : World -> Prop) (v : Value) (r : Result Next) : Prop :=
 (∃ w', r = .ok (.value v) w' /\ S w') \/ (∃ f args w', r = .ok (.enter f args) w' /\ Calls P f args w' fun e w'' => e = .returned v /\ S w'')
def qaf (P : Program) (ops : Array Oper) (S : World -> Prop) (o : Oper) (v : Value) (a : Act) : Prop :=
 (Region.wanted o (yielded ops a.tmps) = true /\ ∀ w, S w -> q04 P S v ((execOp a.eval o).run P w)) ∨
 (Region.wanted o (yielded ops a.tmps) = false /\ v = undef)
theorem qaf.of_same {o : Oper} {v : Value} {a a' : Act} (hy : qaf P ops S o v a) (he : execOp a'.eval o = execOp a.eval o)
 (hw : Region.wanted o (yielded ops a'.tmps) = Region.wanted o (yielded ops a.tmps)) : qaf P ops S o v a' := by
 unfold qaf at *
 rw [he, hw]
 exact hy
theorem qaf.step {i : Nat} {o : Oper} {v : Value} {a : Act} {K : Act -> World -> Prop} {w : World} (hi : ops[i]? = some o) (hy : qaf P ops S o v a) (hS : S w)
 (h : ∀ w', S w' -> K (a.put o.dst v) w') : Go.wpOp P ops Q i K a w := by
 unfold Go.wpOp
 simp only [hi]
 rcases hy with ⟨hw, hv⟩ | ⟨hw, rfl⟩
 ·rw [if_pos hw]
  left
  rcases hv w hS with ⟨w', hr, hS'⟩ | ⟨f, args, w', hr, hc⟩
  ·simp only [Oper.wp, hr, Oper.upon]
   exact h w' hS'
  ·simp only [Oper.wp, hr, Oper.upon]
   refine Calls.mono hc ?_
   rintro e w'' ⟨rfl, hS'⟩
   exact h w'' hS'
 ·rw [if_neg (by simp [hw])]
  exact h w hS
def AllS (P : Program) (md : Region.Mode) (ops : Array Oper) (S : World -> Prop) (R : Act -> Prop) : Nat -> Array Bool -> Act -> Prop
 | 0, listed, a => Region.ready md ops listed = [] /\ R a
 | fuel + 1, listed, a => (Region.ready md ops listed = [] -> R a) ∧
   ∀ i ∈ Region.ready md ops listed, ∃ oi v, ops[i]? = some oi /\ qaf P ops S oi v a /\ AllS P md ops S R fuel (listed.setIfInBounds i true) (a.put oi.dst v)
theorem AllS.sound (hQ : ∀ a w, S w -> R a -> Q .normal a w) : ∀ (fuel : Nat) (listed : Array Bool) (a : Act) (w : World), AllS P md ops S R fuel listed a -> S w -> wpAny P md ops Q fuel listed a w
 | 0, _, _, w, h, hS => ⟨h.1, hQ _ w hS h.2⟩
 | fuel + 1, _, _, w, h, hS => ⟨fun h0 => hQ _ w hS (h.1 h0), fun i hi => by
   obtain ⟨oi, v, ho, hk, hr⟩ := h.2 i hi
   exact hk.step ho hS fun w' hS' => AllS.sound hQ fuel _ _ w' hr hS'⟩
theorem AllS.first {i : Nat} {oi : Oper} {v : Value} (hi : ops[i]? = some oi) (hsel : ∀ (j : Nat) (o : Oper) cs b, ops[j]? = some o -> o.op ≠ .select cs b) :
 ∀ (fuel : Nat) (listed : Array Bool) (a : Act),
  (∀ j oj, ops[j]? = some oj -> j ≠ i -> listed.getD j true = false -> (∀ e ∈ oj.after, Region.binds md e = true -> e.on ≠ i) -> oi.apart ops oj = true) →
  i ∈ Region.ready md ops listed -> qaf P ops S oi v a →
  AllS P md ops S R fuel (listed.setIfInBounds i true) (a.put oi.dst v) -> AllS P md ops S R (fuel + 1) listed a := by
 intro fuel
 induction fuel with
 | zero =>
   intro listed a _ hr hy H
   refine ⟨fun h => (by rw [h] at hr; cases hr), fun j hj => ?_⟩
   by_cases hji : j = i
   ·subst hji; exact ⟨oi, v, hi, hy, H⟩
   ·have := ready_mono hj hji
    rw [H.1] at this
    cases this
 | succ fuel ih =>
   intro listed a hfree hr hy H
   refine ⟨fun h => (by rw [h] at hr; cases hr), fun j hj => ?_⟩
   by_cases hji : j = i
   ·subst hji; exact ⟨oi, v, hi, hy, H⟩
   ·obtain ⟨oj, u, hoj, hk, hrest⟩ := H.2 j (ready_mono hj hji)
    obtain ⟨hjun, oj', hoj', hall⟩ := mem_ready.1 hj
    rw [hoj] at hoj'
    injection hoj' with hoj'
    subst hoj'
    have hnot : ∀ e ∈ oj.after, Region.binds md e = true -> e.on ≠ i := fun e he hb heq => by
     have h1 := hall e he hb
     have h0 := (mem_ready.1 hr).1
     rw [heq] at h1
     rcases Nat.lt_or_ge i listed.size with h' | h'
     ·simp [h'] at h0 h1; rw [h0] at h1; cases h1
     ·simp [Array.getElem?_eq_none h'] at h1
    have hap := hfree j oj hoj hji hjun hnot
    obtain ⟨h1, h2, h3⟩ := Oper.apart_spec hap
    have hsi : ∀ cs b, oi.op ≠ .select cs b := fun cs b => hsel i oi cs b hi
    have hsj : ∀ cs b, oj.op ≠ .select cs b := fun cs b => hsel j oj cs b hoj
    refine ⟨oj, u, hoj, hk.of_same (execOp_put oj hsj a oi.dst v h1).symm (wanted_put oj a oi.dst v h1).symm, ?_⟩
    have hfree' : ∀ k ok, ops[k]? = some ok -> k ≠ i -> (listed.setIfInBounds j true).getD k true = false →
     (∀ e ∈ ok.after, Region.binds md e = true -> e.on ≠ i) -> oi.apart ops ok = true := fun k ok hok hki hun hno => by
     refine hfree k ok hok hki ?_ hno
     by_cases hjk : j = k
     ·subst hjk; exact hjun
     ·rw [getD_set_ne true hjk] at hun; exact hun
    refine ih (listed.setIfInBounds j true) _ hfree' (ready_mono hr (Ne.symm hji)) (hy.of_same (execOp_put oi hsi a oj.dst u h3) (wanted_put oi a oj.dst u h3)) ?_
    rw [Array.setIfInBounds_comm _ _ hji, <- Act.put_comm a v u h2]
    exact hrest
theorem AllS.take {i : Nat} {oi : Oper} {v : Value} {fuel : Nat} {listed : Array Bool} {a : Act} (hi : ops[i]? = some oi)
 (hs : Region.noSelect ops = true) (hf : Region.free md ops listed i = true) (hr : (Region.ready md ops listed).contains i = true)
 (hy : qaf P ops S oi v a) (h : AllS P md ops S R fuel (listed.setIfInBounds i true) (a.put oi.dst v)) : AllS P md ops S R (fuel + 1) listed a :=
 AllS.first hi (Region.noSelect_spec hs) fuel listed a (Region.free_spec hi hf) (by simpa using hr) hy h
theorem AllS.done {listed : Array Bool} {a : Act} (hr : Region.ready md ops listed = []) (h : R a) : ∀ fuel, AllS P md ops S R fuel listed a
 | 0 => ⟨hr, h⟩
 | _ + 1 => ⟨fun _ => h, by rw [hr]; simp⟩
theorem qaf.read {o : Oper} {v : Value} {a : Act} (hw : Region.wanted o (yielded ops a.tmps) = true) (h : ∀ w, S w -> (execOp a.eval o).run P w = .ok (.value v) w) : qaf P ops S o v a :=
 .inl ⟨hw, fun w hS => .inl ⟨w, h w hS, hS⟩⟩
theorem qaf.call {o : Oper} {v : Value} {a : Act} (f : Nat) (args : Array Value) (hw : Region.wanted o (yielded ops a.tmps) = true) (h : ∀ w, (execOp a.eval o).run P w = .ok (.enter f args) w)
 (hc : ∀ w, S w -> Calls P f args w fun e w' => e = .returned v /\ S w') : qaf P ops S o v a :=
 .inl ⟨hw, fun w hS => .inr ⟨f, args, w, h w, hc w hS⟩⟩
theorem qaf.un {o : Oper} {a : Act} (hw : Region.wanted o (yielded ops a.tmps) = false) : qaf P ops S o undef a := .inr ⟨hw, rfl⟩
theorem qd5 {id : Nat} {a : Act} {w : World} (hm : P.follows .mixedOrders = true)
 (h : ∀ R : Act -> Prop, Hid (∀ a', (∀ w', Below w.heap.size w w' -> Q .normal a' w') -> R a') -> AllS P .any ops (fun w' => Below w.heap.size w w') R ops.size (Array.replicate ops.size false) a) : (Code.region id ops true).wp P Q a w :=
 wp_region_any hm (AllS.sound (R := fun a' => ∀ w', Below w.heap.size w w' -> Q .normal a' w') (fun _ w' hS hR => hR w' hS) _ _ _ _ (h _ (Lib.hid fun _ h => h)) (below_drewN (Below.refl _ _) 1))
theorem qax {id : Nat} {a : Act} {w : World} (hm : P.follows .mixedOrders = true) (S : World -> Prop) (h0 : S w.drew)
 (h : ∀ R : Act -> Prop, Hid (∀ a', (∀ w', S w' -> Q .normal a' w') -> R a') -> AllS P .any ops S R ops.size (Array.replicate ops.size false) a) : (Code.region id ops true).wp P Q a w :=
 wp_region_any hm (AllS.sound (R := fun a' => ∀ w', S w' -> Q .normal a' w') (fun _ w' hS hR => hR w' hS) _ _ _ _ (h _ (Lib.hid fun _ h => h)) h0)
end
end
section
theorem qjh {W : World} {a : Addr} {len cap : Nat} {xs : List Value} (hl : xs.length = len) (hc : ∀ j u, xs[j]? = some u -> W.cell? (a.add j) = some u) : Row (fun b => W.heap.size <= b) W (.slice (some a) len cap) xs := by
 refine .inr ⟨a, cap, by rw [hl], ?_, hc⟩
 cases xs with
 | nil => exact .inl rfl
 | cons x r =>
   have h0 := hc 0 x rfl
   have := World.block_lt_of_cell? _ _ h0
   rw [qac] at this
   exact .inr ⟨this, by omega⟩
section
variable {H : Type} {enc : TypeId × Value -> H} {P : Program} {W : World} {r : Reach} {b0 : Nat} {t e : TypeId} {v : Value} {d : DataW H} {ps : List MemPlace}
end
end
section
open Go.Deep
def qa5 (k : Nat) (S : Nat -> Prop) (w : World) (v : Value) (xs : List (List Value)) : Prop :=
 (v = .slice none 0 0 /\ xs = []) \/ ∃ a cap, v = .slice (some a) xs.length cap /\ (xs = [] \/ (a.block < w.heap.size /\ ¬ S a.block)) /\ ∀ i x, xs[i]? = some x -> ∀ j u, x[j]? = some u -> w.cell? (a.add (i * k + j)) = some u
theorem qa5.form {k : Nat} {S : Nat -> Prop} {w : World} {v : Value} {xs : List (List Value)} (h : qa5 k S w v xs) : ∃ A c, v = .slice A xs.length c := by
 rcases h with ⟨rfl, rfl⟩ | ⟨a, cap, rfl, _⟩
 ·exact ⟨_, _, rfl⟩
 ·exact ⟨_, _, rfl⟩
theorem qa5.keep {k : Nat} {S T : Nat -> Prop} {w w' : World} {v : Value} {xs : List (List Value)} (h : qa5 k S w v xs) (m : Mod T w w') (hT : ∀ b, b < w.heap.size -> T b -> S b) : qa5 k S w' v xs := by
 rcases h with h | ⟨a, cap, rfl, hb, hc⟩
 ·exact .inl h
 ·refine .inr ⟨a, cap, rfl, ?_, fun i x hx j u hu => ?_⟩
  ·rcases hb with hb | ⟨hb, hS⟩
   ·exact .inl hb
   ·exact .inr ⟨Nat.lt_of_lt_of_le hb m.size, hS⟩
  ·rcases hb with rfl | ⟨hb, hS⟩
   ·simp at hx
   ·rw [m.cell (by rw [qac]; exact hb) (by rw [qac]; exact fun ht => hS (hT _ hb ht))]
    exact hc i x hx j u hu
theorem qa5.mono {k : Nat} {S T : Nat -> Prop} {w : World} {v : Value} {xs : List (List Value)} (h : qa5 k S w v xs) (hT : ∀ b, b < w.heap.size -> T b -> S b) : qa5 k T w v xs := by
 rcases h with h | ⟨a, cap, rfl, hb, hc⟩
 ·exact .inl h
 ·refine .inr ⟨a, cap, rfl, ?_, hc⟩
  rcases hb with hb | ⟨hb, hS⟩
  ·exact .inl hb
  ·exact .inr ⟨hb, fun ht => hS (hT _ hb ht)⟩
theorem qa5.below {k : Nat} {S : Nat -> Prop} {w w' : World} {v : Value} {xs : List (List Value)} (h : qa5 k S w v xs) (b : Below w.heap.size w w') : qa5 k S w' v xs := h.keep (T := fun _ => False) (Mod.of_below b) (fun _ _ h => h.elim)
theorem qa5.get {k : Nat} {S : Nat -> Prop} {w wx : World} {v : Value} {xs : List (List Value)} (h : qa5 k S w v xs) (b : Below w.heap.size w wx) {i : Nat} {x : List Value} (hi : xs[i]? = some x) (hx : 0 < x.length) :
 ∃ a cap o, v = .slice (some a) xs.length cap /\ a.block < w.heap.size /\ ¬ S a.block /\ a.add (i * k) = ⟨a.block, o, none⟩ /\ ∀ j u, x[j]? = some u -> wx.cell? ⟨a.block, o + j, none⟩ = some u := by
 rcases h with ⟨_, rfl⟩ | ⟨a, cap, rfl, hb, hc⟩
 ·simp at hi
 ·have hb2 : a.block < w.heap.size /\ ¬ S a.block := by
   rcases hb with rfl | hb
   ·simp at hi
   ·exact hb
  have h0 := hc i x hi 0 _ (List.getElem?_eq_getElem hx)
  rw [Nat.add_zero] at h0
  have hs := World.cell?_spot h0
  have hbk := qac a (i * k)
  obtain ⟨q, hq⟩ : ∃ q, a.add (i * k) = q := ⟨_, rfl⟩
  rw [hq] at hs hbk
  obtain ⟨bl, o, sp⟩ := q
  simp only at hs hbk
  subst hs hbk
  refine ⟨a, cap, o, rfl, hb2.1, hb2.2, hq, fun j u hj => ?_⟩
  have := hc i x hi j u hj
  rw [<- add_add, hq, Addr.add_lit] at this
  rw [b.cell (p := ⟨a.block, o + j, none⟩) hb2.1]
  exact this
theorem qga {α β : Type} (f : β -> α) (p : β -> Prop) : ∀ xs : List α, (∀ x ∈ xs, ∃ y, x = f y /\ p y) -> ∃ ys : List β, xs = ys.map f /\ ∀ y ∈ ys, p y
 | [], _ => ⟨[], rfl, fun _ h => by cases h⟩
 | x :: xs, h => by
   obtain ⟨y, rfl, hy⟩ := h x (List.mem_cons_self ..)
   obtain ⟨ys, rfl, hys⟩ := qga f p xs fun z hz => h z (List.mem_cons_of_mem _ hz)
   exact ⟨y :: ys, rfl, fun z hz => (List.mem_cons.1 hz).elim (fun e => e ▸ hy) (hys z)⟩
section
variable {H : Type} {enc : TypeId × Value -> H} {P : Program} {W : World} {r : Reach} {b0 : Nat} {t e : TypeId} {v : Value} {d : DataW H} {ps : List MemPlace} {fs : Array Field} {y : DataW H × List MemPlace} {fuel : Nat}
def Fields {H : Type} (enc : TypeId × Value -> H) (P : Program) (W : World) (fs : Array Field) (x : List Value) : Prop :=
 x.length = fs.size /\ ∀ (j : Nat) (f : Field), fs[j]? = some f -> ∃ u y n, x[j]? = some u /\ DataW.trod enc P W 0 (fun _ => true) true n f.type [u] = some y
theorem fields_of {cs : List Value} (he : P.underlying e = some (.struct fs)) (hone : oneCellFields P fs = true) (hC : P.cellsOf e = fs.size) (h : DataW.trod enc P W 0 (fun _ => true) true fuel e cs = some y) : Fields enc P W fs cs := by
 obtain ⟨ys, n, _, _, hl, hyl, hf⟩ := DataW.trod_struct he h
 refine ⟨by omega, fun j f hj => ?_⟩
 obtain ⟨ho, hk⟩ := hone_of hone j f hj
 have hjl : j < fs.size := (Array.getElem?_eq_some_iff.1 hj).1
 have h1 := hf j f hj
 rw [ho, hk, List.drop_eq_getElem_cons (by omega)] at h1
 exact ⟨_, ys[j]'(by omega), n, List.getElem?_eq_getElem (by omega), h1.trans (List.getElem?_eq_getElem (by omega))⟩
theorem qq6 (ht : P.underlying t = some (.slice e)) (he : P.underlying e = some (.struct fs)) (hone : oneCellFields P fs = true) (hC : P.cellsOf e = fs.size) (hpos : 0 < fs.size) (h : DataW.trod enc P W 0 (fun _ => true) true fuel t [v] = some y) :
 ∃ xs : List (List Value), qa5 fs.size (fun b => W.heap.size <= b) W v xs /\ (∀ x ∈ xs, Fields enc P W fs x) /\ xs.length <= maxLen := by
 rcases open_slice ht h with ⟨hcs, _⟩ | ⟨a, len, cap, m, n, D, Pl, hcs, _, hl, hm, hmm, _, hi⟩
 ·injection hcs with hcs
  subst hcs
  exact ⟨[], .inl ⟨rfl, rfl⟩, by simp, by simp⟩
 ·injection hcs with hcs
  subst hcs
  simp only [if_true] at hmm
  subst hmm
  have key : ∀ i, i < len -> ∃ x : List Value, Fields enc P W fs x /\ ∀ j u, x[j]? = some u -> W.cell? (a.add (i * fs.size + j)) = some u := by
   intro i hil
   obtain ⟨cs', hc, ht'⟩ := hi i (by omega)
   rw [hC] at hc
   obtain ⟨_, hcl, hat⟩ := World.cells?_some hc
   have hF := fields_of he hone hC ht'
   refine ⟨cs', hF, fun j u hj => ?_⟩
   have hjl : j < cs'.length := (List.getElem?_eq_some_iff.1 hj).1
   rw [<- add_add, hat j (by omega)]
   exact hj
  let X : Nat -> List Value := fun i => if h : i < len then (key i h).choose else []
  have hX : ∀ i, i < len -> Fields enc P W fs (X i) /\ ∀ j u, (X i)[j]? = some u -> W.cell? (a.add (i * fs.size + j)) = some u := by
   intro i hil
   have := (key i hil).choose_spec
   simp only [X, dif_pos hil]
   exact this
  refine ⟨(List.range len).map X, .inr ⟨a, m, by simp, ?_, fun i x hx => ?_⟩, fun x hx => ?_, by simp; omega⟩
  ·rcases Nat.eq_zero_or_pos len with h0 | h0
   ·subst h0; exact .inl rfl
   ·right
    obtain ⟨hF, hc⟩ := hX 0 h0
    have h2 := hc 0 _ (List.getElem?_eq_getElem (by rw [hF.1]; exact hpos))
    have := World.block_lt_of_cell? _ _ h2
    rw [qac] at this
    exact ⟨this, by omega⟩
  ·rw [List.getElem?_map] at hx
   cases hr : (List.range len)[i]? with
   | none => rw [hr] at hx; cases hx
   | some q =>
     obtain ⟨hq, hq2⟩ := List.getElem?_eq_some_iff.1 hr
     simp at hq hq2
     subst hq2
     rw [hr] at hx
     injection hx with hx
     subst hx
     exact (hX _ hq).2
  ·obtain ⟨i, hir, rfl⟩ := List.mem_map.1 hx
   exact (hX i (List.mem_range.1 hir)).1
end
end
section
section
variable {P : Program} {ops : Array Oper} {md : Region.Mode} {S : World -> Prop} {R : Act -> Prop}
def lst (n k : Nat) : Array Bool := (List.replicate k true ++ List.replicate (n - k) false).toArray
theorem qu7 (n : Nat) : lst n 0 = Array.replicate n false := by simp [lst]
theorem qzt {n k : Nat} (h : k < n) : (lst n k).setIfInBounds k true = lst n (k + 1) := by
 unfold lst
 rw [List.setIfInBounds_toArray, List.set_append_right _ _ (by simp), List.length_replicate, Nat.sub_self, show n - k = (n - (k + 1)) + 1 by omega, List.replicate_succ, List.set_cons_zero, List.replicate_succ', List.append_assoc]
 rfl
theorem AllS.start {fuel n : Nat} {a : Act} (h : AllS P md ops S R fuel (lst n 0) a) : AllS P md ops S R fuel (Array.replicate n false) a := by
 rwa [qu7] at h
theorem AllS.tq {n k : Nat} {oi : Oper} {v : Value} {fuel : Nat} {a : Act} (hi : ops[k]? = some oi) (hk : decide (k < n) = true)
 (hs : Region.noSelect ops = true) (hf : Region.free md ops (lst n k) k = true) (hr : (Region.ready md ops (lst n k)).contains k = true)
 (hy : qaf P ops S oi v a) (h : AllS P md ops S R fuel (lst n (k + 1)) (a.put oi.dst v)) : AllS P md ops S R (fuel + 1) (lst n k) a :=
 AllS.take hi hs hf hr hy (by rwa [qzt (of_decide_eq_true hk)])
end
end
section
section
variable {P : Program} {ops : Array Oper} {md : Region.Mode} {S : World -> Prop} {R : Act -> Prop} {n k fuel : Nat} {oi : Oper} {v : Value} {a a' : Act}
theorem AllS.t (h : AllS P md ops S R fuel (lst n (k + 1)) a')
 (hi : ops[k]? = some oi := by rw [List.getElem?_toArray]; rfl)
 (hy : ∀ w, S w -> (execOp a.eval oi).run P w = .ok (.value v) w := by intro W hSw; (try dsimp only at hSw); go_simp; (try with_reducible rfl))
 (ha : a.put oi.dst v = a' := by first | (simp only [Act.put, Nat.reduceAdd, List.setIfInBounds_toArray, List.set_cons_zero, List.set_cons_succ]; rfl) | simp only [Act.put] | rfl)
 (hw : Region.wanted oi (yielded ops a.tmps) = true := by rfl) (hk : decide (k < n) = true := by kernel_rfl) (hs : Region.noSelect ops = true := by kernel_rfl) (hf : Region.free md ops (lst n k) k = true := by kernel_rfl) (hr : (Region.ready md ops (lst n k)).contains k = true := by kernel_rfl) : AllS P md ops S R (fuel + 1) (lst n k) a :=
 AllS.tq hi hk hs hf hr (qaf.read hw hy) (by rw [ha]; exact h)
theorem AllS.f {F : World -> Prop} (K : ∀ w, S w -> F w) (h : AllS P md ops S R fuel (lst n (k + 1)) a')
 (hi : ops[k]? = some oi := by rw [List.getElem?_toArray]; rfl)
 (hy : ∀ w, S w -> F w -> (execOp a.eval oi).run P w = .ok (.value v) w := by intro W hSw hF; (try dsimp only at hSw); go_simp; (try with_reducible rfl))
 (ha : a.put oi.dst v = a' := by first | (simp only [Act.put, Nat.reduceAdd, List.setIfInBounds_toArray, List.set_cons_zero, List.set_cons_succ]; rfl) | simp only [Act.put] | rfl)
 (hw : Region.wanted oi (yielded ops a.tmps) = true := by rfl) (hk : decide (k < n) = true := by kernel_rfl) (hs : Region.noSelect ops = true := by kernel_rfl) (hf : Region.free md ops (lst n k) k = true := by kernel_rfl) (hr : (Region.ready md ops (lst n k)).contains k = true := by kernel_rfl) : AllS P md ops S R (fuel + 1) (lst n k) a :=
 AllS.tq hi hk hs hf hr (qaf.read hw fun w hS => hy w hS (K w hS)) (by rw [ha]; exact h)
theorem AllS.r (v : Value) (hy : ∀ w, S w -> (execOp a.eval oi).run P w = .ok (.value v) w) (h : AllS P md ops S R fuel (lst n (k + 1)) a')
 (hi : ops[k]? = some oi := by rw [List.getElem?_toArray]; rfl)
 (ha : a.put oi.dst v = a' := by first | (simp only [Act.put, Nat.reduceAdd, List.setIfInBounds_toArray, List.set_cons_zero, List.set_cons_succ]; rfl) | simp only [Act.put] | rfl)
 (hw : Region.wanted oi (yielded ops a.tmps) = true := by rfl) (hk : decide (k < n) = true := by kernel_rfl) (hs : Region.noSelect ops = true := by kernel_rfl) (hf : Region.free md ops (lst n k) k = true := by kernel_rfl) (hr : (Region.ready md ops (lst n k)).contains k = true := by kernel_rfl) : AllS P md ops S R (fuel + 1) (lst n k) a :=
 AllS.tq hi hk hs hf hr (qaf.read hw hy) (by rw [ha]; exact h)
theorem AllS.c (v : Value) (f : Nat) (args : Array Value) (hc : ∀ w, S w -> Calls P f args w fun e w' => e = .returned v /\ S w') (h : AllS P md ops S R fuel (lst n (k + 1)) a')
 (hi : ops[k]? = some oi := by rw [List.getElem?_toArray]; rfl)
 (he : ∀ w, (execOp a.eval oi).run P w = .ok (.enter f args) w := by intro W; go_simp)
 (ha : a.put oi.dst v = a' := by first | (simp only [Act.put, Nat.reduceAdd, List.setIfInBounds_toArray, List.set_cons_zero, List.set_cons_succ]; rfl) | simp only [Act.put] | rfl)
 (hw : Region.wanted oi (yielded ops a.tmps) = true := by kernel_rfl) (hk : decide (k < n) = true := by kernel_rfl) (hs : Region.noSelect ops = true := by kernel_rfl) (hf : Region.free md ops (lst n k) k = true := by kernel_rfl) (hr : (Region.ready md ops (lst n k)).contains k = true := by kernel_rfl) : AllS P md ops S R (fuel + 1) (lst n k) a :=
 AllS.tq hi hk hs hf hr (qaf.call f args hw he hc) (by rw [ha]; exact h)
theorem AllS.u (h : AllS P md ops S R fuel (lst n (k + 1)) a')
 (hi : ops[k]? = some oi := by rw [List.getElem?_toArray]; rfl)
 (ha : a.put oi.dst undef = a' := by first | (simp only [Act.put, Nat.reduceAdd, List.setIfInBounds_toArray, List.set_cons_zero, List.set_cons_succ]; rfl) | simp only [Act.put] | rfl)
 (hw : Region.wanted oi (yielded ops a.tmps) = false := by kernel_rfl) (hk : decide (k < n) = true := by kernel_rfl) (hs : Region.noSelect ops = true := by kernel_rfl) (hf : Region.free md ops (lst n k) k = true := by kernel_rfl) (hr : (Region.ready md ops (lst n k)).contains k = true := by kernel_rfl) : AllS P md ops S R (fuel + 1) (lst n k) a :=
 AllS.tq hi hk hs hf hr (qaf.un hw) (by rw [ha]; exact h)
theorem AllS.t_ {i : Nat} {listed : Array Bool} (h : AllS P md ops S R fuel (listed.setIfInBounds i true) a')
 (hi : ops[i]? = some oi := by rw [List.getElem?_toArray]; rfl)
 (hy : ∀ w, S w -> (execOp a.eval oi).run P w = .ok (.value v) w := by intro W hSw; (try dsimp only at hSw); go_simp; (try with_reducible rfl))
 (ha : a.put oi.dst v = a' := by first | (simp only [Act.put, Nat.reduceAdd, List.setIfInBounds_toArray, List.set_cons_zero, List.set_cons_succ]; rfl) | simp only [Act.put] | rfl)
 (hw : Region.wanted oi (yielded ops a.tmps) = true := by rfl) (hs : Region.noSelect ops = true := by kernel_rfl) (hf : Region.free md ops listed i = true := by kernel_rfl) (hr : (Region.ready md ops listed).contains i = true := by kernel_rfl) : AllS P md ops S R (fuel + 1) listed a :=
 AllS.take hi hs hf hr (qaf.read hw hy) (by rw [ha]; exact h)
theorem AllS.f_ {i : Nat} {listed : Array Bool} {F : World -> Prop} (K : ∀ w, S w -> F w) (h : AllS P md ops S R fuel (listed.setIfInBounds i true) a')
 (hi : ops[i]? = some oi := by rw [List.getElem?_toArray]; rfl)
 (hy : ∀ w, S w -> F w -> (execOp a.eval oi).run P w = .ok (.value v) w := by intro W hSw hF; (try dsimp only at hSw); go_simp; (try with_reducible rfl))
 (ha : a.put oi.dst v = a' := by first | (simp only [Act.put, Nat.reduceAdd, List.setIfInBounds_toArray, List.set_cons_zero, List.set_cons_succ]; rfl) | simp only [Act.put] | rfl)
 (hw : Region.wanted oi (yielded ops a.tmps) = true := by rfl) (hs : Region.noSelect ops = true := by kernel_rfl) (hf : Region.free md ops listed i = true := by kernel_rfl) (hr : (Region.ready md ops listed).contains i = true := by kernel_rfl) : AllS P md ops S R (fuel + 1) listed a :=
 AllS.take hi hs hf hr (qaf.read hw fun w hS => hy w hS (K w hS)) (by rw [ha]; exact h)
theorem AllS.r_ {i : Nat} {listed : Array Bool} (v : Value) (hy : ∀ w, S w -> (execOp a.eval oi).run P w = .ok (.value v) w) (h : AllS P md ops S R fuel (listed.setIfInBounds i true) a')
 (hi : ops[i]? = some oi := by rw [List.getElem?_toArray]; rfl)
 (ha : a.put oi.dst v = a' := by first | (simp only [Act.put, Nat.reduceAdd, List.setIfInBounds_toArray, List.set_cons_zero, List.set_cons_succ]; rfl) | simp only [Act.put] | rfl)
 (hw : Region.wanted oi (yielded ops a.tmps) = true := by rfl) (hs : Region.noSelect ops = true := by kernel_rfl) (hf : Region.free md ops listed i = true := by kernel_rfl) (hr : (Region.ready md ops listed).contains i = true := by kernel_rfl) : AllS P md ops S R (fuel + 1) listed a :=
 AllS.take hi hs hf hr (qaf.read hw hy) (by rw [ha]; exact h)
theorem AllS.c_ {i : Nat} {listed : Array Bool} (v : Value) (f : Nat) (args : Array Value) (hc : ∀ w, S w -> Calls P f args w fun e w' => e = .returned v /\ S w') (h : AllS P md ops S R fuel (listed.setIfInBounds i true) a')
 (hi : ops[i]? = some oi := by rw [List.getElem?_toArray]; rfl)
 (he : ∀ w, (execOp a.eval oi).run P w = .ok (.enter f args) w := by intro W; go_simp)
 (ha : a.put oi.dst v = a' := by first | (simp only [Act.put, Nat.reduceAdd, List.setIfInBounds_toArray, List.set_cons_zero, List.set_cons_succ]; rfl) | simp only [Act.put] | rfl)
 (hw : Region.wanted oi (yielded ops a.tmps) = true := by kernel_rfl) (hs : Region.noSelect ops = true := by kernel_rfl) (hf : Region.free md ops listed i = true := by kernel_rfl) (hr : (Region.ready md ops listed).contains i = true := by kernel_rfl) : AllS P md ops S R (fuel + 1) listed a :=
 AllS.take hi hs hf hr (qaf.call f args hw he hc) (by rw [ha]; exact h)
theorem AllS.u_ {i : Nat} {listed : Array Bool} (h : AllS P md ops S R fuel (listed.setIfInBounds i true) a')
 (hi : ops[i]? = some oi := by rw [List.getElem?_toArray]; rfl)
 (ha : a.put oi.dst undef = a' := by first | (simp only [Act.put, Nat.reduceAdd, List.setIfInBounds_toArray, List.set_cons_zero, List.set_cons_succ]; rfl) | simp only [Act.put] | rfl)
 (hw : Region.wanted oi (yielded ops a.tmps) = false := by kernel_rfl) (hs : Region.noSelect ops = true := by kernel_rfl) (hf : Region.free md ops listed i = true := by kernel_rfl) (hr : (Region.ready md ops listed).contains i = true := by kernel_rfl) : AllS P md ops S R (fuel + 1) listed a :=
 AllS.take hi hs hf hr (qaf.un hw) (by rw [ha]; exact h)
end
end
section
structure Mk (P : Prop) : Prop where
 out : P
def qa0 (n : Nat) (f : Nat -> Value) : Array Value := ((List.range n).map f).toArray
def qyi (f : Nat -> Value) (i : Nat) (v : Value) : Nat -> Value := fun j => if j = i then v else f j
theorem qa1 (n : Nat) (f : Nat -> Value) : (qa0 n f).size = n := by simp [qa0]
theorem qaw {n : Nat} {f : Nat -> Value} {i : Nat} (h : i < n) : (qa0 n f)[i]? = some (f i) := by
 simp [qa0, h]
theorem qdb (n : Nat) (f : Nat -> Value) (i : Nat) (v : Value) : (qa0 n f).setIfInBounds i v = qa0 n (qyi f i v) := by
 apply Array.ext_getElem?
 intro j
 rw [Array.getElem?_setIfInBounds]
 by_cases hj : j < n
 ·rw [qaw hj, qa1, qaw hj]
  unfold qyi
  by_cases e : i = j
  ·subst e
   rw [if_pos rfl, if_pos hj, if_pos rfl]
  ·rw [if_neg e, if_neg (fun h => e h.symm)]
 ·have e1 : (qa0 n f)[j]? = none := by rw [Array.getElem?_eq_none_iff, qa1]; omega
  have e2 : (qa0 n (qyi f i v))[j]? = none := by rw [Array.getElem?_eq_none_iff, qa1]; omega
  rw [e1, e2, qa1]
  split
  ·rw [if_neg (by omega)]
  ·rfl
theorem qqg {z : Value} (hz : z.cells = #[z]) (n : Nat) : madeCells z.cells n = qa0 n (fun _ => z) := by
 apply Array.ext_getElem?
 intro j
 by_cases hj : j < n
 ·rw [qaw hj, hz]
  simp [madeCells, hj, Nat.mod_one]
 ·rw [Array.getElem?_eq_none_iff.2 (by rw [size_madeCells]; omega), Array.getElem?_eq_none_iff.2 (by rw [qa1]; omega)]
theorem qdh {P : Program} (t e : TypeId) (z : Value) (b : Nat) (ht : P.underlying t = some (.slice e)) (hi : (P.info? e).map (fun i => (i.zero, i.size, i.bytes)) = some (some z, 1, b)) (hb : b <= 1000) (hz : z.cells = #[z]) (n : Nat) (hn : n <= 1048576) (W : World) :
 (Instr.makeSlice t (.int .i64 (n : Int)) (.int .i64 (n : Int))).run P W = .ok (.slice (some ⟨W.heap.size, 0, none⟩) n n) (W.alloc (.cells (qa0 n (fun _ => z)) e)) := by
 cases hq : P.info? e with
 | none => rw [hq] at hi; cases hi
 | some i =>
   rw [hq] at hi
   injection hi with hi
   injection hi with h1 h2
   injection h2 with h2 h3
   have hbn : i.bytes * n <= 1000 * 1048576 := Nat.mul_le_mul (by omega) hn
   have h := run_make (P := P) W t e i z ht hq h1 .i64 .i64 (n : Int) (n : Int) (by omega) (by omega) (by omega) (by omega)
   rw [h2] at h
   simp only [Nat.mul_one, Int.toNat_natCast, qqg hz] at h
   exact h
end
section
open Go.ChangeShapes Go.WideShapes Go.ChangeAt Go.RowKit
theorem xaa {p : Prop} (h : p) : Hid p := Lib.hid h
theorem xab {α : Type _} {xs : List α} {i : Nat} : xs.toArray[i]? = xs[i]? := List.getElem?_toArray
theorem xac {α : Type _} {l : List α} {i : Nat} (h : i < l.length) : l[i]? = some l[i] := List.getElem?_eq_getElem h
theorem xad {α : Type _} {a : α} {l : List α} : (a :: l)[0]? = some a := rfl
theorem xae {α : Type _} {a : α} {i : Nat} {l : List α} : (a :: l)[i + 1]? = l[i]? := rfl
theorem xaf {α : Type _} (l : List α) (i : Nat) (a : α) : l.toArray.setIfInBounds i a = (l.set i a).toArray := List.setIfInBounds_toArray l i a
theorem xag {α : Type _} {i : Nat} {b : α} {xs : Array α} (h : xs[i]? = some b) : ∃ h : i < xs.size, xs[i] = b := Array.getElem?_eq_some_iff.1 h
theorem xah {α : Type _} {i : Nat} {b : α} {xs : List α} (h : xs[i]? = some b) : ∃ h : i < xs.length, xs[i] = b := List.getElem?_eq_some_iff.1 h
theorem xai {α : Type _} (a b : α) : (some a = some b) = (a = b) := Option.some.injEq a b
theorem xaj {α : Type _} {x : α} {xs : List α} {a : α} : (x :: xs).set 0 a = a :: xs := rfl
theorem xak {α : Type _} {x : α} {xs : List α} {i : Nat} {a : α} : (x :: xs).set (i + 1) a = x :: xs.set i a := rfl
theorem xal {α : Type _} {l : List α} {i : Nat} {a : α} : l.getD i a = l[i]?.getD a := List.getD_eq_getElem?_getD
theorem xam {α : Type _} {p : α → Bool} {l : List α} (h : l.all p = true) : ∀ x, x ∈ l → p x = true := List.all_eq_true.1 h
theorem xan {α : Type _} {β : Type _} {f : α → β} {l : List α} {i : Nat} : (l.map f)[i]? = l[i]?.map f := List.getElem?_map
theorem xao {α : Type _} {β : Type _} {l : List α} (f : α → β) : (l.map f).length = l.length := List.length_map f
theorem xap {S : Nat → Prop} {w w' : World} (h : Below w.heap.size w w') : Mod S w w' := Mod.of_below h
theorem xaq {a b c : World} (h : Below a.heap.size a b) (k : Below b.heap.size b c) : Below a.heap.size a c := below_seq h k
theorem xar (w : World) (o : Obj) : Below w.heap.size w (w.alloc o) := below_alloc w o
theorem xas {B : Nat} {w : World} : Below B w w := Below.refl _ _
theorem xat {n : Nat} : n ≤ n := Nat.le_refl n
theorem xau {n m k : Nat} (h : n ≤ m) (h2 : m ≤ k) : n ≤ k := Nat.le_trans h h2
theorem xav {α : Type _} {l : List α} {i : Nat} {a : α} (h : l[i]? = some a) : a ∈ l := List.mem_of_getElem? h
theorem xaw {α : Type _} {a b : α} (h : some a = some b) : a = b := Option.some.inj h
theorem xax (n : Nat) : ((n : Int)).toNat = n := Int.toNat_natCast n
theorem Blk.kb {w w' : World} {g : Nat} {t : TypeId} {cs : Array Value} (h : Blk w g t cs) (b : Below w.heap.size w w') : Blk w' g t cs := h.keep (S := fun _ => False) (Mod.of_below b) id
end
end Go.Proofs.YtmceblkjbpbcoaaGreatDoor
