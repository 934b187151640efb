/- A round of a range over a function that appends to a row of the call's own, which a variable in memory holds; other variables that are captured stay as they are. For any layer, any kind of element. No walk. -/
import Derived.Test.YtddihpiheopleaaRangeFin
import Derived.Test.YtddihpiheopleaaApH
namespace Go.Proofs.Ytddihpiheopleaa
open Go.ChangeShapes Go.WideShapes Go.ChangeAt Go.RowKit

section
variable {E T : TypeId} {size : Nat}
theorem ownE_not_blk {W : World} {b B n : Nat} {t : TypeId} {cs : Array Value} {v : Value} {xs : List Value} (hb : Blk W B t cs) (h : W.ownsRow b E size v n xs) (ht : t ≠ E) : some B ≠ v.ownBlock := by
  intro e
  rcases h.2 with ⟨rfl, _⟩ | ⟨g, cap, cur, rfl, _, hg, _⟩
  · simp [Value.ownBlock] at e
  · obtain rfl : B = g := by simpa [Value.ownBlock] using e
    rw [show W.heap[B]? = _ from hb] at hg
    injection hg with hg
    injection hg with _ hg _
    exact ht hg
theorem ownE_not_obj {W : World} {b L n : Nat} {o : Obj} {v : Value} {xs : List Value} (hL : W.heap[L]? = some o) (ho : o.isCells = false) (h : W.ownsRow b E size v n xs) : some L ≠ v.ownBlock := by
  intro e
  rcases h.2 with ⟨rfl, _⟩ | ⟨g, cap, cur, rfl, _, hg, _⟩
  · simp [Value.ownBlock] at e
  · obtain rfl : L = g := by simpa [Value.ownBlock] using e
    rw [hL] at hg
    cases hg
    cases ho
theorem ownE_from {W : World} {b n : Nat} {v : Value} {xs : List Value} {k : Nat} (h : W.ownsRow b E size v n xs) (hk : v.ownBlock = some k) : b ≤ k ∧ k < W.heap.size := by
  rcases h.2 with ⟨rfl, _⟩ | ⟨g, cap, cur, rfl, hb, hg, _⟩
  · simp [Value.ownBlock] at hk
  · obtain rfl : g = k := by simpa [Value.ownBlock] using hk
    exact ⟨hb, (Array.getElem?_eq_some_iff.1 hg).1⟩
theorem ownE_below {w w' : World} {b n : Nat} {v : Value} {xs : List Value} (h : w.ownsRow b E size v n xs) (k : Below w.heap.size w w') : w'.ownsRow b E size v n xs := own_keep h (S := fun _ => False) (Mod.of_below k) (fun _ _ => id)

/-- blocks that a round leaves alone: none is the row's variable or the loop's own -/
def Others (nb B L : Nat) (E : TypeId) (KL : List (Nat × TypeId × Array Value)) : Prop := ∀ x ∈ KL, x.1 ≠ B ∧ x.1 < L - 1 ∧ (x.2.1 ≠ E ∨ x.1 < nb)
/-- between the rounds: the row as far as it goes -/
structure Prow (w0 : World) (nb B L : Nat) (T E : TypeId) (size : Nat) (KL : List (Nat × TypeId × Array Value)) (rdy : Obj) (n : Nat) (xs : List Value) (X : World) : Prop where
  box : ∃ v, Boxed X B T v ∧ X.ownsRow nb E size v n xs
  loop : X.heap[L]? = some rdy
  defd : X.heap[L - 1]? = some (.deferred (some []))
  kn : Kn X KL
  below : Below w0.heap.size w0 X
  size : L < X.heap.size
theorem Prow.later {w0 : World} {nb B L : Nat} {KL : List (Nat × TypeId × Array Value)} {rdy : Obj} {n : Nat} {xs : List Value} {X Y : World} (h : Prow w0 nb B L T E size KL rdy n xs X) (b : Below X.heap.size X Y) : Prow w0 nb B L T E size KL rdy n xs Y := by
  obtain ⟨v, hv, ho⟩ := h.box
  have := h.size
  exact ⟨⟨v, (b.block _ hv.lt).trans hv, ownE_below ho b⟩, (b.block _ h.size).trans h.loop, (b.block _ (by omega)).trans h.defd, h.kn.below b, h.below.trans (b.mono h.below.size), Nat.lt_of_lt_of_le h.size b.size⟩
theorem Prow.round {w0 W w5 W6 w7 : World} {nb B L : Nat} {KL : List (Nat × TypeId × Array Value)} {rdy bsy : Obj} {n : Nat} {xs cs : List Value} {v v' : Value} (hTE : T ≠ E) (hnb : w0.heap.size ≤ nb) (hB0 : w0.heap.size ≤ B) (hBL : B < L - 1) (hK : Others nb B L E KL) (hr : rdy.isCells = false) (hbs : bsy.isCells = false)
    (hP : Prow w0 nb B L T E size KL rdy n xs W) (hv : Boxed W B T v) (hown : W.ownsRow nb E size v n xs) (b5 : Below W.heap.size W w5) (b6 : Below (w5.putObj L bsy).heap.size (w5.putObj L bsy) W6)
    (own7 : w7.ownsRow nb E size v' (n + 1) (xs ++ cs)) (grow : W6.grownBy w7 v.ownBlock) :
    Boxed w7 B T v ∧ ((w7.setCell ⟨B, 0, none⟩ v').heap[L]? = some bsy ∧ Prow w0 nb B L T E size KL rdy (n + 1) (xs ++ cs) ((w7.setCell ⟨B, 0, none⟩ v').putObj L rdy)) := by
  have hLs := hP.size
  have s5 := b5.size
  have g6 := grownBy_putObj' w5 L bsy
  have hL5 : w5.heap[L]? = some rdy := (b5.block L hLs).trans hP.loop
  have hL6 : (w5.putObj L bsy).heap[L]? = some bsy := World.putObj_heap_same (by omega)
  have hs6 : (w5.putObj L bsy).heap.size = w5.heap.size := by simp [World.putObj]
  have s6 := b6.size
  have o6 : ∀ k, k < w5.heap.size → k ≠ L → W6.heap[k]? = w5.heap[k]? := fun k hk hne => (b6.block k (by omega)).trans (World.putObj_heap_other hne)
  have hv6 : Boxed W6 B T v := (o6 B (by omega) (by omega)).trans ((b5.block B hv.lt).trans hv)
  have nB : some B ≠ v.ownBlock := ownE_not_blk hv hown hTE
  have nL : some L ≠ v.ownBlock := ownE_not_obj hP.loop hr hown
  have nD : some (L - 1) ≠ v.ownBlock := ownE_not_obj hP.defd rfl hown
  have hv7 : Boxed w7 B T v := hv6.kept grow nB
  have hs7 : w5.heap.size ≤ w7.heap.size := by have := grow.size; omega
  have o7 : ∀ k, k < w5.heap.size → k ≠ L → some k ≠ v.ownBlock → w7.heap[k]? = w5.heap[k]? := fun k hk h1 h2 => (grow.block k (by omega) h2).trans (o6 k hk h1)
  have hL7 : w7.heap[L]? = some bsy := (grow.block L (by omega) nL).trans ((b6.block L (by omega)).trans hL6)
  have g8 := grownBy_setCell' w7 B v'
  have n7 : some B ≠ v'.ownBlock := ownE_not_blk hv7 own7 hTE
  have nL7 : some L ≠ v'.ownBlock := ownE_not_obj hL7 hbs own7
  have hv8 := hv7.set v'
  have hs8 : (w7.setCell ⟨B, 0, none⟩ v').heap.size = w7.heap.size := by simp [World.setCell]
  have o8 : ∀ k, k < w7.heap.size → k ≠ B → (w7.setCell ⟨B, 0, none⟩ v').heap[k]? = w7.heap[k]? := fun k hk h => g8.block k hk (fun e => h (by injection e))
  have own8 := own7.kept g8 (.inr (Ne.symm n7))
  have hL8 : (w7.setCell ⟨B, 0, none⟩ v').heap[L]? = some bsy := (o8 L (by omega) (by omega)).trans hL7
  have g9 := grownBy_putObj' (w7.setCell ⟨B, 0, none⟩ v') L rdy
  have hs9 : ((w7.setCell ⟨B, 0, none⟩ v').putObj L rdy).heap.size = w7.heap.size := by simp [World.putObj, World.setCell]
  have o9 : ∀ k, k < w7.heap.size → k ≠ L → ((w7.setCell ⟨B, 0, none⟩ v').putObj L rdy).heap[k]? = (w7.setCell ⟨B, 0, none⟩ v').heap[k]? := fun k hk h => World.putObj_heap_other h
  have hv9 : Boxed ((w7.setCell ⟨B, 0, none⟩ v').putObj L rdy) B T v' := hv8.kept g9 (fun e => by injection e with e; omega)
  have own9 := own8.kept g9 (.inr (Ne.symm nL7))
  have all : ∀ k, k < W.heap.size → k ≠ B → k ≠ L → some k ≠ v.ownBlock → ((w7.setCell ⟨B, 0, none⟩ v').putObj L rdy).heap[k]? = W.heap[k]? := fun k hk h1 h2 h3 =>
    (o9 k (by omega) h2).trans ((o8 k (by omega) h1).trans ((o7 k (by omega) h2 h3).trans (b5.block k hk)))
  have eos : ((w7.setCell ⟨B, 0, none⟩ v').putObj L rdy).os = W.os := g9.os.trans (g8.os.trans (grow.os.trans (b6.os.trans (g6.os.trans b5.os))))
  have etp : ((w7.setCell ⟨B, 0, none⟩ v').putObj L rdy).tape = W.tape := g9.tape.trans (g8.tape.trans (grow.tape.trans (b6.tape.trans (g6.tape.trans b5.tape))))
  have eou : ((w7.setCell ⟨B, 0, none⟩ v').putObj L rdy).output = W.output := g9.output.trans (g8.output.trans (grow.output.trans (b6.output.trans (g6.output.trans b5.output))))
  refine ⟨hv7, hL8, ⟨⟨v', hv9, own9⟩, World.putObj_heap_same (by omega), (all (L - 1) (by omega) (by omega) (by omega) nD).trans hP.defd, fun x hx => ?_, hP.below.trans ⟨eos, etp, eou, by omega, fun k hk => all k (by have := hP.below.size; omega) (by omega) (by omega) (fun e => by have := (ownE_from hown e.symm).1; omega)⟩, by omega⟩⟩
  have hb := hP.kn x hx
  obtain ⟨h1, h2, h3⟩ := hK x hx
  refine (all x.1 hb.lt h1 (by omega) ?_).trans hb
  rcases h3 with h3 | h3
  · exact ownE_not_blk hb hown h3
  · intro e
    have := (ownE_from hown e.symm).1
    omega
/-- a store to what is known, ahead of the row -/
theorem Prow.mod {S : Nat → Prop} {w0 : World} {nb B L : Nat} {KL KL' : List (Nat × TypeId × Array Value)} {rdy : Obj} {n : Nat} {xs : List Value} {X Y : World} (h : Prow w0 nb B L T E size KL rdy n xs X) (m : Mod S X Y) (h1 : ¬ S B) (h2 : ¬ S L) (h3 : ¬ S (L - 1)) (h4 : ∀ k, S k → w0.heap.size ≤ k ∧ k < nb) (hk : Kn Y KL') : Prow w0 nb B L T E size KL' rdy n xs Y := by
  obtain ⟨v, hv, ho⟩ := h.box
  have := h.size
  exact ⟨⟨v, (m.block _ hv.lt h1).trans hv, own_keep ho m fun k hk hS => (by have := (ownE_from ho hk).1; have := (h4 k hS).2; omega)⟩, (m.block _ h.size h2).trans h.loop, (m.block _ (by omega) h3).trans h.defd, hk, h.below.trans (m.below h.below.size fun k hk => (h4 k hk).1), Nat.lt_of_lt_of_le h.size m.size⟩
/-- behind the last round -/
theorem Prow.done {w0 X : World} {nb B L : Nat} {KL : List (Nat × TypeId × Array Value)} {rdy exh : Obj} {n : Nat} {xs : List Value} (hB0 : B < L - 1) (hw : w0.heap.size ≤ L - 1) (hK : Others nb B L E KL) (hr : rdy.isCells = false) (hP : Prow w0 nb B L T E size KL rdy n xs X) :
    (∃ v, Boxed (X.putObj L exh) B T v ∧ (X.putObj L exh).ownsRow nb E size v n xs) ∧ (X.putObj L exh).heap[L - 1]? = some (.deferred (some [])) ∧ Kn (X.putObj L exh) KL ∧ Below w0.heap.size w0 (X.putObj L exh) := by
  obtain ⟨v, hv, hown⟩ := hP.box
  have hLX := hP.size
  have g9 := grownBy_putObj' X L exh
  refine ⟨⟨v, hv.kept g9 (fun e => by injection e with e; omega), hown.kept g9 (.inr (Ne.symm (ownE_not_obj hP.loop hr hown)))⟩, (World.putObj_heap_other (by omega)).trans hP.defd, fun x hx => ?_, hP.below.grown g9 hP.below.size (fun k e => by injection e with e; omega)⟩
  have := hK x hx
  exact (World.putObj_heap_other (by omega)).trans (hP.kn x hx)
end

/-! ### rounds that only store to variables that are known -/
structure Pk (w0 : World) (L : Nat) (KL : List (Nat × TypeId × Array Value)) (rdy : Obj) (X : World) : Prop where
  loop : X.heap[L]? = some rdy
  defd : X.heap[L - 1]? = some (.deferred (some []))
  kn : Kn X KL
  below : Below w0.heap.size w0 X
  size : L < X.heap.size
section
variable {w0 X Y : World} {L : Nat} {KL KL' : List (Nat × TypeId × Array Value)} {rdy bsy : Obj} {S : Nat → Prop}
theorem Pk.later (h : Pk w0 L KL rdy X) (b : Below X.heap.size X Y) : Pk w0 L KL rdy Y := by
  have := h.size
  exact ⟨(b.block _ h.size).trans h.loop, (b.block _ (by omega)).trans h.defd, h.kn.below b, h.below.trans (b.mono h.below.size), Nat.lt_of_lt_of_le h.size b.size⟩
theorem Pk.mod (h : Pk w0 L KL rdy X) (m : Mod S X Y) (hS : ∀ k, S k → w0.heap.size ≤ k ∧ k ≠ L ∧ k ≠ L - 1) (hk : Kn Y KL') : Pk w0 L KL' rdy Y := by
  have := h.size
  exact ⟨(m.block _ h.size fun e => (hS _ e).2.1 rfl).trans h.loop, (m.block _ (by omega) fun e => (hS _ e).2.2 rfl).trans h.defd, hk, h.below.trans (m.below h.below.size fun k hk => (hS k hk).1), Nat.lt_of_lt_of_le h.size m.size⟩
theorem Pk.put (o : Obj) (h : Pk w0 L KL rdy X) (h1 : w0.heap.size ≤ L) (h2 : 0 < L) (hK : ∀ x ∈ KL, x.1 ≠ L) : Pk w0 L KL o (X.putObj L o) := by
  have g := grownBy_putObj' X L o
  exact ⟨World.putObj_heap_same h.size, (World.putObj_heap_other (by omega)).trans h.defd, fun x hx => (World.putObj_heap_other (hK x hx)).trans (h.kn x hx), h.below.grown g h.below.size (fun k e => by injection e with e; omega), by have := h.size; simp [World.putObj]; omega⟩
/-- behind the last round: what was put off is taken -/
theorem Pk.taken (h : Pk w0 L KL rdy X) (hL : w0.heap.size ≤ L - 1) (hK : ∀ x ∈ KL, x.1 ≠ L - 1) : Kn (X.putObj (L - 1) (.deferred none)) KL ∧ Below w0.heap.size w0 (X.putObj (L - 1) (.deferred none)) := by
  have g := grownBy_putObj' X (L - 1) (.deferred none)
  exact ⟨fun x hx => (World.putObj_heap_other (hK x hx)).trans (h.kn x hx), h.below.grown g h.below.size (fun k e => by injection e with e; omega)⟩
end
end Go.Proofs.Ytddihpiheopleaa
