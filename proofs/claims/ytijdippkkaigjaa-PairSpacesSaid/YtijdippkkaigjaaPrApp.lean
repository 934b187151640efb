/- Rows of numbers appended to rows of the call's own; parts of a slice of numbers; what the operations of such a region hand back. No walk. -/
import Derived.Test.YtijdippkkaigjaaPr14
import Derived.Laws.OwnMore
import Derived.DataElems
namespace Go.Proofs.Ytijdippkkaigjaa
open Go.ChangeShapes Go.WideShapes Go.ChangeAt Go.RowKit Go.Shelf

def own8 (base : Nat) (W : World) (u : Value) (l : List Int) : Prop := W.ownsRow base 5 1 u l.length (r8 l)
theorem own8.below {base : Nat} {W W' : World} {u : Value} {l : List Int} (h : own8 base W u l) (b : Below W.heap.size W W') : own8 base W' u l := own_below h b
theorem own8.row {base : Nat} {W : World} {u : Value} {l : List Int} (h : own8 base W u l) : R8 W u l := (Row.of_own h).mono (fun _ _ (h : False) => h.elim)
theorem own8.cap {base : Nat} {W : World} {u : Value} {l : List Int} (h : own8 base W u l) : Cap u := by
  rcases h.2 with ⟨rfl, _⟩ | ⟨g, cap, cur, rfl, _, _, hc, _⟩
  · exact Cap.is (Nat.le_refl _)
  · exact Cap.is hc
theorem one8 {l : List Int} : ∀ u ∈ r8 l, u.oneCell' = true := fun u hu => by
  obtain ⟨x, _, rfl⟩ := List.mem_map.1 hu
  rfl

section
variable {ops : Array Oper} {a : Act} {w : World} {o : Oper}
/-- append to an empty literal -/
theorem app8_0 {base : Nat} {v v2 : Value} {m : List Int} (hv : ∃ g, v = .slice (some ⟨g, 0, none⟩) 0 0) (hO : own8 base w v []) (hR : R8 w v2 m) (hb : base ≤ w.heap.size) (hlen : m.length ≤ 4194304) (ty : TypeId) :
    ∃ v' w', (Builtin.append_ #[22, 22] ty #[v, v2]).run Try.prog w = .ok v' w' ∧ own8 base w' v' m ∧ Below w.heap.size w w' := by
  obtain ⟨z, hi0, hzc⟩ := elh8.info
  obtain ⟨i0, hi, hz0, hz1, hz2⟩ := info_of hi0
  obtain ⟨g, rfl⟩ := hv
  rcases hR with ⟨rfl, hm⟩ | ⟨ad, cap, rfl, hab, hc⟩
  · obtain rfl : m = [] := by simpa [r8] using hm
    exact ⟨_, w, run_append_owned_none w base 22 ty 5 i0 1 Try.underlying22 hi _ 0 [] hO, hO, Below.refl _ _⟩
  · rw [r8_len]
    by_cases h0 : m.length = 0
    · obtain rfl := List.eq_nil_of_length_eq_zero h0
      refine ⟨.slice (some ⟨g, 0, none⟩) 0 0, w, ?_, hO, Below.refl _ _⟩
      simp [Builtin.append_, run_underlying Try.underlying22, sizeOf, typeInfo, hi, Builtin.lenOf, Builtin.firstCells, storeCells, loadCells, loadCellsFrom]
    · have hcap : Builtin.nextslicecap (0 + m.length) 0 = m.length := by rw [Nat.zero_add]; exact nextslicecap_zero (by omega)
      have hr := run_append_grow (P := Try.prog) w 22 ty 5 i0 z Try.underlying22 hi hz0 ⟨g, 0, none⟩ 0 0 [] (by simp) (fun j v hv => by simp at hv) ad m.length cap (r8 m) (by rw [hz1, r8_len, Nat.mul_one]) hc (by omega) (by omega) (by rw [hcap, hz2]; omega)
      rw [Nat.zero_add] at hr
      have BA : ∀ x, Below w.heap.size w.drew (w.drew.alloc x) := fun x => below_alloc w.drew x
      obtain ⟨cur, hcur⟩ : ∃ cur, ([] : List Value).toArray ++ (r8 m).toArray ++ Builtin.zeroCells z.cells (grownCap w m.length 0 5 - m.length) = cur := ⟨_, rfl⟩
      rw [hcur] at hr
      refine ⟨_, _, hr, ?_, (below_drewN (Below.refl _ _) 1).trans (BA _)⟩
      have hge := grownCap_ge w m.length 0 5
      have hmx := grownCap_le_maxLen w m.length 0 5 (by unfold maxLen; omega)
      refine ⟨by rw [r8_len, Nat.mul_one], .inr ⟨w.heap.size, grownCap w m.length 0 5, cur, rfl, hb, ?_, hge, hmx, ?_, ?_⟩⟩
      · exact heap_alloc_new w.drew _
      · rw [← hcur]
        simp only [Array.size_append, List.size_toArray, r8_len, size_zeroCells, hzc]
        rw [show ([] : List Value).length = 0 from rfl, Nat.zero_add, Nat.mul_one, Nat.mul_one]
        omega
      · rw [← hcur]
        simp [r8_len]
/-- append to a row of the call's own -/
theorem app8 {base : Nat} {v v2 : Value} {l m : List Int} (hO : own8 base w v l) (hR : R8 w v2 m) (hb : base ≤ w.heap.size) (hlen : l.length + m.length ≤ 4194304) (ty : TypeId) :
    ∃ v' w', (Builtin.append_ #[22, 22] ty #[v, v2]).run Try.prog w = .ok v' w' ∧ own8 base w' v' (l ++ m) ∧ Below base w w' := by
  obtain ⟨z, hi0, hzc⟩ := elh8.info
  obtain ⟨i0, hi, hz0, hz1, hz2⟩ := info_of hi0
  rcases hR with ⟨rfl, hm⟩ | ⟨ad, cap, rfl, hab, hc⟩
  · obtain rfl : m = [] := by simpa [r8] using hm
    rw [List.append_nil]
    exact ⟨_, w, run_append_owned_none w base 22 ty 5 i0 1 Try.underlying22 hi _ _ _ hO, hO, Below.refl _ _⟩
  · rw [r8_len]
    obtain ⟨v', w', hr, h2, h3, _, _⟩ := run_append_own_at (P := Try.prog) w base 22 ty 5 i0 z 1 1 Try.underlying22 hi hz0 hz1 hz2 hzc (by decide) v l.length (r8 l) hO ad m.length cap (r8 m) (by rw [r8_len, Nat.mul_one]) hc one8 (by unfold maxLen; omega) (by omega) hb
    refine ⟨v', w', hr, ?_, below_grew h3 hb fun g hg => ?_⟩
    · unfold own8
      rw [List.length_append, show r8 (l ++ m) = r8 l ++ r8 m by simp [r8]]
      exact h2
    · rcases hO.2 with ⟨rfl, _⟩ | ⟨g', cap', cur, rfl, hb', _⟩
      · simp [Value.ownBlock] at hg
      · have e : g' = g := by simpa [Value.ownBlock] using hg
        omega
theorem run_op_of8 {v v2 v' : Value} {w' : World} (s x : Operand) (ho : o.op = .call { callee := .builtin .append, args := #[s, x], argTypes := #[22, 22] }) (hs : a.eval s = v) (hx : a.eval x = v2) (h1 : (Builtin.append_ #[22, 22] o.type #[v, v2]).run Try.prog w = .ok v' w') :
    (execOp a.eval o).run Try.prog w = .ok (.value v') w' := by
  unfold execOp
  simp only [ho, resolve, invoke, builtin, Sem.run_bind, Sem.run_pure, Result.andThen_ok, List.map_toArray, List.map_cons, List.map_nil, hs, hx, h1]
/-- l[:k+1] and l[k+1:] -/
theorem sl_hi (ad : Addr) (n cap k : Nat) (W : World) (h : k + 1 ≤ cap) : (Instr.slice 22 (.slice (some ad) n cap) none (some (.int .i64 ((k : Int) + 1))) none).run Try.prog W = .ok (.slice (some ad) (k + 1) cap) W := by
  have h1 : (k : Int) + 1 ≤ cap := by omega
  have h2 : (0 : Int) ≤ (k : Int) + 1 := by omega
  go_simp
def fromV (ad : Addr) (n cap k : Nat) : Value := .slice (if cap = k then some ad else some (ad.add k)) (n - k) (cap - k)
theorem sl_lo (ad : Addr) (n cap k : Nat) (W : World) (h : k + 1 ≤ n) : (Instr.slice 22 (.slice (some ad) n cap) (some (.int .i64 ((k : Int) + 1))) none none).run Try.prog W = .ok (fromV ad n cap (k + 1)) W := by
  have h1 : (k : Int) + 1 ≤ n := by omega
  have h2 : (0 : Int) ≤ (k : Int) + 1 := by omega
  unfold fromV
  go_simp
theorem row_from {S : Nat → Prop} {w : World} {ad : Addr} {n cap : Nat} {xs : List Value} (h : Row S w (.slice (some ad) n cap) xs) (hn : xs.length = n) (k : Nat) (hk : k ≤ n) (hc : n ≤ cap) : Row S w (fromV ad n cap k) (xs.drop k) := by
  unfold fromV
  rcases h with ⟨h, _⟩ | ⟨a, c, hv, hb, hcell⟩
  · cases h
  · injection hv with h1 h2 h3
    injection h1 with h1
    subst h1 h3
    by_cases e : cap = k
    · rw [if_pos e]
      have e2 : xs.drop k = [] := List.drop_of_length_le (by omega)
      rw [e2]
      exact .inr ⟨ad, _, by rw [show n - k = 0 by omega]; rfl, .inl rfl, fun j u hj => by simp at hj⟩
    · rw [if_neg e]
      refine .inr ⟨ad.add k, _, by rw [List.length_drop, hn], ?_, fun j u hj => ?_⟩
      · rcases hb with rfl | hb
        · exact .inl (by simp)
        · exact .inr (by rw [block_of_add]; exact hb)
      · rw [List.getElem?_drop] at hj
        have := hcell (k + j) u hj
        rwa [show (ad.add k).add j = ad.add (k + j) from Addr.add_add ad k j]
theorem r8_drop (l : List Int) (k : Nat) : r8 (l.drop k) = (r8 l).drop k := by simp [r8, List.map_drop]
theorem rb_drop (l : List Bool) (k : Nat) : rb (l.drop k) = (rb l).drop k := by simp [rb, List.map_drop]
end

/-- what an operation of a region hands back: a value, a row of the call's own, a row that reads, an empty literal -/
inductive Kq8
  | val (v : Value)
  | own (l : List Int)
  | row (l : List Int)
  | emp
def Kq8.holds (B : Nat) : Kq8 → Value → World → Prop
  | .val v, u, _ => u = v
  | .own l, u, W => own8 B W u l
  | .row l, u, W => R8 W u l
  | .emp, u, W => (∃ g, u = .slice (some ⟨g, 0, none⟩) 0 0) ∧ own8 B W u []
def Kq8.stable : Kq8 → Bool
  | .val _ => true
  | _ => false
theorem Kq8.below {B : Nat} {k : Kq8} {u : Value} {w w' : World} (h : k.holds B u w) (b : Below w.heap.size w w') : k.holds B u w' := by
  cases k with
  | val v => exact h
  | own l => exact own8.below h b
  | row l =>
    have h1 : R8 w u l := h
    exact Row.below h1 b
  | emp => exact ⟨h.1, own8.below h.2 b⟩
theorem Kq8.keep {B : Nat} {k : Kq8} {u : Value} {w w' : World} (h : k.holds B u w) (hs : k.stable = true) : k.holds B u w' := by
  cases k with
  | val v => exact h
  | own l => cases hs
  | row l => cases hs
  | emp => cases hs
def killQ (T : Nat → Kq8) (p q i j : Nat) : Bool := (i == p || i == q) && !(j == i) && !(T j).stable
theorem killQ.keep {T : Nat → Kq8} {p q i j : Nat} (h : killQ T p q i j = false) (hi : (i == p || i == q) = true) (hj : j ≠ i) : (T j).stable = true := by
  unfold killQ at h
  rw [hi, show (j == i) = false by simpa using hj] at h
  simpa using h
theorem own8_none (base : Nat) (W : World) (hb : base ≤ W.heap.size) : own8 base (W.alloc (.cells #[] 5)) (.slice (some ⟨W.heap.size, 0, none⟩) 0 0) [] :=
  ⟨rfl, .inr ⟨W.heap.size, 0, #[], rfl, hb, Blk.new W _ _, Nat.le_refl _, by unfold maxLen; omega, rfl, rfl⟩⟩
end Go.Proofs.Ytijdippkkaigjaa
