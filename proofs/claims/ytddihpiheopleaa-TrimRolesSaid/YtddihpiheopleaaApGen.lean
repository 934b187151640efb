/- Appends of any rows onto rows of the call's own. For any layer. No walk. -/
import Derived.Test.YtddihpiheopleaaApH
import Derived.Test.YtddihpiheopleaaRwI
namespace Go.Proofs.Ytddihpiheopleaa
open Go.ChangeShapes Go.WideShapes Go.ChangeAt Go.RowKit

/-- v reads as the cells ys -/
def Flat (W : World) (v : Value) (m : Nat) (ys : List Value) : Prop := (v = .slice none 0 0 ∧ ys = [] ∧ m = 0) ∨ ∃ ad cap, v = .slice (some ad) m cap ∧ ∀ j u, ys[j]? = some u → W.cell? (ad.add j) = some u
theorem RowN.flat {k : Nat} {S : Nat → Prop} {W : World} {v : Value} {rows : List (List Value)} (h : RowN k S W v rows) (hk : ∀ x ∈ rows, x.length = k) : Flat W v rows.length rows.flatten := by
  rcases h with ⟨rfl, rfl⟩ | ⟨a, cap, rfl, _, hc⟩
  · exact .inl ⟨rfl, rfl, rfl⟩
  · refine .inr ⟨a, cap, rfl, fun j u hj => ?_⟩
    obtain ⟨i, x, j', h1, h2, rfl⟩ := flat_invW k rows hk j u hj
    exact hc i x h1 j' u h2
theorem Row.flat {S : Nat → Prop} {W : World} {v : Value} {xs : List Value} (h : Row S W v xs) : Flat W v xs.length xs := by
  rcases h with ⟨rfl, rfl⟩ | ⟨a, cap, rfl, _, hc⟩
  · exact .inl ⟨rfl, rfl, rfl⟩
  · exact .inr ⟨a, cap, rfl, hc⟩
theorem Blk.flat1 {W : World} {g : Nat} {t : TypeId} {cs : Array Value} (h : Blk W g t cs) : Flat W (.slice (some ⟨g, 0, none⟩) 1 1) 1 cs.toList :=
  .inr ⟨_, _, rfl, fun j u hj => h.lies j u (by simpa using hj)⟩
theorem app_gen {P : Program} {T E : TypeId} {size bytes : Nat} (hE : Elh P T E size bytes) {w : World} {base n m : Nat} {v v2 : Value} {xs ys : List Value} (hO : w.ownsRow base E size v n xs) (hR : Flat w v2 m ys) (hys : ys.length = m * size) (h1 : ∀ u ∈ ys, u.oneCell' = true) (hb : base ≤ w.heap.size) (hlen : n + m ≤ 4194304) (ty : TypeId) :
    ∃ v' w', (Builtin.append_ #[T, T] ty #[v, v2]).run P w = .ok v' w' ∧ w'.ownsRow base E size v' (n + m) (xs ++ ys) ∧ Below base w w' := by
  obtain ⟨z, hi0, hzc⟩ := hE.info
  obtain ⟨i0, hi, hz0, hz1, hz2⟩ := info_of hi0
  rcases hR with ⟨rfl, rfl, rfl⟩ | ⟨ad, cap, rfl, hc⟩
  · rw [List.append_nil]
    exact ⟨_, w, run_append_owned_none w base T ty E i0 size hE.und hi _ _ _ hO, hO, Below.refl _ _⟩
  · have hsm := hE.small
    obtain ⟨v', w', hr, h2, h3, _, _⟩ := run_append_own_at (P := P) w base T ty E i0 z size bytes hE.und hi hz0 hz1 hz2 hzc hE.pos v n xs hO ad m cap ys hys hc h1 (by unfold maxLen; omega) (Nat.le_trans (Nat.mul_le_mul hlen hsm) (by omega)) hb
    refine ⟨v', w', hr, h2, below_grew h3 hb fun g hg => ?_⟩
    rcases hO.2 with ⟨rfl, _⟩ | ⟨g', cap', cur, rfl, hb', _⟩
    · simp [Value.ownBlock] at hg
    · have e : g' = g := by simpa [Value.ownBlock] using hg
      omega
section
variable {P : Program} {ops : Array Oper} {Q : Exit → Act → World → Prop} {a : Act} {w : World} {rest : List Oper} {o : Oper}
theorem run_op_app {T : TypeId} {v v2 v' : Value} {w' : World} (s x : Operand) (ho : o.op = .call { callee := .builtin .append, args := #[s, x], argTypes := #[T, T] }) (hs : a.eval s = v) (hx : a.eval x = v2) (h1 : (Builtin.append_ #[T, T] o.type #[v, v2]).run P w = .ok v' w') :
    (execOp a.eval o).run P w = .ok (.value v') w' := by
  unfold execOp
  simp only [ho, resolve, invoke, builtin, Sem.run_bind, Sem.run_pure, Result.andThen_ok, List.map_toArray, List.map_cons, List.map_nil, hs, hx, h1]
/-- out = append(v, v2...) -/
theorem wpList_app {T E : TypeId} {size bytes : Nat} (hE : Elh P T E size bytes) (hg : o.guard = none) (s x : Operand) (ho : o.op = .call { callee := .builtin .append, args := #[s, x], argTypes := #[T, T] }) (v v2 : Value) (hs : a.eval s = v) (hx : a.eval x = v2)
    (base n m : Nat) (xs ys : List Value) (hO : w.ownsRow base E size v n xs) (hR : Flat w v2 m ys) (hys : ys.length = m * size) (h1 : ∀ u ∈ ys, u.oneCell' = true) (hb : base ≤ w.heap.size) (hlen : n + m ≤ 4194304)
    (h : ∀ v' w', w'.ownsRow base E size v' (n + m) (xs ++ ys) → Below base w w' → wpList P ops Q rest (a.put o.dst v') w') : wpList P ops Q (o :: rest) a w := by
  obtain ⟨v', w', hr, h2, h3⟩ := app_gen hE hO hR hys h1 hb hlen o.type
  exact wpList_valIf (wanted_none hg _) _ rfl v' w' (run_op_app s x ho hs hx hr) (h v' w' h2 h3)
end

/-- an empty literal, as it is made -/
theorem own_lit0 {W : World} {g base size : Nat} {e : TypeId} (hB : Blk W g e #[]) (hb : base ≤ g) : W.ownsRow base e size (.slice (some ⟨g, 0, none⟩) 0 0) 0 [] :=
  ⟨by simp, .inr ⟨g, 0, _, rfl, hb, hB, Nat.zero_le _, by unfold maxLen; omega, by simp, by simp⟩⟩
end Go.Proofs.Ytddihpiheopleaa
