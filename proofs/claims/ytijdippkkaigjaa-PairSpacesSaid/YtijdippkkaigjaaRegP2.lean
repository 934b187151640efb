/- region_P where edges that do not bind may point ahead. For any layer. No walk. -/
import Derived.Test.YtijdippkkaigjaaRegK
namespace Go.Proofs.Ytijdippkkaigjaa
open Go.ChangeShapes Go.WideShapes Go.ChangeAt Go.RowKit

section
variable {P : Program} {ops : Array Oper} {Q : Exit → Act → World → Prop}
def nokill : Nat → Nat → Bool := fun _ _ => false
theorem StepP.toK {S : World → Prop} {Φ : Nat → Value → World → Prop} {us : Nat → Value} {i : Nat} {o : Oper} {a : Act} {w : World} (hS : ∀ w w', S w → Below w.heap.size w w' → S w') (hΦ : ∀ j u w w', Φ j u w → Below w.heap.size w w' → Φ j u w')
    (hw : S w) (h : StepP P ops Φ i o a w) : StepK P ops S Φ nokill us i o a w := by
  rcases h with ⟨h1, ⟨u, w', hr, hb, hp⟩ | ⟨f, args, hr, hc⟩⟩ | h
  · exact .inl ⟨h1, .inl ⟨u, w', hr, hS _ _ hw hb, hp, fun j _ _ hj => hΦ _ _ _ _ hj hb⟩⟩
  · refine .inl ⟨h1, .inr ⟨f, args, hr, hc.mono ?_⟩⟩
    rintro e w' ⟨u, rfl, hb, hp⟩
    exact ⟨u, rfl, hS _ _ hw hb, hp, fun j _ _ hj => hΦ _ _ _ _ hj hb⟩
  · exact .inr h
theorem killB_no (ops : Array Oper) : killB ops nokill = true := by simp [killB, nokill]
theorem region_P2 {id : Nat} {a : Act} {w : World} (hm : P.follows .mixedOrders = true) (S : World → Prop) (hS : ∀ w w', S w → Below w.heap.size w w' → S w') (Φ : Nat → Value → World → Prop) (hΦ : ∀ j u w w', Φ j u w → Below w.heap.size w w' → Φ j u w') (h0 : S w.drew)
    (hd : distB ops = true) (hlk : looksB ops = true) (hb : backB2 ops = true) (hs : Region.noSelect ops = true)
    (hstep : ∀ us w, S w → ∀ i o, ops[i]? = some o → (∀ j, waits ops i j = true → Φ j (us j) w) → StepP P ops Φ i o (putAll ops.toList 0 us a) w)
    (hdone : ∀ us w, S w → (∀ j, j < ops.size → Φ j (us j) w) → Q .normal (putAll ops.toList 0 us a) w) : (Code.region id ops true).wp P Q a w :=
  region_K hm S Φ nokill h0 hd hlk hb hs (killB_no ops)
    (fun us w hw i o ho hg => (hstep us w hw i o ho fun j hj => hg j (by simp [givenB, hj, nokill])).toK hS hΦ hw)
    (fun us w hw hg => hdone us w hw fun j hj => hg j hj fun i _ h => by cases h)
end
end Go.Proofs.Ytijdippkkaigjaa
