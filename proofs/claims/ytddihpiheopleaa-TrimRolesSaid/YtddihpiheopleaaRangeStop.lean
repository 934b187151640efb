/- As XRangeFin, where a round may also leave the whole call ('return' in the loop's body). For any layer. No walk. -/
import Derived.Test.YtddihpiheopleaaArRegIn
namespace Go.Proofs.Ytddihpiheopleaa
open Go.ChangeShapes Go.WideShapes Go.ChangeAt Go.RowKit Go.Shelf

theorem rangeFunc_stop {F : Fence} {n : Nat} {P : Program} {α : Type} {g : Operand} {ps : Array Tmp} {assign body : Code} {Q : Exit → Act → World → Prop} {a : Act} {w : World}
    (hro : F.round = none) (h1 : 1 ≤ n) {gf : Nat} {lb : Array Value} (hg : a.eval g = .func (.func gf) #[] lb) (hFg : F.fn gf) (eg : ∀ args w, (callFunc gf args).run P w = .ok (.enter gf args) w)
    {encs : α → Array Value} (hps : ∀ x, (encs x).size = ps.size) (I : Obj → List α → World → Prop) (J : Obj → World → Prop) (X : Obj → World → Prop) (G : List α → α → Prop)
    (hloop : ∀ rdy pre W, I rdy pre W → W.heap[w.heap.size + 1]? = some rdy) (hfin : ∀ rdy W, J rdy W → W.heap[w.heap.size + 1]? = some rdy) (hstp : ∀ dn W, X dn W → W.heap[w.heap.size + 1]? = some dn)
    (hround : ∀ (rdy bsy dn : Obj) (m : Nat) (pre : List α) (x : α) (W : World), rdy.isCells = false → bsy.isCells = false → dn.isCells = false → I rdy pre W → G pre x →
      assign.wpIn (F.inRound (w.heap.size + 1)) m P (Exit.then (fun a1 W1 => W1.heap[w.heap.size + 1]? = some rdy ∧ body.wpIn (F.inRound (w.heap.size + 1)) m P (fun e _ W3 => W3.heap[w.heap.size + 1]? = some bsy ∧ (e = .normal ∧ I rdy (pre ++ [x]) (W3.putObj (w.heap.size + 1) rdy) ∨ e = .ret ∧ X dn (W3.putObj (w.heap.size + 1) dn))) a1 (W1.putObj (w.heap.size + 1) bsy)) (fun _ _ _ => False))
        { tmps := (ps.zip (encs x)).foldl (fun t (p, v) => t.setIfInBounds p v) a.tmps, defers := [] } W)
    (hiter : ∀ rdy dn : Obj, rdy.isCells = false → dn.isCells = false → (∀ (m : Nat) (pre : List α) (x : α) (W : World), I rdy pre W → G pre x → YieldAt F m P (w.heap.size + 1) (encs x) W fun e W' => e = .returned (.bool true) ∧ I rdy (pre ++ [x]) W' ∨ e = .returned (.bool false) ∧ X dn W') →
      CallsIn F (n - 1) P gf (#[.func (.yield (w.heap.size + 1)) #[] #[]] ++ lb) ((w.alloc (.deferred (some []))).alloc rdy) fun e W' => (∃ v, e = .returned v) ∧ (J rdy W' ∨ X dn W'))
    (hdone : ∀ (rdy exh : Obj) (W : World), rdy.isCells = false → exh.isCells = false → J rdy W → Q .normal { a with defers := { target := .collected w.heap.size, args := #[] } :: a.defers } (W.putObj (w.heap.size + 1) exh))
    (hleft : ∀ (dn exh : Obj) (W : World), dn.isCells = false → exh.isCells = false → X dn W → Code.ret.wpIn F n P Q { a with defers := { target := .collected w.heap.size, args := #[] } :: a.defers } (W.putObj (w.heap.size + 1) exh)) :
    (Code.rangeFunc g ps assign body).wpIn F n P Q a w := by
  refine wpIn_rangeFunc ?_
  intro fn hfn
  rw [hro]
  obtain ⟨rec, hrec⟩ : ∃ rec : LoopState → Option Code → Loop, rec = fun st pe => { state := st, pending := pe, fn, tmps := a.tmps, params := ps, assign, body, defers := w.heap.size } := ⟨_, rfl⟩
  refine ⟨w.heap.size + 1, [{ target := .collected w.heap.size, args := #[] }], (w.alloc (.deferred (some []))).alloc (.loop (rec .ready none)), { target := .fn (.func gf) lb, args := #[.func (.yield (w.heap.size + 1)) #[] #[]] }, (w.alloc (.deferred (some []))).alloc (.loop (rec .ready none)), gf,
    #[.func (.yield (w.heap.size + 1)) #[] #[]] ++ lb, (w.alloc (.deferred (some []))).alloc (.loop (rec .ready none)), ?_, ?_, ?_, ?_, fun _ => h1, ?_⟩
  · rw [hrec]; exact run_enterLoop_outer _ _ _ _ _
  · simp only [resolve, hg]
    simp [go_sem]
  · intro f' hf'; simp [Target.leads] at hf'; subst hf'; exact hFg
  · simp [invoke, go_sem, eg]
  · refine (hiter (.loop (rec .ready none)) (.loop (rec .done (some .ret))) rfl rfl ?_).mono ?_
    · intro m pre x W hI hN
      have hl := hloop _ _ _ hI
      have hy := run_yield (P := P) (args := encs x) hl (by rw [hrec]; exact hps x)
      rw [hrec] at hy
      refine ⟨fn, _, assign, body, hy, roundIn_of_wpIn hfn (wpIn_mono (hround (.loop (rec .ready none)) (.loop (rec .busy none)) (.loop (rec .done (some .ret))) m pre x W rfl rfl rfl hI hN) ?_)⟩
      rintro e a1 W1 hp
      cases e with
      | normal =>
        obtain ⟨hl1, hb⟩ := hp
        refine ⟨_, run_beginRound hl1 (by rw [hrec]), ?_⟩
        have e1 : ({ rec .ready none with state := .busy } : Loop) = rec .busy none := by rw [hrec]
        rw [e1]
        refine wpIn_mono hb ?_
        rintro e a3 W3 ⟨hl3, ⟨rfl, hI3⟩ | ⟨rfl, hX3⟩⟩
        · have hr := run_endRound (P := P) none hl3
          have e2 : ({ rec .busy none with state := if (none : Option Code).isNone then .ready else .done, pending := none } : Loop) = rec .ready none := by rw [hrec]; rfl
          rw [e2] at hr
          exact ⟨_, _, hr, .inl ⟨rfl, hI3⟩⟩
        · have hr := run_endRound (P := P) (some .ret) hl3
          have e2 : ({ rec .busy none with state := if (some Code.ret : Option Code).isNone then .ready else .done, pending := some .ret } : Loop) = rec .done (some .ret) := by rw [hrec]; rfl
          rw [e2] at hr
          exact ⟨_, _, hr, .inr ⟨rfl, hX3⟩⟩
      | ret => exact hp.elim
      | exit id => exact hp.elim
      | goto t => exact hp.elim
      | panic ch => exact hp.elim
      | outgrown => exact hp.elim
    · rintro e W2 ⟨⟨v, rfl⟩, hJ | hX⟩
      · have hl := hfin _ _ hJ
        exact ⟨none, _, by have := run_endLoop (P := P) hl (by rw [hrec]; simp); rw [hrec] at this; exact this, hdone _ _ _ rfl rfl hJ⟩
      · have hl := hstp _ _ hX
        exact ⟨some .ret, _, by have := run_endLoop (P := P) hl (by rw [hrec]; simp); rw [hrec] at this; exact this, hleft _ _ _ rfl rfl hX⟩
end Go.Proofs.Ytddihpiheopleaa
