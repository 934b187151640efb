/- As XRangeHere, where what holds behind the iterator is said apart from what holds between its rounds (it may have stored something at its end). For any layer. No walk. -/
import Derived.Test.YtddihpiheopleaaArRegIn
namespace Go.Proofs.Ytddihpiheopleaa
open Go.ChangeShapes Go.WideShapes Go.ChangeAt Go.RowKit Go.Shelf

theorem rangeFunc_fin {F : Fence} {n : Nat} {P : Program} {α : Type} {g : Operand} {ps : Array Tmp} {assign body : Code} {Q : Exit → Act → World → Prop} {a : Act} {w : World}
    (hro : F.round = none) (h1 : 1 ≤ n) {gf : Nat} {lb : Array Value} (hg : a.eval g = .func (.func gf) #[] lb) (hFg : F.fn gf) (eg : ∀ args w, (callFunc gf args).run P w = .ok (.enter gf args) w)
    {encs : α → Array Value} (hps : ∀ x, (encs x).size = ps.size) (I : Obj → List α → World → Prop) (J : Obj → World → Prop) (Kp : World → World → Prop) (N : Nat)
    (hloop : ∀ rdy pre W, I rdy pre W → W.heap[w.heap.size + 1]? = some rdy) (hfin : ∀ rdy W, J rdy W → W.heap[w.heap.size + 1]? = some rdy)
    (hround : ∀ (rdy bsy : Obj) (m : Nat) (pre : List α) (x : α) (W : World), rdy.isCells = false → bsy.isCells = false → I rdy pre W → pre.length < N →
      assign.wpIn (F.inRound (w.heap.size + 1)) m P (Exit.then (fun a1 W1 => W1.heap[w.heap.size + 1]? = some rdy ∧ body.wpIn (F.inRound (w.heap.size + 1)) m P (fun e _ W3 => e = .normal ∧ W3.heap[w.heap.size + 1]? = some bsy ∧ I rdy (pre ++ [x]) (W3.putObj (w.heap.size + 1) rdy) ∧ Kp W (W3.putObj (w.heap.size + 1) rdy)) a1 (W1.putObj (w.heap.size + 1) bsy)) (fun _ _ _ => False))
        { tmps := (ps.zip (encs x)).foldl (fun t (p, v) => t.setIfInBounds p v) a.tmps, defers := [] } W)
    (hiter : ∀ rdy : Obj, rdy.isCells = false → (∀ (m : Nat) (pre : List α) (x : α) (W : World), I rdy pre W → pre.length < N → YieldAt F m P (w.heap.size + 1) (encs x) W fun e W' => e = .returned (.bool true) ∧ I rdy (pre ++ [x]) W' ∧ Kp W W') →
      CallsIn F (n - 1) P gf (#[.func (.yield (w.heap.size + 1)) #[] #[]] ++ lb) ((w.alloc (.deferred (some []))).alloc rdy) fun e W' => (∃ v, e = .returned v) ∧ J rdy W')
    (hdone : ∀ (rdy exh : Obj) (W : World), rdy.isCells = false → exh.isCells = false → J rdy W → Q .normal { a with defers := { target := .collected w.heap.size, args := #[] } :: a.defers } (W.putObj (w.heap.size + 1) exh)) :
    (Code.rangeFunc g ps assign body).wpIn F n P Q a w := by
  refine wpIn_rangeFunc ?_
  intro fn hfn
  rw [hro]
  obtain ⟨rec, hrec⟩ : ∃ rec : LoopState → Loop, rec = fun st => { state := st, pending := none, fn, tmps := a.tmps, params := ps, assign, body, defers := w.heap.size } := ⟨_, rfl⟩
  refine ⟨w.heap.size + 1, [{ target := .collected w.heap.size, args := #[] }], (w.alloc (.deferred (some []))).alloc (.loop (rec .ready)), { target := .fn (.func gf) lb, args := #[.func (.yield (w.heap.size + 1)) #[] #[]] }, (w.alloc (.deferred (some []))).alloc (.loop (rec .ready)), gf,
    #[.func (.yield (w.heap.size + 1)) #[] #[]] ++ lb, (w.alloc (.deferred (some []))).alloc (.loop (rec .ready)), ?_, ?_, ?_, ?_, fun _ => h1, ?_⟩
  · rw [hrec]; exact run_enterLoop_outer _ _ _ _ _
  · simp only [resolve, hg]
    simp [go_sem]
  · intro f' hf'; simp [Target.leads] at hf'; subst hf'; exact hFg
  · simp [invoke, go_sem, eg]
  · refine (hiter (.loop (rec .ready)) rfl ?_).mono ?_
    · intro m pre x W hI hN
      have hl := hloop _ _ _ hI
      have hy := run_yield (P := P) (args := encs x) hl (by rw [hrec]; exact hps x)
      rw [hrec] at hy
      refine ⟨fn, _, assign, body, hy, roundIn_of_wpIn hfn (wpIn_mono (hround (.loop (rec .ready)) (.loop (rec .busy)) m pre x W rfl rfl hI hN) ?_)⟩
      rintro e a1 W1 hp
      cases e with
      | normal =>
        obtain ⟨hl1, hb⟩ := hp
        refine ⟨_, run_beginRound hl1 (by rw [hrec]), ?_⟩
        have e1 : ({ rec .ready with state := .busy } : Loop) = rec .busy := by rw [hrec]
        rw [e1]
        refine wpIn_mono hb ?_
        rintro e a3 W3 ⟨rfl, hl3, hI3, hK3⟩
        have hr := run_endRound (P := P) none hl3
        have e2 : ({ rec .busy with state := if (none : Option Code).isNone then .ready else .done, pending := none } : Loop) = rec .ready := by rw [hrec]; rfl
        rw [e2] at hr
        exact ⟨_, _, hr, rfl, hI3, hK3⟩
      | ret => exact hp.elim
      | exit id => exact hp.elim
      | goto t => exact hp.elim
      | panic ch => exact hp.elim
      | outgrown => exact hp.elim
    · rintro e W2 ⟨⟨v, rfl⟩, hJ⟩
      have hl := hfin _ _ hJ
      exact ⟨none, _, by have := run_endLoop (P := P) hl (by rw [hrec]; simp); rw [hrec] at this; exact this, hdone _ _ _ rfl rfl hJ⟩
end Go.Proofs.Ytddihpiheopleaa
