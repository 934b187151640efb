/- Laws for the walk: append of a byte, and of a string's bytes, onto a writer's own row. No walk. -/
import Derived.Test.YtfhceblmjahgjaaPkW1
import Derived.Lib.AppendStr
import Derived.Deep.RegionLaw
namespace Go.Proofs.Ytfhceblmjahgjaa
open Go.ChangeShapes Go.WideShapes Go.ChangeAt Go.RowKit

theorem Try.infoB : (Try.prog.info? 5).map (fun i => (i.zero, i.size, i.bytes)) = some (some (.int .u8 0), 1, 1) := by kernel_rfl

/-- a row has been made that has the bytes ys; it is still to be stored into the writer at p -/
structure App (w : World) (p : Nat) (v : Value) (ys : List Nat) (v' : Value) (w2 : World) : Prop where
  cell : w2.cell? ⟨p, 1, none⟩ = some v
  frozen : w2.frozen? ⟨p, 1, none⟩ = false
  done : Wrote w p v ys (w2.setCell ⟨p, 1, none⟩ v') v'
  form : ∃ A n c, v' = .slice A n c

theorem app_of {w w2 : World} {p : Nat} {v v' : Value} {xs ys : List Nat} (h : Wr w p v xs) (hown : w2.ownsRow (p + 1) 5 1 v' ys.length (cb ys)) (hg : w.grownBy w2 v.ownBlock) (hat : v'.ownBlock = v.ownBlock ∨ v'.ownBlock = some w.heap.size) : App w p v ys v' w2 := by
  have hne : some p ≠ v.ownBlock := fun e => by have := h.own.lt p e.symm; omega
  have hb : Blk w2 p 53 #[.bool true, v] := h.blk.grown hg hne
  refine ⟨hb.cell 1, hb.frozen 1, ⟨⟨hb.set_ 1 v', ?_⟩, ?_, ?_⟩, ?_⟩
  · exact ownsRow_setCell_below hown (by show p < p + 1; omega) v'
  · exact ((Mod.refl (fp p v) w).grown hg (fun k hk => .inl (.inr hk))).setCell (.inl (.inl rfl)) v'
  · rintro k (rfl | hk)
    · exact .inl (.inl rfl)
    · rcases hat with e | e
      · exact .inl (.inr (by rw [← e]; exact hk))
      · rw [e] at hk
        injection hk with hk
        exact .inr (by omega)
  · rcases hown.2 with ⟨rfl, _⟩ | ⟨g, cap, cur, rfl, _⟩
    · exact ⟨_, _, _, rfl⟩
    · exact ⟨_, _, _, rfl⟩

theorem run_app1 {w : World} {p : Nat} {v : Value} {xs : List Nat} (ty : TypeId) (h : Wr w p v xs) (ad : Addr) (c b : Nat) (hc : w.cell? ad = some (.int .u8 (b : Int))) (hl : xs.length + 1 ≤ 140737488355328) :
    ∃ v' w2, (Builtin.append_ #[35, 35] ty #[v, .slice (some ad) 1 c]).run Try.prog w = .ok v' w2 ∧ App w p v (xs ++ [b]) v' w2 := by
  obtain ⟨i0, hi, hz0, hz1, hz2⟩ := info_parts Try.infoB
  obtain ⟨v', w2, hr, h2, h3, _, h5⟩ := run_append_own_at (P := Try.prog) w (p + 1) 35 ty 5 i0 (.int .u8 0) 1 1 Try.underlying35 hi hz0 hz1 hz2 rfl (by decide) v xs.length (cb xs) h.own ad 1 c [.int .u8 (b : Int)] rfl
    (fun j u hj => by
      match j, hj with
      | 0, hj => simp at hj; subst hj; simpa [Addr.add] using hc
      | (j + 1), hj => simp at hj)
    (fun u hu => by simp at hu; subst hu; rfl) (by unfold maxLen; omega) (by omega) (by have := h.blk.lt; omega)
  refine ⟨v', w2, hr, app_of h ?_ h3 h5⟩
  rw [List.length_append, cb_append]
  exact h2

theorem wp_app1 {o : Oper} {a : Act} {K : Act → World → Prop} {Q : Exit → Act → World → Prop} (w : World) (s x : Operand)
    (ho : o.op = .call { callee := .builtin .append, args := #[s, x], argTypes := #[35, 35] })
    (p : Nat) (v : Value) (xs : List Nat) (h : Wr w p v xs) (hs : a.eval s = v) (ad : Addr) (c b : Nat) (hx : a.eval x = .slice (some ad) 1 c) (hc : w.cell? ad = some (.int .u8 (b : Int))) (hl : xs.length + 1 ≤ 140737488355328)
    (hK : ∀ v' w2, App w p v (xs ++ [b]) v' w2 → K (a.put o.dst v') w2) : o.wp Try.prog a w K Q := by
  obtain ⟨v', w2, hr, h2⟩ := run_app1 o.type h ad c b hc hl
  unfold Oper.wp execOp
  simp only [ho, resolve, invoke, builtin, Sem.run_bind, Sem.run_pure, Result.andThen_ok, List.map_toArray, List.map_cons, List.map_nil, hs, hx, hr]
  exact hK v' w2 h2

theorem wpList_app1 {ops : Array Oper} {rest : List Oper} {o : Oper} {a : Act} {Q : Exit → Act → World → Prop} (w : World) (hgd : o.guard = none) (s x : Operand)
    (ho : o.op = .call { callee := .builtin .append, args := #[s, x], argTypes := #[35, 35] })
    (p : Nat) (v : Value) (xs : List Nat) (h : Wr w p v xs) (hs : a.eval s = v) (ad : Addr) (c b : Nat) (hx : a.eval x = .slice (some ad) 1 c) (hc : w.cell? ad = some (.int .u8 (b : Int))) (hl : xs.length + 1 ≤ 140737488355328)
    (hK : ∀ v' w2, App w p v (xs ++ [b]) v' w2 → wpList Try.prog ops Q rest (a.put o.dst v') w2) : wpList Try.prog ops Q (o :: rest) a w :=
  wpList_plain hgd fun _ hk => wp_app1 w s x ho p v xs h hs ad c b hx hc hl fun v' w2 h2 => hk _ _ (hK v' w2 h2)

theorem step_app1 {ops : Array Oper} {o : Oper} {a : Act} {K : Act → World → Prop} {Q : Exit → Act → World → Prop} {E : Prop} (w : World) (hgd : o.guard = none) (s x : Operand)
    (ho : o.op = .call { callee := .builtin .append, args := #[s, x], argTypes := #[35, 35] })
    (p : Nat) (v : Value) (xs : List Nat) (h : Wr w p v xs) (hs : a.eval s = v) (ad : Addr) (c b : Nat) (hx : a.eval x = .slice (some ad) 1 c) (hc : w.cell? ad = some (.int .u8 (b : Int))) (hl : xs.length + 1 ≤ 140737488355328)
    (hK : ∀ v' w2, App w p v (xs ++ [b]) v' w2 → K (a.put o.dst v') w2) :
    if Region.wanted o (yielded ops a.tmps) = true then Oper.wp Try.prog o a w K Q else E := by
  have hw : Region.wanted o (yielded ops a.tmps) = true := by simp [Region.wanted, hgd]
  rw [if_pos hw]
  exact wp_app1 w s x ho p v xs h hs ad c b hx hc hl hK

theorem strCells_bs (s : ByteArray) : Lib.strCells s = cb (bs s) := by
  unfold Lib.strCells cb bs
  rw [List.map_map]
  rfl

theorem run_apps {w : World} {p : Nat} {v : Value} {xs : List Nat} (ty : TypeId) (h : Wr w p v xs) (s : ByteArray) (hl : xs.length + s.size ≤ 140737488355328) :
    ∃ v' w2, (Builtin.append_ #[35, 9] ty #[v, .string s]).run Try.prog w = .ok v' w2 ∧ App w p v (xs ++ bs s) v' w2 := by
  obtain ⟨i0, hi, hz0, hz1, hz2⟩ := info_parts Try.infoB
  obtain ⟨v', w2, hr, h2, h3, h4⟩ := Lib.run_append_own_string (P := Try.prog) w (p + 1) 35 9 ty 5 i0 Try.underlying35 Try.underlying9 hi hz0 hz1 hz2 v xs.length (cb xs) h.own s (by unfold maxLen; omega) hl (by have := h.blk.lt; omega)
  refine ⟨v', w2, hr, app_of h ?_ h3 ?_⟩
  · rw [List.length_append, bs_len, cb_append, ← strCells_bs]
    exact h2
  · rcases h.own.2 with ⟨rfl, h0⟩ | ⟨g, cap, cur, rfl, hbg, hg, hnc, hcm, hcs, htake⟩
    · by_cases hm : s.size = 0
      · exact .inl (by rw [h4.2 ⟨rfl, hm⟩])
      · have hr2 := run_append_nil_string (P := Try.prog) w 35 9 ty 5 i0 (.int .u8 0) Try.underlying35 Try.underlying9 hi hz0 s (by omega) (by omega) (by rw [hz2]; omega)
        rw [hr] at hr2
        injection hr2 with e1 e2
        rw [e1]
        exact .inr rfl
    · by_cases hroom : xs.length + s.size ≤ cap
      · have hcc : cur.size = cap := by simpa using hcs
        have hr2 := Lib.run_append_room_string (P := Try.prog) w 35 9 ty 5 i0 Try.underlying35 Try.underlying9 hi hz1 g xs.length cap cur hg s hroom (by omega)
        rw [hr] at hr2
        injection hr2 with e1 e2
        rw [e1]
        exact .inl rfl
      · have holds : ∀ j u, (cb xs)[j]? = some u → w.cell? ((⟨g, 0, none⟩ : Addr).add j) = some u := h.own.cells (g := g) rfl
        have hr2 := Lib.run_append_grow_string (P := Try.prog) w 35 9 ty 5 i0 (.int .u8 0) Try.underlying35 Try.underlying9 hi hz0 ⟨g, 0, none⟩ xs.length cap (cb xs) (by rw [hz1]; simpa using h.own.1) holds s (by omega) (by omega) (by rw [hz2]; exact growslice_fits (by omega) (by omega))
        rw [hr] at hr2
        injection hr2 with e1 e2
        rw [e1]
        exact .inr rfl

theorem wpList_apps {ops : Array Oper} {rest : List Oper} {o : Oper} {a : Act} {Q : Exit → Act → World → Prop} (w : World) (hgd : o.guard = none) (x y : Operand)
    (ho : o.op = .call { callee := .builtin .append, args := #[x, y], argTypes := #[35, 9] })
    (p : Nat) (v : Value) (xs : List Nat) (h : Wr w p v xs) (hs : a.eval x = v) (s : ByteArray) (hx : a.eval y = .string s) (hl : xs.length + s.size ≤ 140737488355328)
    (hK : ∀ v' w2, App w p v (xs ++ bs s) v' w2 → wpList Try.prog ops Q rest (a.put o.dst v') w2) : wpList Try.prog ops Q (o :: rest) a w := by
  refine wpList_plain hgd fun K hk => ?_
  obtain ⟨v', w2, hr, h2⟩ := run_apps o.type h s hl
  unfold Oper.wp execOp
  simp only [ho, resolve, invoke, builtin, Sem.run_bind, Sem.run_pure, Result.andThen_ok, List.map_toArray, List.map_cons, List.map_nil, hs, hx, hr]
  exact hk _ _ (hK v' w2 h2)
end Go.Proofs.Ytfhceblmjahgjaa
