/- Contract of style.Styles. Conditions: the lists lie where the slices say, at most 1000 elements each; bits are 16-bit numbers. -/
import Derived.Test.YtejcfhfmdijimaaDoorYV
namespace Go.Proofs.YtejcfhfmdijimaaDoor
open Go.ChangeShapes Go.WideShapes Go.ChangeAt Go.RowKit

/-- make of a row of aggregates, the size a variable -/
theorem run_make_aggs {P : Program} (t e : TypeId) (i : TypeInfo) (z : Value) (ht : P.underlying t = some (.slice e)) (hi : P.info? e = some i) (hz : i.zero = some z)
    (kl kc : IntKind) (n c : Nat) (hnc : n ≤ c) (hbytes : i.bytes * c ≤ 281474976710656) (h63 : c ≤ 9223372036854775807) (w : World) :
    (Instr.makeSlice t (.int kl (n : Int)) (.int kc (c : Int))).run P w = .ok (.slice (some ⟨w.heap.size, 0, none⟩) n c) (w.alloc (.cells (madeCells z.cells (c * i.size)) e)) := by
  have hb : (i.bytes : Int) * (c : Int) ≤ 281474976710656 := by
    have h : ((i.bytes * c : Nat) : Int) ≤ 281474976710656 := by omega
    rwa [Int.natCast_mul] at h
  have hr := run_make (P := P) w t e i z ht hi hz kl kc n c (by omega) (by omega) hb (by omega)
  simp only [Int.toNat_natCast] at hr
  exact hr

theorem infoS : (Tryd.prog.info? 33).map (fun i => (i.zero, i.size, i.bytes)) = some (some (.agg Sty.zero.cells), 9, 48) := by kernel_rfl
theorem info_agg {P : Program} {t : TypeId} {z : Value} {s b : Nat} (h : (P.info? t).map (fun i => (i.zero, i.size, i.bytes)) = some (some z, s, b)) : ∃ i, P.info? t = some i ∧ i.zero = some z ∧ i.size = s ∧ i.bytes = b := by
  cases hq : P.info? t with
  | none => rw [hq] at h; cases h
  | some i =>
    rw [hq] at h
    injection h with h
    injection h with h1 h2
    injection h2 with h2 h3
    exact ⟨i, rfl, h1, h2, h3⟩
theorem mkS (n : Nat) (hn : n ≤ 1000) (w : World) :
    (Instr.makeSlice 23 (.int .i64 (n : Int)) (.int .i64 (n : Int))).run Tryd.prog w = .ok (.slice (some ⟨w.heap.size, 0, none⟩) n n) (w.alloc (.cells (madeCells Sty.zero.cells (n * 9)) 33)) := by
  obtain ⟨i0, hi, hz0, hz1, hz2⟩ := info_agg infoS
  have := run_make_aggs (P := Tryd.prog) 23 33 i0 (.agg Sty.zero.cells) Tryd.underlying23 hi hz0 .i64 .i64 n n (Nat.le_refl _) (by rw [hz2]; omega) (by omega) w
  rw [hz1] at this
  exact this
theorem made_get (z : Array Value) (k n i j : Nat) (hk : z.size = k) (hi : i < n) (hj : j < k) : (madeCells z (n * k))[i * k + j]? = z[j]? := by
  have h1 : i * k + j < n * k := by have := row_le (k := k) hi; omega
  unfold madeCells
  have hm : (i * k + j) % z.size = j := by rw [hk, Nat.mul_comm, Nat.mul_add_mod]; exact Nat.mod_eq_of_lt hj
  rw [Array.getElem?_map, Array.getElem?_range, if_pos h1]
  simp only [Option.map_some, hm]
  rw [getElem!_pos z j (by omega), Array.getElem?_eq_getElem (by omega)]
theorem strs_made (w : World) (n : Nat) : Strs (w.alloc (.cells (madeCells Sty.zero.cells (n * 9)) 33)) w.heap.size 33 9 ((List.replicate n Sty.zero).map Sty.cells) := by
  refine ⟨_, Blk.new _ _ _, by simp [size_madeCells], fun i x hi => ?_⟩
  rw [List.getElem?_map] at hi
  have hin : i < n := by
    cases h : (List.replicate n Sty.zero)[i]? with
    | none => rw [h] at hi; cases hi
    | some y => have := (List.getElem?_eq_some_iff.1 h).1; simpa using this
  rw [List.getElem?_eq_getElem (by simpa using hin), List.getElem_replicate] at hi
  injection hi with hi
  subst hi
  refine ⟨rfl, fun j v hv => ?_⟩
  have hj : j < 9 := (Array.getElem?_eq_some_iff.1 hv).1
  rw [made_get _ 9 n i j rfl hin hj]
  exact hv

/-- what Styles says -/
def StyRes (base : Sty) (ps : List Int) (ds : List Dcl) (z : Int) (l : List Sty) : Prop :=
  (¬ (ps.length = ds.length ∧ okP ps) ∧ z = 2 ∧ l = []) ∨ ((ps.length = ds.length ∧ okP ps) ∧ ¬ (vld base = true ∧ okD ds) ∧ z = 60 ∧ l = []) ∨
    ((ps.length = ds.length ∧ okP ps) ∧ (vld base = true ∧ okD ds) ∧ z = 0 ∧ l = styK base ps ds ds.length)
theorem StyRes.uniq {base : Sty} {ps : List Int} {ds : List Dcl} {z z' : Int} {l l' : List Sty} (h : StyRes base ps ds z l) (h' : StyRes base ps ds z' l') : z = z' ∧ l = l' := by
  rcases h with ⟨h1, rfl, rfl⟩ | ⟨h1, h2, rfl, rfl⟩ | ⟨h1, h2, rfl, rfl⟩ <;> rcases h' with ⟨h3, rfl, rfl⟩ | ⟨h3, h4, rfl, rfl⟩ | ⟨h3, h4, rfl, rfl⟩ <;>
    first
      | exact ⟨rfl, rfl⟩
      | exact absurd h3 h1
      | exact absurd h1 h3
      | exact absurd h4 h2
      | exact absurd h2 h4
def StyPost (w : World) (base : Sty) (ps : List Int) (ds : List Dcl) (e : Ending) (w' : World) : Prop :=
  ∃ v z l, e = .returned (.tuple #[v, .int .i64 z]) ∧ StyRes base ps ds z l ∧ Ss w' v l ∧ Below w.heap.size w w'
theorem StyPost.bad {w w' : World} {base : Sty} {ps : List Int} {ds : List Dcl} {z : Int} (h : StyRes base ps ds z []) (b : Below w.heap.size w w') : StyPost w base ps ds (.returned (.tuple #[.slice none 0 0, .int .i64 z])) w' :=
  ⟨_, z, [], rfl, h, .inl ⟨rfl, rfl⟩, b⟩
theorem Strs.ss {w : World} {g n c : Nat} {l : List Sty} (h : Strs w g 33 9 (l.map Sty.cells)) (hn : l.length = n) : Ss w (.slice (some ⟨g, 0, none⟩) n c) l := by
  have h2 : RowN 9 _ w (.slice (some ⟨g, 0, none⟩) n c) ((l.map Sty.cells).map Array.toList) := h.row (by rw [List.length_map]; exact hn)
  rw [List.map_map] at h2
  exact RowN.mono (S := fun b => b < g) (T := fun _ => False) h2 fun _ _ h => h.elim

end Go.Proofs.YtejcfhfmdijimaaDoor
