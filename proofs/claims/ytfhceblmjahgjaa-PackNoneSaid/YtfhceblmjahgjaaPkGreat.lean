/- A slice of Items in memory; the contract of the laws' own 'great': what is not great is small. -/
import Derived.Test.YtfhceblmjahgjaaPkIt
namespace Go.Proofs.Ytfhceblmjahgjaa
open Go.ChangeShapes Go.WideShapes Go.ChangeAt Go.RowKit

/-- what is known of an Item that came in -/
structure Itm.Raw (x : Itm) : Prop where
  k : x.k ≤ 255
  n : x.n < 18446744073709551616
  z : Pk.OkI x.z
  l : ∀ y ∈ x.l, Pk.OkN y
  m : ∀ y ∈ x.m, Pk.OkI y
  s1 : x.s.size ≤ 140737488355328
  l1 : x.l.length ≤ 140737488355328
  m1 : x.m.length ≤ 140737488355328
  t1 : x.t.length ≤ 140737488355328
  t2 : ∀ s ∈ x.t, s.size ≤ 140737488355328

/-- the slice u reads as the Items l, whose own slices lie in no block of S -/
structure Its (S : Nat → Prop) (w : World) (u : Value) (l : List Itm) : Prop where
  row : (u = .slice none 0 0 ∧ l = []) ∨ ∃ a cap, u = .slice (some a) l.length cap ∧ (l = [] ∨ (a.block < w.heap.size ∧ ¬ S a.block)) ∧ ∀ i (hi : i < l.length) (j : Nat) (c : Value), l[i].cells[j]? = some c → w.cell? (a.add (i * 8 + j)) = some c
  ins : ∀ x ∈ l, x.In S w

theorem add_of_add (a : Addr) (i j : Nat) : (a.add i).add j = a.add (i + j) := by
  rcases Nat.eq_zero_or_pos i with rfl | hi
  · simp [Addr.add]
  · rcases Nat.eq_zero_or_pos j with rfl | hj
    · simp [Addr.add]
    · have h1 : i ≠ 0 := by omega
      have h2 : j ≠ 0 := by omega
      simp [Addr.add, h1, h2, Nat.add_assoc]

/-- an Item's own cells, by plain addresses -/
theorem its_at {w : World} {a : Addr} {l : List Itm} (hc : ∀ i (hi : i < l.length) (j : Nat) (c : Value), l[i].cells[j]? = some c → w.cell? (a.add (i * 8 + j)) = some c) {i : Nat} (hi : i < l.length) :
    ∃ o, a.add (i * 8) = ⟨a.block, o, none⟩ ∧ ∀ j c, l[i].cells[j]? = some c → w.cell? ⟨a.block, o + j, none⟩ = some c := by
  have h0 := hc i hi 0 _ rfl
  rw [Nat.add_zero] at h0
  have hs := World.cell?_spot h0
  have hb := block_of_add a (i * 8)
  obtain ⟨q, hq⟩ : ∃ q, a.add (i * 8) = q := ⟨_, rfl⟩
  rw [hq] at hs hb
  obtain ⟨b, o, sp⟩ := q
  simp only at hs hb
  subst hs hb
  refine ⟨o, hq, fun j c hj => ?_⟩
  have := hc i hi j c hj
  rwa [← add_of_add, hq, Addr.add_lit] at this

theorem Drawn.cell {w w' : World} (h : Drawn w w') (p : Addr) : w'.cell? p = w.cell? p := by
  obtain ⟨n, rfl⟩ := h
  rfl

def Itm.tot (x : Itm) : Nat := x.s.size + x.l.length + x.m.length + x.t.length + (x.t.map ByteArray.size).sum

/-- what is not great -/
def Small (l : List Itm) : Prop := l.length ≤ 40 ∧ (∀ x ∈ l, x.t.length ≤ 100) ∧ (l.map Itm.tot).sum ≤ 4000

theorem sum_le_of (B : Nat) : ∀ (t : List ByteArray), (∀ s ∈ t, s.size ≤ B) → (t.map ByteArray.size).sum ≤ t.length * B
  | [], _ => by simp
  | a :: r, h => by
    have h1 := h a (by simp)
    have h2 := sum_le_of B r (fun s hs => h s (by simp [hs]))
    rw [List.map_cons, List.sum_cons, List.length_cons, Nat.add_mul]
    omega
theorem tot_le (x : Itm) (h : x.Raw) (ht : x.t.length ≤ 100) : x.tot ≤ 14636698788954112 := by
  have h1 := sum_le_of _ x.t h.t2
  have h2 : x.t.length * 140737488355328 ≤ 100 * 140737488355328 := Nat.mul_le_mul_right _ ht
  have := h.s1
  have := h.l1
  have := h.m1
  unfold Itm.tot
  omega
theorem tots_le : ∀ (l : List Itm), (∀ x ∈ l, x.Raw) → (∀ x ∈ l, x.t.length ≤ 100) → (l.map Itm.tot).sum ≤ l.length * 14636698788954112
  | [], _, _ => by simp
  | a :: r, h, ht => by
    have h1 := tot_le a (h a (by simp)) (ht a (by simp))
    have h2 := tots_le r (fun s hs => h s (by simp [hs])) (fun s hs => ht s (by simp [hs]))
    rw [List.map_cons, List.sum_cons, List.length_cons, Nat.add_mul]
    omega

def GPost (w : World) (l : List Itm) (e : Ending) (w' : World) : Prop := (∃ g : Bool, e = .returned (.bool g) ∧ (g = false → Small l)) ∧ Drawn w w'

/-- k Items have been counted: y -/
def Cnt (l : List Itm) (k : Nat) (y : Int) : Prop := l.length ≤ 40 → y = (((l.take k).map Itm.tot).sum : Nat) ∧ ∀ x ∈ l.take k, x.t.length ≤ 100

theorem cnt_step {l : List Itm} {k : Nat} {y y4 y5 : Int} {x : Itm} (h : Cnt l k y) (hk : k < l.length) (hx : l[k] = x) (hr : ∀ x ∈ l, x.Raw) (h4 : ∃ a b c d : Int, IntKind.i64.wrap (y + x.s.size) = a ∧ IntKind.i64.wrap (a + x.l.length) = b ∧ IntKind.i64.wrap (b + x.m.length) = c ∧ IntKind.i64.wrap (c + x.t.length) = d ∧ d = y4)
    (ht : x.t.length ≤ 100) (h5 : l.length ≤ 40 → 0 ≤ y4 → y4 ≤ 1000000000000000000 → y5 = y4 + (x.t.map ByteArray.size).sum) : Cnt l (k + 1) y5 := by
  intro hl
  obtain ⟨h1, h2⟩ := h hl
  obtain ⟨a, b, c, d, ea, eb, ec, ed, e4⟩ := h4
  have hxr := hr x (by rw [← hx]; exact List.getElem_mem hk)
  have hb := tots_le (l.take k) (fun x hx => hr x (List.mem_of_mem_take hx)) h2
  have hlen : (l.take k).length ≤ 40 := by rw [List.length_take]; omega
  have hb2 : (l.take k).length * 14636698788954112 ≤ 40 * 14636698788954112 := Nat.mul_le_mul_right _ hlen
  have i1 := hxr.s1
  have i2 := hxr.l1
  have i3 := hxr.m1
  rw [IntWalk.i64_in _ (by omega)] at ea
  rw [IntWalk.i64_in _ (by omega)] at eb
  rw [IntWalk.i64_in _ (by omega)] at ec
  rw [IntWalk.i64_in _ (by omega)] at ed
  have h6 := h5 hl (by omega) (by omega)
  rw [List.take_succ_eq_append_getElem hk, hx]
  refine ⟨?_, fun z hz => ?_⟩
  · rw [List.map_append, List.sum_append]
    simp only [List.map_cons, List.map_nil, List.sum_cons, List.sum_nil]
    have et : x.tot = x.s.size + x.l.length + x.m.length + x.t.length + (x.t.map ByteArray.size).sum := rfl
    omega
  · rcases List.mem_append.1 hz with hz | hz
    · exact h2 z hz
    · simp at hz
      rw [hz]
      exact ht

set_option maxRecDepth 100000 in
set_option maxHeartbeats 4000000 in
theorem great_some (a : Addr) (cap : Nat) (l : List Itm) (w : World) (hm : l.length ≤ 140737488355328) (hr : ∀ x ∈ l, x.Raw) (S : Nat → Prop) (hin : ∀ x ∈ l, x.In S w)
    (hc : ∀ i (hi : i < l.length) (j : Nat) (c : Value), l[i].cells[j]? = some c → w.cell? (a.add (i * 8 + j)) = some c) :
    Calls Try.prog 10 #[.slice (some a) l.length cap] w (GPost w l) := by
  have HC := Lib.hid hc
  have HR := Lib.hid hr
  have HIN := Lib.hid hin
  clear hc hr hin
  go_enter Try.func10, Try.ntmps10
  go_wp2_with fail
  go_loopg [3, 4] l.length (fun g s3 s4 wx => Drawn w wx ∧ ∃ (k : Nat) (y : Int), s3 = .int .i64 y ∧ s4 = .int .i64 k ∧ k + g = l.length ∧ Hid (Cnt l k y))
  case atStart => exact ⟨Drawn.refl _, 0, 0, rfl, rfl, by omega, fun _ => by simp⟩
  case round =>
    obtain ⟨dw, k, y, rfl, rfl, hk, HY⟩ := hrel
    by_cases hlt : k < l.length
    · obtain ⟨x, hx⟩ : ∃ x, l[k] = x := ⟨_, rfl⟩
      have hmem : x ∈ l := by rw [← hx]; exact List.getElem_mem hlt
      obtain ⟨o, ha, hcs⟩ := its_at HC.out hlt
      rw [hx] at hcs
      have hR := HR.out x hmem
      have hI := HIN.out x hmem
      obtain ⟨Al, cl, hvl⟩ := hI.l.form
      obtain ⟨Am, cm, hvm⟩ := hI.m.form
      obtain ⟨At, ct, hvt⟩ := hI.t.form
      rw [List.length_map] at hvl hvm hvt
      have c4 : wr.cell? ⟨a.block, o + 4, none⟩ = some (.string x.s) := (dw.cell _).trans (hcs 4 _ rfl)
      have c5 : wr.cell? ⟨a.block, o + 5, none⟩ = some (.slice Al x.l.length cl) := by rw [← hvl]; exact (dw.cell _).trans (hcs 5 _ rfl)
      have c6 : wr.cell? ⟨a.block, o + 6, none⟩ = some (.slice Am x.m.length cm) := by rw [← hvm]; exact (dw.cell _).trans (hcs 6 _ rfl)
      have c7 : wr.cell? ⟨a.block, o + 7, none⟩ = some (.slice At x.t.length ct) := by rw [← hvt]; exact (dw.cell _).trans (hcs 7 _ rfl)
      have HXR := Lib.hid hR
      have HROW : Hid (Row S w (.slice At x.t.length ct) (x.t.map fS)) := by rw [← hvt]; exact hI.t
      have HX := Lib.hid hx
      have HA := Lib.hid ha
      have htl := hR.t1
      have hsl := hR.s1
      have hll := hR.l1
      have hml := hR.m1
      have hkm : (k : Int) < (l.length : Int) := by omega
      obtain ⟨y1, e1⟩ : ∃ y1, IntKind.i64.wrap (y + x.s.size) = y1 := ⟨_, rfl⟩
      obtain ⟨y2, e2⟩ : ∃ y2, IntKind.i64.wrap (y1 + x.l.length) = y2 := ⟨_, rfl⟩
      obtain ⟨y3, e3⟩ : ∃ y3, IntKind.i64.wrap (y2 + x.m.length) = y3 := ⟨_, rfl⟩
      obtain ⟨y4, e4⟩ : ∃ y4, IntKind.i64.wrap (y3 + x.t.length) = y4 := ⟨_, rfl⟩
      have HE : Hid (∃ a b c d : Int, IntKind.i64.wrap (y + x.s.size) = a ∧ IntKind.i64.wrap (a + x.l.length) = b ∧ IntKind.i64.wrap (b + x.m.length) = c ∧ IntKind.i64.wrap (c + x.t.length) = d ∧ d = y4) := ⟨y1, y2, y3, y4, e1, e2, e3, e4, rfl⟩
      clear hcs hR hI hvl hvm hvt hx
      go_wp2_with fail
      go_quiet (fail)
      clear e1 e2 e3 e4
      go_wp2_with fail
      obtain ⟨wo, rfl⟩ : ∃ wo : World, wo = wr := ⟨_, rfl⟩
      have DW := Lib.hid dw
      clear dw c4 c5 c6 hsl hll hml
      go_loopg [3, 5] 100 (fun g s3 s5 wx => wo.drewN nq = wx ∧ ∃ (j : Nat) (y' : Int), s3 = .int .i64 y' ∧ s5 = .int .i64 j ∧ j ≤ x.t.length ∧ j + g = 100 ∧ Hid (l.length ≤ 40 → 0 ≤ y4 → y4 ≤ 1000000000000000000 → y' = y4 + (((x.t.take j).map ByteArray.size).sum : Nat)))
      case atStart => exact ⟨rfl, 0, y4, rfl, rfl, by omega, by omega, fun _ _ _ => by simp⟩
      case round =>
        obtain ⟨rfl, j, y', rfl, rfl, hj, hg, HJ⟩ := hrel
        by_cases h1 : j < x.t.length
        · have h1z : (j : Int) < (x.t.length : Int) := by omega
          by_cases h2 : j < 100
          · have h2z : (j : Int) < 100 := by omega
            obtain ⟨tx, htx⟩ : ∃ tx, x.t[j] = tx := ⟨_, rfl⟩
            obtain ⟨at_, cap2, hat, _, _, hcs⟩ := HROW.out.at_ (by simpa using (by omega : 0 < x.t.length))
            injection hat with ha1 ha2 ha3
            subst ha1
            have hcell : wo.cell? (at_.add j) = some (.string tx) := (DW.out.cell _).trans (hcs j _ (by rw [List.getElem?_map, List.getElem?_eq_getElem h1, htx]; rfl))
            have hts : tx.size ≤ 140737488355328 := HXR.out.t2 tx (by rw [← htx]; exact List.getElem_mem h1)
            obtain ⟨y6, e6⟩ : ∃ y6, IntKind.i64.wrap (y' + tx.size) = y6 := ⟨_, rfl⟩
            have HN : Hid (l.length ≤ 40 → 0 ≤ y4 → y4 ≤ 1000000000000000000 → y6 = y4 + (((x.t.take (j + 1)).map ByteArray.size).sum : Nat)) := by
              intro q1 q2 q3
              have h7 := HJ.out q1 q2 q3
              have hb := sum_le_of _ (x.t.take j) (fun s hs => HXR.out.t2 s (List.mem_of_mem_take hs))
              have hlen : (x.t.take j).length ≤ 100 := by rw [List.length_take]; omega
              have hb2 : (x.t.take j).length * 140737488355328 ≤ 100 * 140737488355328 := Nat.mul_le_mul_right _ hlen
              rw [IntWalk.i64_in _ (by omega)] at e6
              rw [List.take_succ_eq_append_getElem h1, htx, List.map_append, List.sum_append]
              simp only [List.map_cons, List.map_nil, List.sum_cons, List.sum_nil]
              omega
            clear hcs htx ha2 ha3
            go_wp2_with fail
            go_roundg (100 - (j + 1))
            case measure => omega
            case rel => exact ⟨rfl, j + 1, y6, rfl, by go_num, by omega, by omega, HN.out⟩
          · have h2z : ¬ (j : Int) < 100 := by omega
            have h2d : decide ((j : Int) < 100) = false := by simp; omega
            have h3 : (100 : Int) < (x.t.length : Int) := by omega
            go_wp2_with fail
            go_ret
            exact ⟨⟨true, rfl, fun h => by cases h⟩, DW.out.drewN _⟩
        · obtain rfl : j = x.t.length := by omega
          have h1d : decide ((x.t.length : Int) < (x.t.length : Int)) = false := by simp
          have h3 : ¬ (100 : Int) < (x.t.length : Int) := by omega
          have hfin := HJ.out
          rw [List.take_length] at hfin
          have HFIN := Lib.hid (cnt_step HY.out hlt HX.out HR.out HE.out (by omega) hfin)
          clear hfin
          go_wp2_with fail
          go_roundg (l.length - (k + 1))
          case measure => omega
          case rel => exact ⟨DW.out.drewN _, k + 1, y', rfl, by go_num, by omega, HFIN.out⟩
    · obtain rfl : k = l.length := by omega
      have hY := HY.out
      unfold Cnt at hY
      rw [List.take_length] at hY
      have HYY := Lib.hid hY
      clear hY
      by_cases h40 : 40 < l.length
      · have hz : (40 : Int) < (l.length : Int) := by omega
        go_wp2_with fail
        go_ret
        exact ⟨⟨true, rfl, fun h => by cases h⟩, dw⟩
      · have hz : ¬ (40 : Int) < (l.length : Int) := by omega
        by_cases h4 : (4000 : Int) < y
        · go_wp2_with fail
          go_ret
          exact ⟨⟨true, retb (by simp), fun h => by cases h⟩, dw⟩
        · go_wp2_with fail
          go_ret
          refine ⟨⟨false, retb (by simp), fun _ => ?_⟩, dw⟩
          obtain ⟨q1, q2⟩ := HYY.out (by omega)
          exact ⟨by omega, q2, by omega⟩

set_option maxRecDepth 100000 in
theorem great_nil (w : World) : Calls Try.prog 10 #[.slice none 0 0] w (GPost w []) := by
  go_enter Try.func10, Try.ntmps10
  go_wp2_with fail
  refine wp_loop_rounds 1 ?_
  rw [rounds_succ]
  go_wp2_with fail
  go_ret
  exact ⟨⟨false, rfl, fun _ => ⟨by simp, by simp, by simp⟩⟩, Drawn.refl _⟩

theorem great_any {S : Nat → Prop} {w : World} {u : Value} {l : List Itm} (h : Its S w u l) (hm : l.length ≤ 140737488355328) (hr : ∀ x ∈ l, x.Raw) : Calls Try.prog 10 #[u] w (GPost w l) := by
  rcases h.row with ⟨rfl, rfl⟩ | ⟨a, cap, rfl, _, hc⟩
  · exact great_nil w
  · exact great_some a cap l w hm hr S h.ins hc

theorem Row.lo {w wx : World} {p : Nat} {v : Value} {xs : List Value} (h : Row (fun k => p ≤ k) w v xs) (b : Below p w wx) : Row (fun k => p ≤ k) wx v xs := by
  rcases h with h | ⟨a, cap, rfl, hb, hc⟩
  · exact .inl h
  · refine .inr ⟨a, cap, rfl, ?_, fun j u hu => ?_⟩
    · rcases hb with hb | ⟨hb, hS⟩
      · exact .inl hb
      · exact .inr ⟨Nat.lt_of_lt_of_le hb b.size, hS⟩
    · rcases hb with rfl | ⟨hb, hS⟩
      · simp at hu
      · rw [b.cell (by rw [block_of_add]; omega)]
        exact hc j u hu
theorem Itm.In.lo {w wx : World} {p : Nat} {x : Itm} (h : x.In (fun k => p ≤ k) w) (b : Below p w wx) : x.In (fun k => p ≤ k) wx := ⟨h.l.lo b, h.m.lo b, h.t.lo b⟩

/-- Items of the input, in a later world -/
theorem Its.get {w wx : World} {p : Nat} {u : Value} {l : List Itm} (h : Its (fun k => p ≤ k) w u l) (b : Below p w wx) {i : Nat} (hi : i < l.length) :
    ∃ a cap o, u = .slice (some a) l.length cap ∧ a.add (i * 8) = ⟨a.block, o, none⟩ ∧ (∀ j c, l[i].cells[j]? = some c → wx.cell? ⟨a.block, o + j, none⟩ = some c) ∧ l[i].In (fun k => p ≤ k) wx := by
  rcases h.row with ⟨_, rfl⟩ | ⟨a, cap, rfl, hb, hc⟩
  · simp at hi
  · obtain ⟨o, ha, hcs⟩ := its_at hc hi
    refine ⟨a, cap, o, rfl, ha, fun j c hj => ?_, (h.ins _ (List.getElem_mem hi)).lo b⟩
    rcases hb with rfl | ⟨_, hb⟩
    · simp at hi
    · rw [b.cell (by show a.block < p; omega)]
      exact hcs j c hj
theorem Its.form {S : Nat → Prop} {w : World} {u : Value} {l : List Itm} (h : Its S w u l) : ∃ A c, u = .slice A l.length c := by
  rcases h.row with ⟨rfl, rfl⟩ | ⟨a, cap, rfl, _⟩
  · exact ⟨_, _, rfl⟩
  · exact ⟨_, _, rfl⟩

/-- what is not great fits -/
theorem Small.ok {l : List Itm} (h : Small l) (hr : ∀ x ∈ l, x.Raw) : ∀ x ∈ l, x.Ok := by
  intro x hx
  have key : ∀ l : List Itm, x ∈ l → x.tot ≤ (l.map Itm.tot).sum := by
    intro l
    induction l with
    | nil => intro h; simp at h
    | cons a r ih =>
      intro h
      rw [List.map_cons, List.sum_cons]
      rcases List.mem_cons.1 h with rfl | h
      · omega
      · have := ih h
        omega
  have h1 := key l hx
  have h2 := h.2.2
  have et : x.tot = x.s.size + x.l.length + x.m.length + x.t.length + (x.t.map ByteArray.size).sum := rfl
  have r := hr x hx
  exact ⟨r.k, r.n, r.z, r.l, r.m, by omega, by omega, by omega, by omega, by omega⟩
end Go.Proofs.Ytfhceblmjahgjaa
