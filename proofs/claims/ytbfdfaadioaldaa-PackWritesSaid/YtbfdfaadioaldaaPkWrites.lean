/- The walk of the law PackWrites: it answers true. -/
import Derived.Test.YtbfdfaadioaldaaPkGreat
import Derived.Test.YtbfdfaadioaldaaPkHead
namespace Go.Proofs.Ytbfdfaadioaldaa.packWrites
open Go.ChangeShapes Go.WideShapes Go.ChangeAt Go.RowKit

theorem own : ownKnob Try.prog.godebug = none := by kernel_rfl
theorem laidOut : laidOutB Try.prog = true := by kernel_rfl
abbrev F := 3

theorem encs_le : ∀ (l : List Itm), (∀ x ∈ l, x.Ok) → (l.flatMap Itm.enc).length ≤ l.length * 10000009
  | [], _ => by simp
  | a :: r, h => by
    have h1 := a.enc_le (h a (by simp))
    have h2 := encs_le r (fun x hx => h x (by simp [hx]))
    rw [List.flatMap_cons, List.length_append, List.length_cons, Nat.add_mul]
    omega

set_option maxRecDepth 100000 in
set_option maxHeartbeats 4000000 in
theorem walk (u : Value) (l : List Itm) (w : World) (h : Its (fun k => w.heap.size ≤ k) w u l) (hm : l.length ≤ 140737488355328) (hr : ∀ x ∈ l, x.Raw) :
    Calls Try.prog F #[u] w fun e w' => e = .returned (.bool true) ∧ Below w.heap.size w w' := by
  obtain ⟨p, hp⟩ : ∃ p, w.heap.size = p := ⟨_, rfl⟩
  have C := Lib.hid (great_any h hm hr)
  have HSM := Lib.hid (fun hs : Small l => hs.ok hr)
  rw [hp] at h
  obtain ⟨A, c, rfl⟩ := h.form
  have HI := Lib.hid h
  have HP := Lib.hid hp
  clear h hr hp
  go_enter Try.func3, Try.ntmps3
  go_wp2_with fail
  refine C.out.mono ?_
  rintro e w1 ⟨⟨g, rfl, hg⟩, dw⟩
  have B1 : Hid (Below p w w1) := Drawn.below (Below.refl _ _) dw
  have HZ1 : Hid (w1.heap.size = p) := by
    obtain ⟨n, rfl⟩ := dw
    exact HP.out
  clear dw
  cases g with
  | true =>
    clear hg
    go_wp2_with fail
    refine (head_any _).mono ?_
    rintro e w2 ⟨rfl, b2⟩
    have B2 := Lib.hid (B1.out.trans (b2.mono (by rw [HZ1.out]; exact Nat.le_refl _)))
    clear b2
    go_wp2_with fail
    go_ret
    refine ⟨rfl, ?_⟩
    rw [HP.out]
    exact B2.out
  | false =>
    have hsm := hg rfl
    have h40 := hsm.1
    have HOK := Lib.hid (HSM.out hsm)
    clear hg hsm
    go_wp2_with fail
    refine (newWriter_any _).mono ?_
    rintro e w2 ⟨rfl, hw2⟩
    have T2 : Hid (Below p w w2 ∧ Wr w2 p (.slice none 0 0) []) := by
      rw [hw2]
      refine ⟨B1.out.alloc (by rw [HZ1.out]; exact Nat.le_refl _) _, ?_⟩
      have := Wr.new w1
      rwa [HZ1.out] at this
    rw [HZ1.out]
    clear hw2 B1
    go_wp2_with fail
    go_loopg [4, 5] l.length (fun g s4 s5 wx => ∃ (k : Nat) (t : ByteArray) (v' : Value), s4 = .string t ∧ s5 = .int .i64 k ∧ k + g = l.length ∧ Hid (Below p w wx ∧ Wr wx p v' ((l.take k).flatMap Itm.enc) ∧ bs t = (l.take k).flatMap Itm.enc))
    case atStart => exact ⟨0, ByteArray.empty, _, rfl, rfl, by omega, T2.out.1, T2.out.2, rfl⟩
    case round =>
      obtain ⟨k, t, v', rfl, rfl, hk, HT⟩ := hrel
      clear T2
      have hok : ∀ x ∈ l.take k, x.Ok := fun x hx => HOK.out x (List.mem_of_mem_take hx)
      have hle := encs_le (l.take k) hok
      have hlen : (l.take k).length ≤ 40 := by rw [List.length_take]; omega
      have hle2 : ((l.take k).flatMap Itm.enc).length ≤ 400000360 := by omega
      have hts : t.size ≤ 400000360 := by rw [← bs_len, HT.out.2.2]; exact hle2
      clear hle hlen
      by_cases hlt : k < l.length
      · obtain ⟨x, hx⟩ : ∃ x, l[k] = x := ⟨_, rfl⟩
        have hxok : x.Ok := HOK.out x (by rw [← hx]; exact List.getElem_mem hlt)
        obtain ⟨a, cap, o, hA, ha, hcs, hin⟩ := HI.out.get HT.out.1 hlt
        rw [hx] at hcs hin
        injection hA with hA1 hA2 hA3
        subst hA1
        have C2 := Lib.hid (writes_any p v' _ x wr HT.out.2.1 hxok (hin.mono (fun k _ hk => (HT.out.2.1.fp_lt k hk).1)) (by omega))
        have HEX := Lib.hid (x.enc_le hxok)
        have c0 : wr.cell? ⟨a.block, o, none⟩ = some (.int .u8 x.k) := hcs 0 _ rfl
        have c1 : wr.cell? ⟨a.block, o + 1, none⟩ = some (.int .u64 x.n) := hcs 1 _ rfl
        have c2 : wr.cell? ⟨a.block, o + 2, none⟩ = some (.int .i64 x.z) := hcs 2 _ rfl
        have c3 : wr.cell? ⟨a.block, o + 3, none⟩ = some (.bool x.b) := hcs 3 _ rfl
        have c4 : wr.cell? ⟨a.block, o + 4, none⟩ = some (.string x.s) := hcs 4 _ rfl
        have c5 : wr.cell? ⟨a.block, o + 5, none⟩ = some (x.vl) := hcs 5 _ rfl
        have c6 : wr.cell? ⟨a.block, o + 6, none⟩ = some (x.vm) := hcs 6 _ rfl
        have c7 : wr.cell? ⟨a.block, o + 7, none⟩ = some (x.vt) := hcs 7 _ rfl
        have HX := Lib.hid hx
        have hkz : (k : Int) < (l.length : Int) := by omega
        clear hcs hin hxok hok hA2 hA3 hx
        go_wp2_with fail
        refine C2.out.mono ?_
        rintro e w3 ⟨⟨t2, rfl, ht2⟩, v3, hw3⟩
        have ht2s : t2.size ≤ 10000009 := by rw [← bs_len, ht2]; exact HEX.out
        have HT3 : Hid (Below p w w3 ∧ Wr w3 p v3 ((l.take k).flatMap Itm.enc ++ x.enc) ∧ bs t2 = x.enc) := ⟨HT.out.1.trans (hw3.low HT.out.2.1 (Nat.le_refl _)), hw3.wr, ht2⟩
        clear hw3 ht2 c0 c1 c2 c3 c4 c5 c6 c7 C2
        go_wp2_with fail
        go_roundg (l.length - (k + 1))
        case measure => omega
        case rel =>
          have htk : (l.take (k + 1)).flatMap Itm.enc = (l.take k).flatMap Itm.enc ++ x.enc := by
            rw [List.take_succ_eq_append_getElem hlt, HX.out, List.flatMap_append]
            simp
          refine ⟨k + 1, _, v3, rfl, by go_num, by omega, ?_⟩
          rw [htk]
          refine ⟨HT3.out.1, HT3.out.2.1, ?_⟩
          rw [bs_append, HT.out.2.2, HT3.out.2.2]
      · obtain rfl : k = l.length := by omega
        have hlt2 : ∀ b ∈ (l.take l.length).flatMap Itm.enc, b < 256 := fun b hb => by
          obtain ⟨x, hx, hb⟩ := List.mem_flatMap.1 hb
          exact x.enc_lt (hok x hx) b hb
        have C3 := Lib.hid (wbytes_any p v' _ wr HT.out.2.1 hlt2)
        clear hok hlt2
        go_wp2_with fail
        refine C3.out.mono ?_
        rintro e w' ⟨⟨s3, rfl, hs3⟩, rfl⟩
        obtain rfl : s3 = t := bs_inj _ _ (hs3.trans HT.out.2.2.symm)
        clear hs3
        go_wp2_with fail
        refine (head_any _).mono ?_
        rintro e w4 ⟨rfl, b4⟩
        have B4 := Lib.hid (HT.out.1.trans (b4.mono (by have := HT.out.2.1.blk.lt; omega)))
        clear b4
        go_wp2_with fail
        go_ret
        refine ⟨rfl, ?_⟩
        rw [HP.out]
        exact B4.out
end Go.Proofs.Ytbfdfaadioaldaa.packWrites
