/- The walk of the law PackBack: it answers true. -/
import Derived.Test.YtbfdfaadioaldaaPkGreat
import Derived.Test.YtbfdfaadioaldaaPkHead
import Derived.Test.YtbfdfaadioaldaaPkGot
namespace Go.Proofs.Ytbfdfaadioaldaa.packBack
open Go.ChangeShapes Go.WideShapes Go.ChangeAt Go.RowKit

theorem own : ownKnob Try.prog.godebug = none := by kernel_rfl
theorem laidOut : laidOutB Try.prog = true := by kernel_rfl
abbrev F := 5

theorem encs_le : ∀ (l : List Itm), (∀ x ∈ l, x.Ok) → (l.flatMap Itm.enc).length ≤ l.length * 10000009
  | [], _ => by simp
  | a :: r, h => by
    have h1 := a.enc_le (h a (by simp))
    have h2 := encs_le r (fun x hx => h x (by simp [hx]))
    rw [List.flatMap_cons, List.length_append, List.length_cons, Nat.add_mul]
    omega

theorem enc_none (l : List Itm) (h : ∀ x ∈ l, x.Ok) (e : l.flatMap Itm.enc = []) : l = [] := by
  cases l with
  | nil => rfl
  | cons x r =>
    rw [List.flatMap_cons] at e
    exact absurd (List.append_eq_nil_iff.1 e).1 (Pk.enc_ne x.it (x.it_ok (h x (by simp))))

theorem short (l : List Itm) (h : ∀ x ∈ l, x.Ok) (hne : l ≠ []) : Pk.rest (l.map fun x => x.k % 7) (some (l.flatMap Itm.enc).dropLast) = none := by
  have := Pk.rest_short (l.map Itm.it) (by simpa using hne) (fun y hy => by
    obtain ⟨x, hx, rfl⟩ := List.mem_map.1 hy
    exact x.it_ok (h x hx))
  rw [List.map_map, List.flatMap_map] at this
  have e : (Pk.It.kind ∘ Itm.it) = fun x : Itm => x.k % 7 := funext fun x => x.kind
  rw [e] at this
  exact this

set_option maxRecDepth 100000 in
set_option maxHeartbeats 8000000 in
theorem walk (u : Value) (l : List Itm) (w : World) (h : Its (fun k => w.heap.size ≤ k) w u l) (hm : l.length ≤ 140737488355328) (hr : ∀ x ∈ l, x.Raw) :
    Calls Try.prog F #[u] w fun e w' => e = .returned (.bool true) ∧ Below w.heap.size w w' := by
  obtain ⟨p, hp⟩ : ∃ p, w.heap.size = p := ⟨_, rfl⟩
  have C := Lib.hid (great_any h hm hr)
  have HSM := Lib.hid (fun hs : Small l => hs.ok hr)
  rw [hp] at h
  obtain ⟨A, c, rfl⟩ := h.form
  have HI := Lib.hid h
  have HP := Lib.hid hp
  clear h hr hp
  go_enter Try.func5, Try.ntmps5
  go_wp2_with fail
  refine C.out.mono ?_
  rintro e w1 ⟨⟨g, rfl, hg⟩, dw⟩
  have B1 : Hid (Below p w w1) := Drawn.below (Below.refl _ _) dw
  have HZ1 : Hid (w1.heap.size = p) := by
    obtain ⟨n, rfl⟩ := dw
    exact HP.out
  clear dw
  cases g with
  | true =>
    clear hg
    go_wp2_with fail
    refine (head_any _).mono ?_
    rintro e w2 ⟨rfl, b2⟩
    have B2 := Lib.hid (B1.out.trans (b2.mono (by rw [HZ1.out]; exact Nat.le_refl _)))
    clear b2
    go_wp2_with fail
    go_ret
    refine ⟨rfl, ?_⟩
    rw [HP.out]
    exact B2.out
  | false =>
    have hsm := hg rfl
    have h40 := hsm.1
    have HOK := Lib.hid (HSM.out hsm)
    have hle := encs_le l HOK.out
    have HLE : Hid ((l.flatMap Itm.enc).length ≤ 400000360) := by show _ ≤ _; omega
    clear hg hsm hle
    go_wp2_with fail
    refine (newWriter_any _).mono ?_
    rintro e w2 ⟨rfl, hw2⟩
    have T2 : Hid (Below p w w2 ∧ Wr w2 p (.slice none 0 0) []) := by
      rw [hw2]
      refine ⟨B1.out.alloc (by rw [HZ1.out]; exact Nat.le_refl _) _, ?_⟩
      have := Wr.new w1
      rwa [HZ1.out] at this
    rw [HZ1.out]
    clear hw2 B1
    go_wp2_with fail
    go_loopg [4] l.length (fun g s4 wx => ∃ (k : Nat) (v' : Value), s4 = .int .i64 k ∧ k + g = l.length ∧ Hid (Below p w wx ∧ Wr wx p v' ((l.take k).flatMap Itm.enc)))
    case atStart => exact ⟨0, _, rfl, by omega, T2.out.1, T2.out.2⟩
    case round =>
      obtain ⟨k, v', rfl, hk, HT⟩ := hrel
      clear T2
      have hle2 : ((l.take k).flatMap Itm.enc).length ≤ 400000360 := by
        have := encs_le (l.take k) (fun x hx => HOK.out x (List.mem_of_mem_take hx))
        have hlen : (l.take k).length ≤ 40 := by rw [List.length_take]; omega
        omega
      by_cases hlt : k < l.length
      · skip
        obtain ⟨x, hx⟩ : ∃ x, l[k] = x := ⟨_, rfl⟩
        have hxok : x.Ok := HOK.out x (by rw [← hx]; exact List.getElem_mem hlt)
        obtain ⟨a, cap, o, hA, ha, hcs, hin⟩ := HI.out.get HT.out.1 hlt
        rw [hx] at hcs hin
        injection hA with hA1 hA2 hA3
        subst hA1
        have c0 : wr.cell? ⟨a.block, o, none⟩ = some (.int .u8 x.k) := hcs 0 _ rfl
        have c1 : wr.cell? ⟨a.block, o + 1, none⟩ = some (.int .u64 x.n) := hcs 1 _ rfl
        have c2 : wr.cell? ⟨a.block, o + 2, none⟩ = some (.int .i64 x.z) := hcs 2 _ rfl
        have c3 : wr.cell? ⟨a.block, o + 3, none⟩ = some (.bool x.b) := hcs 3 _ rfl
        have c4 : wr.cell? ⟨a.block, o + 4, none⟩ = some (.string x.s) := hcs 4 _ rfl
        have c5 : wr.cell? ⟨a.block, o + 5, none⟩ = some (x.vl) := hcs 5 _ rfl
        have c6 : wr.cell? ⟨a.block, o + 6, none⟩ = some (x.vm) := hcs 6 _ rfl
        have c7 : wr.cell? ⟨a.block, o + 7, none⟩ = some (x.vt) := hcs 7 _ rfl
        have HX := Lib.hid hx
        have hkz : (k : Int) < (l.length : Int) := by omega
        have C2 := Lib.hid (writes_any p v' _ x wr HT.out.2 hxok (hin.mono (fun k _ hk => (HT.out.2.fp_lt k hk).1)) (by omega))
        clear hcs hin hxok hA2 hA3 hx hle2
        go_wp2_with fail
        refine C2.out.mono ?_
        rintro e w3 ⟨⟨t2, rfl, ht2⟩, v3, hw3⟩
        have HT3 : Hid (Below p w w3 ∧ Wr w3 p v3 ((l.take k).flatMap Itm.enc ++ x.enc)) := ⟨HT.out.1.trans (hw3.low HT.out.2 (Nat.le_refl _)), hw3.wr⟩
        clear hw3 ht2 c0 c1 c2 c3 c4 c5 c6 c7 C2
        go_wp2_with fail
        go_roundg (l.length - (k + 1))
        case measure => omega
        case rel =>
          have htk : (l.take (k + 1)).flatMap Itm.enc = (l.take k).flatMap Itm.enc ++ x.enc := by
            rw [List.take_succ_eq_append_getElem hlt, HX.out, List.flatMap_append]
            simp
          refine ⟨k + 1, v3, by go_num, by omega, ?_⟩
          rw [htk]
          exact HT3.out
      · obtain rfl : k = l.length := by omega
        have hT := HT.out
        rw [List.take_length] at hT
        have hlt2 : ∀ b ∈ l.flatMap Itm.enc, b < 256 := fun b hb => by
          obtain ⟨x, hx, hb⟩ := List.mem_flatMap.1 hb
          exact x.enc_lt (HOK.out x hx) b hb
        have C3 := Lib.hid (wbytes_any p v' _ wr hT.2 hlt2)
        have BEL := Lib.hid hT.1
        have hpz : p < wr.heap.size := hT.2.blk.lt
        clear hlt2 hT HT hle2
        go_wp2_with fail
        refine C3.out.mono ?_
        rintro e w' ⟨⟨b, rfl, hb⟩, rfl⟩
        have HB := Lib.hid hb
        have hbs : b.size ≤ 400000360 := by rw [← bs_len, hb]; exact HLE.out
        clear hb C3
        go_wp2_with fail
        refine (newReader_any b wr).mono ?_
        rintro e w4 ⟨rfl, hw4⟩
        obtain ⟨r, hr⟩ : ∃ r, wr.heap.size = r := ⟨_, rfl⟩
        have hpr : p < r := by omega
        have T4 : Hid (Below p w w4 ∧ Rdx w4 r (some (l.flatMap Itm.enc))) := by
          rw [hw4]
          refine ⟨BEL.out.alloc (by omega) _, ?_⟩
          rw [← hr, ← HB.out]
          exact ⟨b, Rd.new b wr, by omega⟩
        rw [hr]
        clear hw4 hr BEL hpz
        go_wp2_with fail
        go_loopg [7] l.length (fun g s7 wx => ∃ (k : Nat), s7 = .int .i64 k ∧ k + g = l.length ∧ Hid (Below p w wx ∧ Rdx wx r (some ((l.drop k).flatMap Itm.enc))))
        case atStart => exact ⟨0, rfl, by omega, T4.out⟩
        case round =>
          obtain ⟨k, rfl, hk, HT⟩ := hrel
          clear T4
          by_cases hlt : k < l.length
          · skip
            obtain ⟨x, hx⟩ : ∃ x, l[k] = x := ⟨_, rfl⟩
            have hxok : x.Ok := HOK.out x (by rw [← hx]; exact List.getElem_mem hlt)
            obtain ⟨a, cap, o, hA, ha, hcs, hin⟩ := HI.out.get HT.out.1 hlt
            rw [hx] at hcs hin
            injection hA with hA1 hA2 hA3
            subst hA1
            have c0 : wr.cell? ⟨a.block, o, none⟩ = some (.int .u8 x.k) := hcs 0 _ rfl
            have c1 : wr.cell? ⟨a.block, o + 1, none⟩ = some (.int .u64 x.n) := hcs 1 _ rfl
            have c2 : wr.cell? ⟨a.block, o + 2, none⟩ = some (.int .i64 x.z) := hcs 2 _ rfl
            have c3 : wr.cell? ⟨a.block, o + 3, none⟩ = some (.bool x.b) := hcs 3 _ rfl
            have c4 : wr.cell? ⟨a.block, o + 4, none⟩ = some (.string x.s) := hcs 4 _ rfl
            have c5 : wr.cell? ⟨a.block, o + 5, none⟩ = some (x.vl) := hcs 5 _ rfl
            have c6 : wr.cell? ⟨a.block, o + 6, none⟩ = some (x.vm) := hcs 6 _ rfl
            have c7 : wr.cell? ⟨a.block, o + 7, none⟩ = some (x.vt) := hcs 7 _ rfl
            have HX := Lib.hid hx
            have hkz : (k : Int) < (l.length : Int) := by omega
            have C2 := Lib.hid (got_any r _ x wr HT.out.2 hxok (hin.mono (fun k _ hk => by have : k = r := hk; omega)))
            have hdr : (l.drop k).flatMap Itm.enc = x.enc ++ (l.drop (k + 1)).flatMap Itm.enc := by
              rw [List.drop_eq_getElem_cons hlt, hx, List.flatMap_cons]
            have hrd : Pk.rd (x.k % 7) (some ((l.drop k).flatMap Itm.enc)) = (x.it, some ((l.drop (k + 1)).flatMap Itm.enc)) := by
              rw [hdr, ← x.kind]
              exact Pk.rd_back x.it _ (x.it_ok hxok)
            rw [hrd] at C2
            have hrz : r < wr.heap.size := HT.out.2.lt
            clear hcs hin hxok hA2 hA3 hx hrd hdr
            go_wp2_with fail
            refine C2.out.mono ?_
            rintro e w5 ⟨⟨bb, rfl, hbb⟩, hx5, hm5⟩
            obtain rfl := hbb rfl
            have HT5 : Hid (Below p w w5 ∧ Rdx w5 r (some ((l.drop (k + 1)).flatMap Itm.enc))) := ⟨HT.out.1.trans (hm5.below (by omega) (fun k hk => by have : k = r := hk; omega)), hx5⟩
            obtain ⟨s5, hr5, _⟩ := hx5
            have C5 := Lib.hid (rfine_any r _ s5 w5 hr5)
            clear hm5 hr5 hbb c0 c1 c2 c3 c4 c5 c6 c7 C2
            go_wp2_with fail
            refine C5.out.mono ?_
            rintro e w' ⟨rfl, rfl⟩
            go_wp2_with fail
            go_roundg (l.length - (k + 1))
            case measure => omega
            case rel => exact ⟨k + 1, by go_num, by omega, HT5.out⟩
          · obtain rfl : k = l.length := by omega
            have hT := HT.out
            rw [List.drop_length] at hT
            obtain ⟨hbel, hx5⟩ := hT
            have hrz : r < wr.heap.size := hx5.lt
            obtain ⟨s5, hr5, _⟩ := hx5
            obtain rfl : s5 = ByteArray.empty := bs_nil s5 (by rw [← bs_len, show bs s5 = [] from hr5.left]; rfl)
            have CE := Lib.hid (rend_any r _ _ wr hr5)
            have CL := Lib.hid (rleft_any r _ _ wr hr5)
            have BEL := Lib.hid hbel
            clear hbel hr5 HT
            by_cases hb0 : b.size = 0
            · have hl0 : l = [] := enc_none l HOK.out (by rw [← HB.out]; exact List.length_eq_zero_iff.1 (by rw [bs_len]; exact hb0))
              obtain rfl := bs_nil b hb0
              have hll : (l.length : Int) = 0 := by rw [hl0]; rfl
              clear hl0 hb0
              go_wp2_with fail
              refine CE.out.mono ?_
              rintro e w' ⟨rfl, rfl⟩
              go_wp2_with fail
              refine CL.out.mono ?_
              rintro e w' ⟨rfl, rfl⟩
              go_wp2_with fail
              refine CE.out.mono ?_
              rintro e w' ⟨rfl, rfl⟩
              go_wp2_with fail
              refine (head_any _).mono ?_
              rintro e w6 ⟨rfl, b6⟩
              have B6 := Lib.hid (BEL.out.trans (b6.mono (by omega)))
              clear b6
              go_wp2_with fail
              go_ret
              refine ⟨rfl, ?_⟩
              rw [HP.out]
              exact B6.out
            · have hbz : ((b.size : Int) == 0) = false := beq_eq_false_iff_ne.2 (by omega)
              have hne : l ≠ [] := fun e => hb0 (by rw [← bs_len, HB.out, e]; rfl)
              have SH := Lib.hid (short l HOK.out hne)
              have HE : Hid (bs (b.extract 0 (b.size - 1)) = (l.flatMap Itm.enc).dropLast) := by
                show _ = _
                rw [bs_extract, List.drop_zero, Nat.sub_zero, HB.out, List.dropLast_eq_take, ← HB.out, bs_len]
              have HES : Hid ((b.extract 0 (b.size - 1)).size ≤ 1000000000) := by
                show _ ≤ _
                rw [← bs_len, bs_extract, List.drop_zero, List.length_take, bs_len]
                omega
              clear hne
              have hbp : 0 < b.size := by omega
              have e1 : ((b.size : Int) - 1).toNat = b.size - 1 := by omega
              go_wp2_with fail
              refine CE.out.mono ?_
              rintro e w' ⟨rfl, rfl⟩
              go_wp2_with fail
              refine CL.out.mono ?_
              rintro e w' ⟨rfl, rfl⟩
              go_wp2_with fail
              refine (newReader_any _ wr).mono ?_
              rintro e w6 ⟨rfl, hw6⟩
              obtain ⟨r2, hr2⟩ : ∃ r2, wr.heap.size = r2 := ⟨_, rfl⟩
              have hpr2 : p < r2 := by omega
              have T6 : Hid (Below p w w6 ∧ Rdx w6 r2 (some (l.flatMap Itm.enc).dropLast)) := by
                rw [hw6]
                refine ⟨BEL.out.alloc (by omega) _, ?_⟩
                rw [← hr2, ← HE.out]
                exact ⟨_, Rd.new _ wr, HES.out⟩
              rw [hr2]
              clear hw6 hr2 BEL hrz CE CL
              go_wp2_with fail
              go_loopg [9] l.length (fun g s9 wx => ∃ (k : Nat) (q : Pk.Left), s9 = .int .i64 k ∧ k + g = l.length ∧ Hid (Below p w wx ∧ Rdx wx r2 q ∧ Pk.rest ((l.drop k).map fun x => x.k % 7) q = none))
              case atStart => exact ⟨0, _, rfl, by omega, T6.out.1, T6.out.2, SH.out⟩
              case round =>
                obtain ⟨k, q, rfl, hk, HT⟩ := hrel
                clear T6
                by_cases hlt : k < l.length
                · skip
                  obtain ⟨x, hx⟩ : ∃ x, l[k] = x := ⟨_, rfl⟩
                  have hxok : x.Ok := HOK.out x (by rw [← hx]; exact List.getElem_mem hlt)
                  obtain ⟨a, cap, o, hA, ha, hcs, hin⟩ := HI.out.get HT.out.1 hlt
                  rw [hx] at hcs hin
                  injection hA with hA1 hA2 hA3
                  subst hA1
                  have c0 : wr.cell? ⟨a.block, o, none⟩ = some (.int .u8 x.k) := hcs 0 _ rfl
                  have c1 : wr.cell? ⟨a.block, o + 1, none⟩ = some (.int .u64 x.n) := hcs 1 _ rfl
                  have c2 : wr.cell? ⟨a.block, o + 2, none⟩ = some (.int .i64 x.z) := hcs 2 _ rfl
                  have c3 : wr.cell? ⟨a.block, o + 3, none⟩ = some (.bool x.b) := hcs 3 _ rfl
                  have c4 : wr.cell? ⟨a.block, o + 4, none⟩ = some (.string x.s) := hcs 4 _ rfl
                  have c5 : wr.cell? ⟨a.block, o + 5, none⟩ = some (x.vl) := hcs 5 _ rfl
                  have c6 : wr.cell? ⟨a.block, o + 6, none⟩ = some (x.vm) := hcs 6 _ rfl
                  have c7 : wr.cell? ⟨a.block, o + 7, none⟩ = some (x.vt) := hcs 7 _ rfl
                  have HX := Lib.hid hx
                  have hkz : (k : Int) < (l.length : Int) := by omega
                  have C2 := Lib.hid (got_any r2 q x wr HT.out.2.1 hxok (hin.mono (fun k _ hk => by have : k = r2 := hk; omega)))
                  have HRS : Hid (Pk.rest ((l.drop (k + 1)).map fun x => x.k % 7) (Pk.rd (x.k % 7) q).2 = none) := by
                    have := HT.out.2.2
                    rw [List.drop_eq_getElem_cons hlt, hx, List.map_cons, Pk.rest] at this
                    exact this
                  have hrz : r2 < wr.heap.size := HT.out.2.1.lt
                  clear hcs hin hxok hA2 hA3 hx
                  go_wp2_with fail
                  refine C2.out.mono ?_
                  rintro e w7 ⟨⟨bb, rfl, hbb⟩, hx7, hm7⟩
                  have HT7 : Hid (Below p w w7 ∧ Rdx w7 r2 (Pk.rd (x.k % 7) q).2 ∧ Pk.rest ((l.drop (k + 1)).map fun x => x.k % 7) (Pk.rd (x.k % 7) q).2 = none) := ⟨HT.out.1.trans (hm7.below (by omega) (fun k hk => by have : k = r2 := hk; omega)), hx7, HRS.out⟩
                  clear hm7 hx7 hbb c0 c1 c2 c3 c4 c5 c6 c7 C2
                  go_wp2_with fail
                  go_roundg (l.length - (k + 1))
                  case measure => omega
                  case rel => exact ⟨k + 1, _, by go_num, by omega, HT7.out⟩
                · obtain rfl : k = l.length := by omega
                  have hT := HT.out
                  rw [List.drop_length] at hT
                  obtain ⟨hbel, hx8, hq⟩ := hT
                  obtain rfl : q = none := hq
                  have hr8 := rdx_none hx8
                  have hrz : r2 < wr.heap.size := hx8.lt
                  have CF := Lib.hid (rfine_any r2 _ _ wr hr8)
                  have CE := Lib.hid (rend_any r2 _ _ wr hr8)
                  have BEL := Lib.hid hbel
                  clear hbel hr8 hx8 HT
                  go_wp2_with fail
                  refine CF.out.mono ?_
                  rintro e w' ⟨rfl, rfl⟩
                  go_wp2_with fail
                  refine CE.out.mono ?_
                  rintro e w' ⟨rfl, rfl⟩
                  go_wp2_with fail
                  refine (head_any _).mono ?_
                  rintro e w9 ⟨rfl, b9⟩
                  have B9 := Lib.hid (BEL.out.trans (b9.mono (by omega)))
                  clear b9
                  go_wp2_with fail
                  go_ret
                  refine ⟨rfl, ?_⟩
                  rw [HP.out]
                  exact B9.out
end Go.Proofs.Ytbfdfaadioaldaa.packBack
