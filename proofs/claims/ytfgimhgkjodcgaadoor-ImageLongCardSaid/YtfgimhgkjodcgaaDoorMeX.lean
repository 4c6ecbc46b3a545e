/- Several texts in one: MeasIW, OfIW, ImgAwakeW. -/
import Derived.Test.YtfgimhgkjodcgaaDoorArgTree
import Derived.Test.YtfgimhgkjodcgaaDoorTcX
import Derived.Test.YtfgimhgkjodcgaaDoorCodeMath
import Derived.Test.YtfgimhgkjodcgaaDoorCodeNumW
import Derived.Test.YtfgimhgkjodcgaaDoorFrame
import Derived.Test.YtfgimhgkjodcgaaDoorGen
import Derived.Test.YtfgimhgkjodcgaaDoorImgMath
import Derived.Test.YtfgimhgkjodcgaaDoorMarkMath
import Derived.Test.YtfgimhgkjodcgaaDoorOwnL
import Derived.Test.YtfgimhgkjodcgaaDoorProg
import Derived.Test.YtfgimhgkjodcgaaDoorQuietBelow
import Derived.Test.YtfgimhgkjodcgaaDoorReadW
import Derived.Test.YtfgimhgkjodcgaaDoorCkX
import Derived.Test.YtfgimhgkjodcgaaDoorRefImgW
import Derived.Test.YtfgimhgkjodcgaaDoorRowN
import Derived.Test.YtfgimhgkjodcgaaDoorRows
import Derived.Test.YtfgimhgkjodcgaaDoorShelf
import Derived.Test.YtfgimhgkjodcgaaDoorText
import Derived.Test.YtfgimhgkjodcgaaDoorTreeMath
import Derived.BigQuiet
import Derived.BigRegion
import Derived.Deep.Cut
import Derived.Deep.CutBlock
import Derived.Deep.CutRange
import Derived.Deep.DeepCutAuto
import Derived.Deep.QuietTactic
import Derived.Deep.RegionHeld
import Derived.Laws.RangeAny
import Derived.Lib.Hide
import Derived.LoopIn
import Derived.LoopNIn
import Derived.LoopTactic
import Derived.OwnWalkIn
import Derived.RangeFuncBound
import Derived.RangeFuncCalls
import Derived.RangeFuncLeaves
import Derived.RangeFuncNested
import Derived.Shelf.Abstract
import Derived.Shelf.RegionOpen
import Derived.TacticsInMore
import Derived.WalkKit
import Derived.WalkLawsBesides
import Derived.WalkSpells
import Derived.Test.YtfgimhgkjodcgaaDoorArgs3
import Derived.Test.YtfgimhgkjodcgaaDoorBdX
import Derived.Test.YtfgimhgkjodcgaaDoorRefReadW
import Derived.Laws.Externs
import Derived.Lib.AppendStr
import Derived.Lib.Builder
import Derived.Lib.Strings
import Derived.Lib.Walk
import Derived.Outline
/- Landed image: num, measured, Size, walked. -/
set_option linter.unusedVariables false
namespace Go.Proofs.YtfgimhgkjodcgaaDoor
open Go.RowKit

/-- What is told ahead of the bytes, how long all is, what is wrong. -/
structure MeaR where
  s : Txt
  n : Nat
  e : Int
def meaS (l : List FileD) : MeaR := if checkS l ≠ 0 then ⟨[], 0, checkS l⟩ else if 524288 < (imgB l).length then ⟨[], 0, 4⟩ else ⟨nb l.length ++ hdsE l, (imgB l).length, 0⟩
theorem meaS_img (l : List FileD) : (imgS l).2 = (meaS l).e ∧ (imgS l).1.length = (meaS l).n ∧ (imgS l).1 = if (meaS l).e ≠ 0 then [] else (meaS l).s ++ datE l := by
  by_cases h : checkS l = 0
  · by_cases h2 : 524288 < (imgB l).length
    · rw [show imgS l = ([], 4) by unfold imgS; rw [if_neg (fun k => k h), if_pos h2], show meaS l = ⟨[], 0, 4⟩ by unfold meaS; rw [if_neg (fun k => k h), if_pos h2]]
      exact ⟨rfl, rfl, rfl⟩
    · rw [show imgS l = (imgB l, 0) by unfold imgS; rw [if_neg (fun k => k h), if_neg h2], show meaS l = ⟨nb l.length ++ hdsE l, (imgB l).length, 0⟩ by unfold meaS; rw [if_neg (fun k => k h), if_neg h2]]
      exact ⟨rfl, rfl, rfl⟩
  · rw [show imgS l = ([], checkS l) from if_pos h, show meaS l = ⟨[], 0, checkS l⟩ from if_pos h]
    refine ⟨rfl, rfl, ?_⟩
    dsimp only
    rw [if_pos h]
set_option maxRecDepth 100000 in
theorem numI_any (n : Nat) (w : World) (hn : n ≤ 4611686018427387903) :
    Calls Tryd.prog 53 #[.int .i64 n] w fun e w' => e = .returned (.string ⟨(nb n).toArray⟩) ∧ Below w.heap.size w w' := by
  have NB := Lib.hid (num_ok n w hn)
  generalize nb n = b at *
  go_enter Tryd.func53, Tryd.ntmps53
  go_wp2_with fail
  refine NB.out.mono ?_
  rintro e w1 ⟨rfl, hb⟩
  go_wp2_with fail
  go_ret
  exact ⟨rfl, hb⟩
set_option maxRecDepth 100000 in
set_option maxHeartbeats 2000000 in
theorem measured_any (v : Value) (l : List FileD) (w : World) (hrow : RowN encF 3 (fun _ => True) w v l) (hok : ∀ x ∈ l, FileOk x) (hl : l.length ≤ 1000000) :
    Calls Tryd.prog 27 #[v] w fun e w' => e = .returned (.tuple #[.string ⟨(meaS l).s.toArray⟩, .int .i64 ((meaS l).n : Int), .int .i64 (meaS l).e]) ∧ Below w.heap.size w w' := by
  obtain ⟨va, vc, hv, _⟩ := hrow.slice
  subst hv
  have CK := Lib.hid (check_any _ l w hrow hok hl)
  have HRO := Lib.hid hrow
  clear hrow hok
  by_cases hc : checkS l = 0
  · obtain ⟨hl2, hR⟩ := checkS_each hc
    have HR := Lib.hid hR
    have hhd := hdsE_len l hR
    have HME := Lib.hid (show meaS l = if 524288 < (imgB l).length then ⟨[], 0, 4⟩ else ⟨nb l.length ++ hdsE l, (imgB l).length, 0⟩ from if_neg (fun k => k hc))
    rw [hc] at CK
    clear hc hR
    have hnb := (nb_length l.length).2
    have B0 := fun w' => Lib.hid (numI_any l.length w' (by omega))
    have HB0 := Lib.hid (show (imgB l).length = (nb l.length ++ hdsE l).length + (datE l).length from List.length_append)
    generalize meaS l = res at *
    generalize (imgB l).length = ilen at *
    go_enter Tryd.func27, Tryd.ntmps27
    go_wp2_with fail
    refine CK.out.mono ?_
    rintro e w1 ⟨rfl, hb1⟩
    have HB1 := Lib.hid hb1
    clear hb1 CK
    go_wp2_with fail
    refine (B0 _).out.mono ?_
    rintro e w2 ⟨rfl, hb2⟩
    have HB2 := Lib.hid (HB1.out.trans (hb2.mono HB1.out.size))
    clear hb2 B0 HB1
    go_wp2_with fail
    go_loopw [6, 7, 20] (fun v6 v7 v20 wr => ∃ (i n : Nat) (out : Txt), i ≤ l.length ∧ v20 = .int .i64 i ∧ v6 = .string ⟨out.toArray⟩ ∧ v7 = .int .i64 n ∧ Hid (out ++ hdsE (l.drop i) = nb l.length ++ hdsE l) ∧ Hid (n + (datE (l.drop i)).length = (datE l).length) ∧ out.length ≤ 10 + i * 230 ∧ n ≤ i * 65536 ∧ Below w.heap.size w wr) (fun _ _ v20 _ => l.length - (intOf v20).toNat)
    case atStart => exact ⟨0, 0, _, by omega, rfl, rfl, rfl, Lib.hid rfl, Lib.hid (by simp), by omega, by omega, HB2.out⟩
    case round =>
      clear HB2
      obtain ⟨i, n, out, hi, rfl, rfl, rfl, HA, HD0, hol, hnl, hbel⟩ := hrel
      have HB := Lib.hid hbel
      clear hbel
      have i0 : (0 : Int) ≤ (i : Int) := by omega
      by_cases hlt : i < l.length
      · have j1 : (i : Int) < (l.length : Int) := by omega
        obtain ⟨g, o, rfl, hel⟩ := HRO.out.el hlt
        have HX := Lib.hid ((hel i hlt).new HB.out)
        have hx := HR.out l[i] (List.getElem_mem hlt)
        have HD := Lib.hid (show l.drop i = l[i] :: l.drop (i + 1) from List.drop_eq_getElem_cons hlt)
        generalize l[i] = x at *
        obtain ⟨p, md, dt⟩ := x
        obtain ⟨hp, hm0, hm1, hd⟩ := hx
        dsimp only at hp hm0 hm1 hd
        have HN := Lib.hid (show out ++ (nb p.length ++ p ++ nb md.toNat ++ nb dt.length) ++ hdsE (l.drop (i + 1)) = nb l.length ++ hdsE l by
          rw [← HA.out, HD.out]
          show _ = out ++ (tb p ++ nb md.toNat ++ nb dt.length ++ hdsE (l.drop (i + 1)))
          unfold tb
          simp only [List.append_assoc])
        have HN2 := Lib.hid (show (n + dt.length) + (datE (l.drop (i + 1))).length = (datE l).length by
          rw [← HD0.out, HD.out]
          show _ = n + (dt ++ datE (l.drop (i + 1))).length
          rw [List.length_append]
          omega)
        obtain ⟨mdn, hmd⟩ : ∃ mdn : Nat, md = (mdn : Int) := ⟨md.toNat, by omega⟩
        subst hmd
        rw [Int.toNat_natCast] at HN
        have B1 := fun w' => Lib.hid (numI_any p.length w' (by omega))
        have B2 := fun w' => Lib.hid (numI_any mdn w' (by omega))
        have B3 := fun w' => Lib.hid (numI_any dt.length w' (by omega))
        have l1 := (nb_length p.length).2
        have l2 := (nb_length mdn).2
        have l3 := (nb_length dt.length).2
        generalize nb p.length = e1 at *
        generalize nb mdn = e2 at *
        generalize nb dt.length = e3 at *
        have hi256 : i ≤ 256 := by omega
        have k1 : ¬ 9223372036854775807 < e1.length + p.length := by omega
        have k2 : ¬ 9223372036854775807 < e1.length + p.length + e2.length := by omega
        have k3 : ¬ 9223372036854775807 < e1.length + p.length + e2.length + e3.length := by omega
        have k4 : ¬ 9223372036854775807 < out.length + (e1.length + p.length + e2.length + e3.length) := by omega
        have hle : e1.length + p.length + e2.length + e3.length ≤ 230 := by omega
        have k5 : n + dt.length ≤ 20000000 := by omega
        clear hel HA HD HD0
        have c0 := HX.out.f0
        have c1 := HX.out.f1
        have c2 := HX.out.f2
        have hbw := (Below.refl wr.heap.size wr).alloc (Nat.le_refl _) (.cells #[.string ⟨p.toArray⟩, .int .i64 mdn, .string ⟨dt.toArray⟩] 33)
        have HNW := Lib.hid (heap_alloc_new wr (.cells #[.string ⟨p.toArray⟩, .int .i64 mdn, .string ⟨dt.toArray⟩] 33))
        have HB3 := Lib.hid (HB.out.trans (hbw.mono HB.out.size))
        clear hbw
        go_wp2_with fail
        have b0 : (wr.alloc (.cells #[.string ⟨p.toArray⟩, .int .i64 mdn, .string ⟨dt.toArray⟩] 33)).cell? ⟨wr.heap.size, 0, none⟩ = some (.string ⟨p.toArray⟩) := (cell_of_row _ _ _ _ _ _ HNW.out).trans rfl
        have b1 : (wr.alloc (.cells #[.string ⟨p.toArray⟩, .int .i64 mdn, .string ⟨dt.toArray⟩] 33)).cell? ⟨wr.heap.size, 1, none⟩ = some (.int .i64 mdn) := (cell_of_row _ _ _ _ _ _ HNW.out).trans rfl
        have b2 : (wr.alloc (.cells #[.string ⟨p.toArray⟩, .int .i64 mdn, .string ⟨dt.toArray⟩] 33)).cell? ⟨wr.heap.size, 2, none⟩ = some (.string ⟨dt.toArray⟩) := (cell_of_row _ _ _ _ _ _ HNW.out).trans rfl
        clear HNW
        generalize wr.alloc (.cells #[.string ⟨p.toArray⟩, .int .i64 mdn, .string ⟨dt.toArray⟩] 33) = w3 at *
        generalize wr.heap.size = nb0 at *
        have F0 := below_cell b0
        have F1 := below_cell b1
        have F2 := below_cell b2
        refine wp_region_below (by kernel_rfl) (by kernel_rfl) ?_
        repeat (go_big_quiet_step ((first | (go_at_call 53; with_reducible exact below_calls (B1 _).out) | (go_at_call 53; with_reducible exact below_calls (B2 _).out) | (go_at_call 53; with_reducible exact below_calls (B3 _).out))))
        refine wpQuiet_nil ?_
        rintro w5 ⟨⟨w5b, hb5⟩, e5⟩
        have e5' : w5 = w5b := e5
        clear e5
        subst e5'
        have HB5 := Lib.hid (HB3.out.trans (hb5.mono HB3.out.size))
        have c5 := (hb5.cell (p := ⟨nb0, 2, none⟩) (World.block_lt_of_cell? w3 _ b2)).trans b2
        clear F0 F1 F2 hb5 HB3 HX b0 b1 b2 c0 c1 c2 B1 B2 B3
        go_wp2_with fail
        go_roundw
        case rel => exact ⟨i + 1, n + dt.length, out ++ (e1 ++ p ++ e2 ++ e3), by omega, by go_num, by rw [imgcat, imgcat, imgcat, imgcat], by go_num, HN, Lib.hid HN2.out, by simp only [List.length_append]; omega, by omega, HB5.out⟩
        case measure => simp [intOf]; omega
      · obtain rfl : i = l.length := by omega
        have j1 : ¬ (l.length : Int) < (l.length : Int) := by omega
        have HN := Lib.hid (show out = nb l.length ++ hdsE l by rw [← HA.out, List.drop_eq_nil_of_le (Nat.le_refl _)]; simp [hdsE])
        have HN2 := Lib.hid (show n = (datE l).length by have := HD0.out; rw [List.drop_eq_nil_of_le (Nat.le_refl _)] at this; simpa [datE] using this)
        rw [← HN.out, ← HN2.out] at HB0
        have hil := HB0.out
        have hlt2 : l.length ≤ 256 := by omega
        clear HA HD0
        by_cases hbig : 524288 < ilen
        · have jb : (524288 : Int) < (out.length : Int) + (n : Int) := by omega
          have HRE := Lib.hid (show res = ⟨[], 0, 4⟩ by rw [HME.out, if_pos hbig])
          clear hbig
          go_wp2_with fail
          go_ret3
          exact ⟨by rw [HRE.out]; rfl, HB.out⟩
        · have jb : ¬ (524288 : Int) < (out.length : Int) + (n : Int) := by omega
          have HRE := Lib.hid (show res = ⟨out, out.length + n, 0⟩ by rw [HME.out, if_neg hbig, ← HN.out, hil])
          clear hbig
          go_wp2_with fail
          go_ret3
          exact ⟨by rw [HRE.out]; rfl, HB.out⟩
  · have HIM := Lib.hid (show meaS l = ⟨[], 0, checkS l⟩ from if_pos hc)
    have q : (checkS l != 0) = true := by simp [hc]
    generalize checkS l = ce at *
    generalize meaS l = res at *
    clear hc
    go_enter Tryd.func27, Tryd.ntmps27
    go_wp2_with fail
    refine CK.out.mono ?_
    rintro e w1 ⟨rfl, hb1⟩
    go_wp2_with fail
    go_ret3
    exact ⟨by rw [HIM.out]; rfl, hb1⟩
set_option maxRecDepth 100000 in
theorem iSize_any (v : Value) (l : List FileD) (w : World) (hrow : RowN encF 3 (fun _ => True) w v l) (hok : ∀ x ∈ l, FileOk x) (hl : l.length ≤ 1000000) :
    Calls Tryd.prog 14 #[v] w fun e w' => e = .returned (.tuple #[.int .i64 ((imgS l).1.length : Int), .int .i64 (imgS l).2]) ∧ Below w.heap.size w w' := by
  have RP := Lib.hid (measured_any v l w hrow hok hl)
  obtain ⟨h1, h2, _⟩ := meaS_img l
  rw [h1, h2]
  clear h1 h2
  obtain ⟨va, vc, hv, _⟩ := hrow.slice
  subst hv
  generalize meaS l = res at *
  go_enter Tryd.func14, Tryd.ntmps14
  go_wp2_with fail
  refine RP.out.mono ?_
  rintro e w1 ⟨rfl, hb⟩
  go_wp2_with fail
  go_ret2
  exact ⟨rfl, hb⟩
end Go.Proofs.YtfgimhgkjodcgaaDoor
/- Landed image: Of, walked. -/
set_option linter.unusedVariables false
namespace Go.Proofs.YtfgimhgkjodcgaaDoor
open Go.RowKit

theorem ibldAt_kept {w w' : World} {B b : Nat} {p : Value} {l : List Value} (h : Lib.BuilderAt 55 5 B b p l w) (hb : Below w.heap.size w w') : Lib.BuilderAt 55 5 B b p l w' := by
  obtain ⟨h1, v, hbk, hown, hne⟩ := h
  have hlt : b < w.heap.size := (Array.getElem?_eq_some_iff.1 hbk).1
  exact ⟨h1, v, (hb.block b hlt).trans hbk, own_off hown (Kept.new hb (fun _ => False)) (fun _ _ _ _ => id), hne⟩
theorem ibld_kept {w w' : World} {B b : Nat} {l : List UInt8} (h : Bld w B b l) (hb : Below w.heap.size w w') : Bld w' B b l :=
  h.elim (fun h => .inl (ibldAt_kept h hb)) (fun h => .inr (ibldAt_kept h hb))
theorem ibld_lt {w : World} {B b : Nat} {l : List UInt8} (h : Bld w B b l) : b < w.heap.size := h.elim (fun h => h.lt) (fun h => h.lt)
set_option maxRecDepth 100000 in
set_option maxHeartbeats 2000000 in
theorem iOf_any (v : Value) (l : List FileD) (w : World) (hrow : RowN encF 3 (fun _ => True) w v l) (hok : ∀ x ∈ l, FileOk x) (hl : l.length ≤ 1000000) :
    Calls Tryd.prog 12 #[v] w fun e w' => e = .returned (.tuple #[.string ⟨(imgS l).1.toArray⟩, .int .i64 (imgS l).2]) ∧ Below w.heap.size w w' := by
  have ME := Lib.hid (measured_any v l w hrow hok hl)
  obtain ⟨va, vc, hv, _⟩ := hrow.slice
  subst hv
  obtain ⟨h1, h2, h3⟩ := meaS_img l
  have HRO := Lib.hid hrow
  have HLEN := Lib.hid (show (meaS l).e = 0 → (meaS l).n ≤ 524288 ∧ (meaS l).n = (meaS l).s.length + (datE l).length ∧ (∀ x ∈ l, FileR x) by
    intro he
    rw [← h1] at he
    unfold imgS at he
    by_cases hc : checkS l = 0
    · rw [if_neg (fun k => k hc)] at he
      by_cases hg : 524288 < (imgB l).length
      · rw [if_pos hg] at he; cases he
      · rw [show meaS l = ⟨nb l.length ++ hdsE l, (imgB l).length, 0⟩ by unfold meaS; rw [if_neg (fun k => k hc), if_neg hg]]
        exact ⟨by show (imgB l).length ≤ _; omega, List.length_append, (checkS_each hc).2⟩
    · rw [if_pos hc] at he; exact absurd he hc)
  clear hrow hok h2
  generalize imgS l = res at *
  generalize meaS l = me at *
  obtain ⟨ms, mn, mer⟩ := me
  dsimp only at ME h1 h3 HLEN
  by_cases he : mer = 0
  · obtain ⟨hn1, hn2, hR⟩ := HLEN.out he
    have HR := Lib.hid hR
    have hms : ms.length + (datE l).length ≤ 524288 := by omega
    clear hn2
    subst he
    rw [if_neg (by simp)] at h3
    have HRES := Lib.hid (show res = (ms ++ datE l, 0) from Prod.ext h3 h1)
    clear HLEN h1 h3 hR
    go_enter Tryd.func12, Tryd.ntmps12
    go_wp2_with fail
    refine ME.out.mono ?_
    rintro e w1 ⟨rfl, hb1⟩
    have HB1 := Lib.hid hb1
    clear hb1 ME
    have hbw := (Below.refl w1.heap.size w1).alloc (Nat.le_refl _) (.cells #[.pointer none, .slice none 0 0] 55)
    have HB2 := Lib.hid (HB1.out.trans (hbw.mono HB1.out.size))
    have GR := Lib.hid (growI_any w1.heap.size mn (w1.alloc (.cells #[.pointer none, .slice none 0 0] 55)) (heap_alloc_new _ _) (by omega))
    have HBW := Lib.hid HB1.out.size
    clear hbw
    go_wp2_with fail
    generalize w1.alloc (.cells #[.pointer none, .slice none 0 0] 55) = w2 at *
    generalize w1.heap.size = B at *
    refine GR.out.mono ?_
    rintro e w3 ⟨rfl, hbl3, hb3⟩
    have HBL3 := Lib.hid hbl3
    have HB3 := Lib.hid (HB2.out.trans (hb3.mono HBW.out))
    clear hbl3 hb3 GR HB2 HB1
    have WS := Lib.hid (writeStringK_any B B [] ms w3 HBL3.out (by simp; omega) (Nat.le_of_lt (ibld_lt HBL3.out)))
    go_wp2_with fail
    refine WS.out.mono ?_
    rintro e w4 ⟨rfl, hbl4, hb4, _⟩
    have HBL4 := Lib.hid hbl4
    have HB4 := Lib.hid (HB3.out.trans (hb4.mono HBW.out))
    clear hbl4 hb4 HBL3 HB3 WS
    go_wp2_with fail
    go_loopw [25] (fun v25 wr => ∃ (i : Nat) (out : Txt), i ≤ l.length ∧ v25 = .int .i64 i ∧ Bld wr B B out ∧ Hid (out ++ datE (l.drop i) = ms ++ datE l) ∧ Below w.heap.size w wr) (fun v25 _ => l.length - (intOf v25).toNat)
    case atStart => exact ⟨0, _, by omega, rfl, HBL4.out, Lib.hid rfl, HB4.out⟩
    case round =>
      clear HB4 HBL4
      obtain ⟨i, out, hi, rfl, hbl, HA, hbel⟩ := hrel
      have HB := Lib.hid hbel
      have HBL := Lib.hid hbl
      clear hbel hbl
      have i0 : (0 : Int) ≤ (i : Int) := by omega
      have hol : out.length ≤ 524288 := by
        have := congrArg List.length HA.out
        rw [List.length_append, List.length_append] at this
        omega
      by_cases hlt : i < l.length
      · have j1 : (i : Int) < (l.length : Int) := by omega
        obtain ⟨g, o, rfl, hel⟩ := HRO.out.el hlt
        have HX := Lib.hid ((hel i hlt).new HB.out)
        have hx := (HR.out l[i] (List.getElem_mem hlt)).d
        have HD := Lib.hid (show l.drop i = l[i] :: l.drop (i + 1) from List.drop_eq_getElem_cons hlt)
        generalize l[i] = x at *
        obtain ⟨p, md, dt⟩ := x
        dsimp only at hx
        have HN := Lib.hid (show out ++ dt ++ datE (l.drop (i + 1)) = ms ++ datE l by
          rw [← HA.out, HD.out, List.append_assoc]
          rfl)
        clear hel HA HD
        have c0 := HX.out.f0
        have c1 := HX.out.f1
        have c2 := HX.out.f2
        have hbw := (Below.refl wr.heap.size wr).alloc (Nat.le_refl _) (.cells #[.string ⟨p.toArray⟩, .int .i64 md, .string ⟨dt.toArray⟩] 33)
        have b2 : (wr.alloc (.cells #[.string ⟨p.toArray⟩, .int .i64 md, .string ⟨dt.toArray⟩] 33)).cell? ⟨wr.heap.size, 2, none⟩ = some (.string ⟨dt.toArray⟩) := (cell_of_row _ _ _ _ _ _ (heap_alloc_new _ _)).trans rfl
        have HB3 := Lib.hid (HB.out.trans (hbw.mono HB.out.size))
        have HBL3 := Lib.hid (ibld_kept HBL.out hbw)
        clear hbw HBL HB
        have WS := Lib.hid (writeStringK_any B B out dt _ HBL3.out (by omega) (Nat.le_of_lt (ibld_lt HBL3.out)))
        dsimp only at c0 c1 c2
        go_wp2_with fail
        refine WS.out.mono ?_
        rintro e w4 ⟨rfl, hbl4, hb4, _⟩
        have HBL4 := Lib.hid hbl4
        have HB4 := Lib.hid (HB3.out.trans (hb4.mono HBW.out))
        clear hbl4 hb4 HBL3 HB3 WS b2 c0 c1 c2 HX
        go_wp2_with fail
        go_roundw
        case rel => exact ⟨i + 1, out ++ dt, by omega, by go_num, HBL4.out, HN, HB4.out⟩
        case measure => simp [intOf]; omega
      · obtain rfl : i = l.length := by omega
        have j1 : ¬ (l.length : Int) < (l.length : Int) := by omega
        have HN := Lib.hid (show out = ms ++ datE l by rw [← HA.out, List.drop_eq_nil_of_le (Nat.le_refl _)]; simp [datE])
        have ST := Lib.hid (Tryd.Builder_String_any B B out wr HBL.out (Nat.le_of_lt (ibld_lt HBL.out)))
        clear HA
        go_wp2_with fail
        refine ST.out.mono ?_
        rintro e w2 ⟨rfl, hb2⟩
        have HB2 := Lib.hid (HB.out.trans (hb2.mono HBW.out))
        clear hb2
        go_wp2_with fail
        go_ret2
        exact ⟨by rw [HRES.out, HN.out]; rfl, HB2.out⟩
  · have q : (mer != 0) = true := by simp [he]
    rw [if_pos he] at h3
    have HRES := Lib.hid (show res = ([], mer) from Prod.ext h3 h1)
    clear HLEN h1 h3 he
    go_enter Tryd.func12, Tryd.ntmps12
    go_wp2_with fail
    refine ME.out.mono ?_
    rintro e w1 ⟨rfl, hb1⟩
    go_wp2_with fail
    go_ret2
    exact ⟨by rw [HRES.out]; rfl, hb1⟩
end Go.Proofs.YtfgimhgkjodcgaaDoor
/- Awake, few, cut of the laws of stage 10. -/
set_option linter.unusedVariables false
namespace Go.Proofs.YtfgimhgkjodcgaaDoor
open Go.RowKit

def awl : List FileD := [⟨[97], 0, [104, 105]⟩]
theorem awl_img : imgS awl = ([1, 1, 97, 0, 2, 104, 105], 0) := by decide +kernel
theorem awl_row (w : World) : RowN encF 3 (fun _ => True) (w.alloc (.cells (flatN encF awl).toArray 33)) (.slice (some ⟨w.heap.size, 0, none⟩) 1 1) awl := by
  refine ⟨some ⟨w.heap.size, 0, none⟩, 1, rfl, by decide, fun i hi => ⟨w.heap.size, 0, rfl, trivial, fun r u hu => ?_⟩⟩
  rw [cell_of_row _ _ _ _ _ _ (heap_alloc_new _ _), Nat.zero_add, List.getElem?_toArray]
  have hr : r < 3 := by rw [← encF_ok.len awl[i]]; exact (List.getElem?_eq_some_iff.1 hu).1
  rw [flatN_get encF_ok awl i hi r hr]
  exact hu
theorem awl_ok : ∀ x ∈ awl, FileOk x := by
  intro x hx
  simp [awl] at hx
  subst hx
  exact ⟨by simp, by simp, by simp⟩
set_option maxRecDepth 100000 in
theorem awake10_any (w : World) : Calls Tryd.prog 15 #[] w fun e w' => e = .returned (.bool true) ∧ Below w.heap.size w w' := by
  have IM := Lib.hid (iOf_any _ awl _ (awl_row w) awl_ok (by decide))
  rw [awl_img] at IM
  go_enter Tryd.func15, Tryd.ntmps15
  go_wp2_with fail
  refine IM.out.mono ?_
  rintro e w1 ⟨rfl, hb⟩
  have HB := Lib.hid (((Below.refl _ w).alloc (Nat.le_refl _) (.cells (flatN encF awl).toArray 33)).trans (hb.mono (by simp)))
  clear hb
  go_wp2_with fail
  go_ret
  exact ⟨rfl, HB.out⟩
set_option maxRecDepth 100000 in
theorem cut10_any (s : Txt) (w : World) (hs : s.length ≤ 140737488351232) : Calls Tryd.prog 16 #[.string ⟨s.toArray⟩] w fun e w' => e = .returned (.string ⟨(s.take 20000).toArray⟩) ∧ w = w' := by
  have SL := Lib.hid (show (⟨s.toArray⟩ : ByteArray).size = s.length from rfl)
  by_cases h : 20000 < s.length
  · have j : (20000 : Int) < (s.length : Int) := by omega
    have EX := show (⟨s.toArray⟩ : ByteArray).extract 0 20000 = ⟨(s.take 20000).toArray⟩ from by rw [slice_toArray]; simp
    go_enter Tryd.func16, Tryd.ntmps16
    go_wp2_with fail
    go_ret
    exact ⟨rfl, rfl⟩
  · have j : ¬ (20000 : Int) < (s.length : Int) := by omega
    have HT := Lib.hid (show s.take 20000 = s from List.take_of_length_le (by omega))
    go_enter Tryd.func16, Tryd.ntmps16
    go_wp2_with fail
    go_ret
    exact ⟨by rw [HT.out]; rfl, rfl⟩
end Go.Proofs.YtfgimhgkjodcgaaDoor
