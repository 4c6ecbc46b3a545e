/- The landed box (chunk): Text. -/
import Derived.Test.YtiknfohadnjkiaaBuildKW
import Derived.Test.YtiknfohadnjkiaaBuildW
import Derived.Test.YtiknfohadnjkiaaChunkFillM
import Derived.Test.YtiknfohadnjkiaaChunkMath
import Derived.Test.YtiknfohadnjkiaaFrame
import Derived.Test.YtiknfohadnjkiaaGen
import Derived.Test.YtiknfohadnjkiaaGrowIW
import Derived.Test.YtiknfohadnjkiaaLandBox1W
import Derived.Test.YtiknfohadnjkiaaOwnL
import Derived.Test.YtiknfohadnjkiaaRefBoxW
import Derived.Test.YtiknfohadnjkiaaRowN
import Derived.Test.YtiknfohadnjkiaaRows
import Derived.Test.YtiknfohadnjkiaaShelf
import Derived.BigQuiet
import Derived.Deep.QuietTactic
import Derived.Deep.RegionHeld3
import Derived.Laws.OwnMore
import Derived.Laws.ResultCell
import Derived.Lib.Hide
import Derived.Outline
import Derived.WalkKit
import Derived.WalkLawsBesides
import Derived.WalkSpells
set_option linter.unusedVariables false
namespace Go.Proofs.Ytiknfohadnjkiaa
open Go.RowKit

theorem cbldAt_kept {w w' : World} {B b : Nat} {p : Value} {l : List Value} (h : Lib.BuilderAt 71 5 B b p l w) (hb : Below w.heap.size w w') : Lib.BuilderAt 71 5 B b p l w' := by
  obtain ⟨h1, v, hbk, hown, hne⟩ := h
  have hlt : b < w.heap.size := (Array.getElem?_eq_some_iff.1 hbk).1
  exact ⟨h1, v, (hb.block b hlt).trans hbk, own_off hown (Kept.new hb (fun _ => False)) (fun _ _ _ _ => id), hne⟩
theorem cbld_kept {w w' : World} {B b : Nat} {l : List UInt8} (h : Bld w B b l) (hb : Below w.heap.size w w') : Bld w' B b l :=
  h.elim (fun h => .inl (cbldAt_kept h hb)) (fun h => .inr (cbldAt_kept h hb))
theorem cbld_lt {w : World} {B b : Nat} {l : List UInt8} (h : Bld w B b l) : b < w.heap.size := h.elim (fun h => h.lt) (fun h => h.lt)
set_option maxRecDepth 100000 in
set_option maxHeartbeats 2000000 in
theorem text13_any {w : World} {b g c : Nat} {st : BoxS} (h : BXF w b g c st) : Calls Try.prog 21 #[.pointer (some ⟨b, 0, none⟩)] w fun e w' => e = .returned (.tuple #[.string ⟨(textB st).toArray⟩, .int .i64 (textE st)]) ∧ Below w.heap.size w w' := by
  have HD := Lib.hid h
  have OF := Lib.hid (of13_any h)
  obtain ⟨e0, e1, e2⟩ := h.cell
  obtain ⟨hl1, hl2, hl3⟩ := h.len
  have z0 : ((st.length : Int) == 0) = false := by rw [beq_eq_false_iff_ne]; omega
  clear h
  by_cases hl : 0 < leftB st
  · have q1 : textE st = 3 := by unfold textE; rw [if_pos hl]
    have q2 : textB st = [] := by unfold textB; rw [if_pos hl]
    rw [q1, q2]
    have j0 : (0 : Int) < (leftB st : Int) := by omega
    clear q1 q2
    go_enter Try.func21, Try.ntmps21
    go_wp2_with fail
    refine OF.out.mono ?_
    rintro e w1 ⟨rfl, rfl⟩
    go_wp2_with fail
    go_ret2
    exact ⟨rfl, Below.refl _ _⟩
  · have q1 : textE st = 0 := by unfold textE; rw [if_neg hl]
    have q2 : textB st = allB st := by unfold textB; rw [if_neg hl]
    rw [q1, q2]
    have j0 : ¬ (0 : Int) < (leftB st : Int) := by omega
    have hbw := (Below.refl w.heap.size w).alloc (Nat.le_refl _) (.cells #[.pointer none, .slice none 0 0] 71)
    have h2 := HD.out.kept (Kept.new hbw (fun _ => False)) (fun _ _ h => h)
    obtain ⟨a0, a1, a2⟩ := h2.cell
    have HD2 := Lib.hid h2
    have HB2 := Lib.hid hbw
    have GR := Lib.hid (growI_any w.heap.size (allB st).length (w.alloc (.cells #[.pointer none, .slice none 0 0] 71)) (heap_alloc_new _ _) (by omega))
    have HDK := Lib.hid (fun w' (hb : Below w.heap.size w w') => HD.out.kept (Kept.new hb (fun _ => False)) (fun _ _ h => h))
    clear q1 q2 hbw h2 hl
    go_enter Try.func21, Try.ntmps21
    go_wp2_with fail
    refine OF.out.mono ?_
    rintro e w1 ⟨rfl, rfl⟩
    go_wp2_with fail
    generalize w.alloc (.cells #[.pointer none, .slice none 0 0] 71) = w2 at *
    have HBW := Lib.hid HB2.out.size
    generalize hBB : w.heap.size = B at *
    refine GR.out.mono ?_
    rintro e w3 ⟨rfl, hbl3, hb3⟩
    have HBL3 := Lib.hid hbl3
    have HB3 := Lib.hid (HB2.out.trans hb3)
    have HBQ := Lib.hid hBB
    clear hBB
    obtain ⟨a0, _, _⟩ := (HDK.out w3 HB3.out).cell
    clear hbl3 hb3 GR e0 e1 e2 a1 a2 OF HB2 HD HD2
    go_wp2_with fail
    clear a0
    go_loopw [25] (fun v25 wr => ∃ i : Nat, i ≤ st.length ∧ v25 = .int .i64 (i : Nat) ∧ Bld wr B B (allB (st.take i)) ∧ Below B w wr) (fun v25 _ => st.length - (intOf v25).toNat)
    case atStart => exact ⟨0, Nat.zero_le _, rfl, HBL3.out, HB3.out⟩
    case round =>
      clear HB3 HBL3
      obtain ⟨i, hi, rfl, hbl, hbel⟩ := hrel
      have HB := Lib.hid hbel
      have HBL := Lib.hid hbl
      clear hbel hbl
      have i0 : (0 : Int) ≤ (i : Int) := by omega
      by_cases hlt : i < st.length
      · have j1 : (i : Int) < (st.length : Int) := by omega
        obtain ⟨d0, d1, _, _⟩ := (HDK.out wr HB.out).at hlt
        have HT := Lib.hid (allB_take st i hlt)
        have hle := allB_take_le st (i + 1)
        rw [HT.out, List.length_append] at hle
        have HLE := Lib.hid hle
        clear hle
        generalize allB (st.take i) = x at *
        generalize st[i].isSome = y at *
        generalize st[i].getD [] = z at *
        have hbw := (Below.refl wr.heap.size wr).alloc (Nat.le_refl _) (.cells #[.string ⟨z.toArray⟩, .bool y] 68)
        have b2 : (wr.alloc (.cells #[.string ⟨z.toArray⟩, .bool y] 68)).cell? ⟨wr.heap.size, 0, none⟩ = some (.string ⟨z.toArray⟩) := (cell_of_row _ _ _ _ _ _ (heap_alloc_new _ _)).trans rfl
        have HB3 := Lib.hid (HB.out.trans (hbw.mono (by have := HB.out.size; have := HBQ.out; omega)))
        have HBL3 := Lib.hid (cbld_kept HBL.out hbw)
        clear hbw HBL HB
        have WS := Lib.hid (writeStringK_any B B x z _ HBL3.out (by have := HLE.out; omega) (Nat.le_of_lt (cbld_lt HBL3.out)))
        go_wp2_with fail
        refine WS.out.mono ?_
        rintro e w4 ⟨rfl, hbl4, hb4, _⟩
        have HBL4 := Lib.hid hbl4
        have HB4 := Lib.hid (HB3.out.trans (hb4))
        clear hbl4 hb4 HBL3 HB3 WS b2 d0 d1
        go_wp2_with fail
        go_roundw
        case rel => exact ⟨i + 1, by omega, by go_num, by rw [HT.out]; exact HBL4.out, HB4.out⟩
        case measure => simp [intOf]; omega
      · have j1 : ¬ (i : Int) < (st.length : Int) := by omega
        have HN := Lib.hid (show allB (st.take i) = allB st by rw [List.take_of_length_le (by omega)])
        have ST := Lib.hid (Try.Builder_String_any B B _ wr HBL.out (Nat.le_of_lt (cbld_lt HBL.out)))
        rw [HN.out] at ST
        go_wp2_with fail
        refine ST.out.mono ?_
        rintro e w5 ⟨rfl, hb5⟩
        have HB5 := Lib.hid (HB.out.trans (hb5))
        clear hb5
        go_wp2_with fail
        go_ret2
        exact ⟨rfl, by rw [HBQ.out]; exact HB5.out⟩
end Go.Proofs.Ytiknfohadnjkiaa
