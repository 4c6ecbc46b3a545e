/- The walk of Run: what steps make. -/
import Derived.Test.YtfblkhmhelmjlaaBldShelf
import Derived.Test.YtfblkhmhelmjlaaBuildKW
import Derived.Test.YtfblkhmhelmjlaaBuildW
import Derived.Test.YtfblkhmhelmjlaaDelX
import Derived.Test.YtfblkhmhelmjlaaFrame
import Derived.Test.YtfblkhmhelmjlaaGen
import Derived.Test.YtfblkhmhelmjlaaMarkMath
import Derived.Test.YtfblkhmhelmjlaaOwnL
import Derived.Test.YtfblkhmhelmjlaaProg
import Derived.Test.YtfblkhmhelmjlaaTabX
import Derived.Test.YtfblkhmhelmjlaaRightDW
import Derived.Test.YtfblkhmhelmjlaaRowKeep
import Derived.Test.YtfblkhmhelmjlaaRows
import Derived.Test.YtfblkhmhelmjlaaSignMath
import Derived.Test.YtfblkhmhelmjlaaStepW
import Derived.BigQuiet
import Derived.Deep.QuietTactic
import Derived.IntWalk
import Derived.Laws.Rows
import Derived.Laws.Tables
import Derived.Lib.Hide
import Derived.Outline
import Derived.WalkKit
import Derived.WalkLawsBesides
import Derived.WalkSpells
set_option linter.unusedVariables false
namespace Go.Proofs.Ytfblkhmhelmjlaa
open Go.RowKit

theorem bld_new (w : World) : Bld (w.alloc (.cells #[.pointer none, .slice none 0 0] 76)) w.heap.size w.heap.size [] :=
  .inl ⟨Nat.le_refl _, .slice none 0 0, by show (w.heap.push _)[w.heap.size]? = _; simp, World.ownsRow_nil _ _ _ _, by simp [Value.ownBlock]⟩
theorem bldAt_kept {w w' : World} {B b : Nat} {p : Value} {l : List Value} (h : Lib.BuilderAt 76 5 B b p l w) (hb : Below w.heap.size w w') : Lib.BuilderAt 76 5 B b p l w' := by
  have hlt := h.lt
  obtain ⟨hB, v, hbk, hown, hne⟩ := h
  refine ⟨hB, v, (hb.block b hlt).trans hbk, ?_, hne⟩
  refine ⟨hown.1, ?_⟩
  rcases hown.2 with hn | ⟨g, cap, cur, rfl, hg, hgg, rest⟩
  · exact .inl hn
  · exact .inr ⟨g, cap, cur, rfl, hg, (hb.block g (Array.getElem?_eq_some_iff.1 hgg).1).trans hgg, rest⟩
theorem bld_kept {w w' : World} {B b : Nat} {l : List UInt8} (h : Bld w B b l) (hb : Below w.heap.size w w') : Bld w' B b l :=
  h.elim (fun h => .inl (bldAt_kept h hb)) (fun h => .inr (bldAt_kept h hb))
theorem run_cons (basis : Txt) (x : DSt) (l : List DSt) (out : Txt) : runG basis (x :: l) out = if stS x = true ∧ x.pos + x.len ≤ basis.length then (if (out.length : Int) + mkS x ≤ 524288 then runG basis l (out ++ pieceS basis x) else (4, [])) else (2, []) := rfl
theorem drop_cons (l : List DSt) (k : Nat) (hk : k < l.length) : l.drop k = l[k] :: l.drop (k + 1) := List.drop_eq_getElem_cons hk
def RunDPost (w : World) (r : Int × Txt) (e : Ending) (w' : World) : Prop := e = .returned (.tuple #[.string ⟨r.2.toArray⟩, .int .i64 r.1]) ∧ Below w.heap.size w w'

set_option maxRecDepth 100000 in
set_option maxHeartbeats 2000000 in
theorem runD_any (N : Nat → Prop) (basis : Txt) (v : Value) (l : List DSt) (w : World) (h : RowS N w v l) (hok : ∀ x ∈ l, StOk x) (hl : l.length ≤ 1000000) (hb : basis.length ≤ 1000000) :
    Calls Try.prog 20 #[.string ⟨basis.toArray⟩, v] w (RunDPost w (runG basis l [])) := by
  obtain ⟨a, c, rfl, hc⟩ := h
  have HC := Lib.hid hc; clear hc
  have HK := Lib.hid hok; clear hok
  have SL := Lib.hid (show (⟨basis.toArray⟩ : ByteArray).size = basis.length from rfl)
  have B0 := Lib.hid (below_self_alloc w (.cells #[.pointer none, .slice none 0 0] 76))
  have BN := Lib.hid (bld_new w)
  have SZ0 := Lib.hid (show (w.alloc (.cells #[.pointer none, .slice none 0 0] 76)).heap.size = w.heap.size + 1 by simp)
  obtain ⟨RES, hR⟩ : ∃ R, R = runG basis l [] := ⟨_, rfl⟩
  rw [← hR]
  have HR := Lib.hid hR; clear hR
  go_enter Try.func20, Try.ntmps20
  go_wp2
  generalize w.alloc (.cells #[.pointer none, .slice none 0 0] 76) = w0 at *
  go_loopw [11] (fun i wr => ∃ (k : Nat) (out : Txt), k ≤ l.length ∧ i = .int .i64 k ∧ Bld wr w.heap.size w.heap.size out ∧ out.length ≤ 524288 ∧ Hid (runG basis (l.drop k) out = RES) ∧ Below w.heap.size w wr ∧ w.heap.size < wr.heap.size) (fun i _ => l.length - (intOf i).toNat)
  case atStart => exact ⟨0, [], by omega, rfl, BN.out, by simp, Lib.hid (by rw [List.drop_zero]; exact HR.out.symm), B0.out, by have := SZ0.out; omega⟩
  case round =>
    obtain ⟨k, out, hk, rfl, hbld, hout, hres, hbel, hszr⟩ := hrel
    have HB := Lib.hid hbel; clear hbel
    have HBL := Lib.hid hbld; clear hbld
    by_cases hlt : k < l.length
    · obtain ⟨g, o, rfl, _, hst⟩ := HC.out k hlt
      have hst' := hst.new HB.out
      have HKX := HK.out l[k] (List.getElem_mem hlt)
      have HRES := Lib.hid (show (if stS l[k] = true ∧ l[k].pos + l[k].len ≤ basis.length then (if (out.length : Int) + mkS l[k] ≤ 524288 then runG basis (l.drop (k + 1)) (out ++ pieceS basis l[k]) else (4, [])) else (2, [])) = RES by rw [← run_cons, ← drop_cons l k hlt]; exact hres.out)
      have IS := fun w' => Lib.hid (isStep_any l[k] w' HKX)
      have MK := Lib.hid (fun w' (hs : stS l[k] = true) => makes_any l[k] w' hs)
      have hp1 := HKX.p1
      have hp2 := HKX.p2
      have hl1 := HKX.l1
      have hl2 := HKX.l2
      have htl := HKX.t
      have hbm := fun (hs : stS l[k] = true) => mk_bound (x := l[k]) hs
      have hpl := Lib.hid (fun (hs : stS l[k] = true) (h2 : l[k].pos + l[k].len ≤ (basis.length : Int)) => piece_len (basis := basis) (x := l[k]) hs h2)
      clear hst HKX hres
      generalize l[k] = x at *
      obtain ⟨p, m, t⟩ := x
      dsimp only at hp1 hp2 hl1 hl2 htl HRES hpl
      obtain ⟨e0, e1, e2⟩ := hst'
      dsimp only at e0 e1 e2
      have i1 : (k : Int) < (l.length : Int) := by omega
      have i0 : (0 : Int) ≤ (k : Int) := by omega
      have hbb := below_self_alloc wr (stO ⟨p, m, t⟩)
      have HB2 := Lib.hid (HB.out.trans (hbb.mono HB.out.size))
      have HBL2 := Lib.hid (bld_kept HBL.out hbb)
      obtain ⟨f0, f1, f2⟩ := stO_at wr ⟨p, m, t⟩
      have fo := heap_alloc_new wr (stO ⟨p, m, t⟩)
      dsimp only at f0 f1 f2
      rw [Nat.zero_add] at f1 f2
      clear hbb
      cases hs : stS ⟨p, m, t⟩ with
      | false =>
        rw [hs] at IS
        have HRR := Lib.hid (show RES = (2, []) by rw [← HRES.out, if_neg (fun c => by rw [hs] at c; exact absurd c.1 (by simp))])
        clear hbm HRES MK hpl
        go_wp2_with fail
        refine (IS _).out.mono ?_
        rintro e w2 ⟨rfl, hb2⟩
        have HB3 := Lib.hid (HB2.out.trans (hb2.mono HB2.out.size))
        clear hb2 fo
        go_wp2_with fail
        go_ret2
        exact ⟨by rw [HRR.out]; rfl, HB3.out⟩
      | true =>
        rw [hs] at IS
        have hb3 := hbm hs
        have MKX := Lib.hid (fun w' => MK.out w' hs)
        have HHS := Lib.hid hs
        have HST := Lib.hid (show stS ⟨p, m, t⟩ = true from hs)
        have hbd : 0 ≤ p ∧ 0 ≤ m ∧ m ≤ 524288 ∧ p ≤ 524288 := by
          unfold stS at hs; dsimp only at hs
          split at hs
          · have := of_decide_eq_true hs; omega
          · have := of_decide_eq_true hs; omega
        clear hs hbm MK
        go_wp2_with fail
        generalize hw1 : wr.alloc (.cells #[.int .i64 p, .int .i64 m, .string ⟨t.toArray⟩] 68) = w1 at *
        clear hw1
        refine (IS _).out.mono ?_
        rintro e w2 ⟨rfl, hb2⟩
        have E0 := (hb2.cell (World.block_lt_of_cell? w1 _ f0)).trans f0
        have E1 := (hb2.cell (World.block_lt_of_cell? w1 _ f1)).trans f1
        have E2 := (hb2.cell (World.block_lt_of_cell? w1 _ f2)).trans f2
        have FO2 := Lib.hid ((hb2.block _ (Array.getElem?_eq_some_iff.1 fo).1).trans fo)
        have HBL3 := Lib.hid (bld_kept HBL2.out hb2)
        have HB3 := Lib.hid (HB2.out.trans (hb2.mono HB2.out.size))
        clear hb2 f0 f1 f2 e0 e1 e2 fo IS HBL2 HBL
        by_cases hin : p + m ≤ basis.length
        · have j1 : ¬ (basis.length : Int) < p + m := by omega
          have HRES2 := Lib.hid (show (if (out.length : Int) + mkS ⟨p, m, t⟩ ≤ 524288 then runG basis (l.drop (k + 1)) (out ++ pieceS basis ⟨p, m, t⟩) else (4, [])) = RES by
            have e := HRES.out
            rw [if_pos (show stS ⟨p, m, t⟩ = true ∧ p + m ≤ (basis.length : Int) from ⟨HST.out, hin⟩)] at e
            exact e)
          have HPL := Lib.hid (hpl.out HST.out hin)
          have LN := Lib.hid (fun P : BelowOf w2 => (Try.Builder_Len w.heap.size w.heap.size (cellsOf out) P.w (bld_kept HBL3.out P.h)).mono (R' := fun e w' => e = .returned (.int .i64 out.length) ∧ P.w = w') (fun e w' ⟨h1, h2⟩ => ⟨by rw [h1, cellsOf_length], h2.symm⟩))
          obtain ⟨y, hy⟩ : ∃ y, y = mkS ⟨p, m, t⟩ := ⟨_, rfl⟩
          rw [← hy] at HRES2 MKX hb3 HPL
          clear hy HRES hpl HHS
          obtain ⟨z, hz⟩ : ∃ z, z = (out.length : Int) + y := ⟨_, rfl⟩
          rw [← hz] at HRES2
          have WZ : IntKind.i64.wrap ((out.length : Int) + y) = z := by rw [IntKind.wrap_i64]; omega
          have hzn : z = (out.length : Int) + y := hz
          have HZ := Lib.hid hzn
          clear hz hzn
          by_cases hlong : z ≤ 524288
          · have q1 : decide (524288 < z) = false := decide_eq_false (by omega)
            have q2 : ¬ 524288 < z := by omega
            rw [if_pos hlong] at HRES2
            go_wp2_with fail
            have C0 := below_cell E0
            have C1 := below_cell E1
            have C2 := below_cell E2
            refine wp_region_below (by kernel_rfl) (by kernel_rfl) ?_
            repeat (go_big_quiet_step ((first | (go_at_call 41; exact below_calls_same (LN.out _)) | (go_at_call 40; exact below_calls (MKX.out _)))))
            refine wpQuiet_nil ?_
            rintro w6 ⟨⟨w6b, hb6⟩, hw6⟩
            have hw6b : w6 = w6b := hw6
            clear hw6
            subst hw6b
            clear C0 C1 C2 LN MKX
            have G0 := (hb6.cell (World.block_lt_of_cell? w2 _ E0)).trans E0
            have G1 := (hb6.cell (World.block_lt_of_cell? w2 _ E1)).trans E1
            have G2 := (hb6.cell (World.block_lt_of_cell? w2 _ E2)).trans E2
            have FO6 := Lib.hid ((hb6.block _ (Array.getElem?_eq_some_iff.1 FO2.out).1).trans FO2.out)
            have HBL6 := Lib.hid (bld_kept HBL3.out hb6)
            have HB6 := Lib.hid (HB3.out.trans (hb6.mono HB3.out.size))
            clear E0 E1 E2 FO2 HBL3 HB3 hb6
            obtain ⟨pn, hpn⟩ : ∃ pn : Nat, p = (pn : Int) := ⟨p.toNat, by omega⟩
            obtain ⟨mn, hmn⟩ : ∃ mn : Nat, m = (mn : Int) := ⟨m.toNat, by omega⟩
            subst hpn; subst hmn
            obtain ⟨en, hen⟩ : ∃ en, en = pn + mn := ⟨_, rfl⟩
            have WPM : (pn : Int) + (mn : Int) = (en : Int) := by omega
            have k1 : (pn : Int) ≤ (en : Int) := by omega
            have k2 : (en : Int) ≤ (basis.length : Int) := by omega
            have HSL := Lib.hid (show (⟨basis.toArray⟩ : ByteArray).extract pn en = ⟨((basis.drop pn).take mn).toArray⟩ by rw [slice_toArray, List.drop_take, hen]; congr 3; omega)
            have HPC := Lib.hid (show pieceS basis ⟨pn, mn, t⟩ = t ++ (basis.drop pn).take mn from rfl)
            have hll := HPL.out
            rw [HPC.out] at HRES2 hll
            rw [List.length_append] at hll
            clear hen
            generalize (basis.drop pn).take mn = sl at *
            have hsz0 := HB6.out.size
            have hwz := (Array.getElem?_eq_some_iff.1 FO6.out).1
            have W1 := Lib.hid (writeStringK_any w.heap.size w.heap.size out t w6 HBL6.out (by have := HZ.out; omega) hsz0)
            have hne : wr.heap.size ≠ w.heap.size := by omega
            have HLG := Lib.hid hlong
            clear hlong q1 q2 HPC hin j1
            go_wp2_with fail
            refine W1.out.mono ?_
            rintro e w7 ⟨rfl, hbl7, hb7, hk7⟩
            have FO7 := Lib.hid (hk7 _ _ FO6.out hne (fun cs fr e => by injection e with _ e2 _; exact absurd e2 (by decide)))
            have I0 : w7.cell? ⟨wr.heap.size, 0, none⟩ = some (.int .i64 pn) := by rw [cell_of_row _ _ _ _ _ _ FO7.out]; rfl
            have I1 : w7.cell? ⟨wr.heap.size, 1, none⟩ = some (.int .i64 mn) := by rw [cell_of_row _ _ _ _ _ _ FO7.out]; rfl
            have HBL7 := Lib.hid hbl7
            have HB7 := Lib.hid (HB6.out.trans hb7)
            clear hbl7 hb7 hk7 W1 G0 G1 G2 FO6
            go_wp2_with fail
            rw [HSL.out]
            refine (writeStringK_any w.heap.size w.heap.size (out ++ t) sl w7 HBL7.out (by rw [List.length_append]; have := HZ.out; omega) HB7.out.size).mono ?_
            rintro e w8 ⟨rfl, hbl8, hb8, _⟩
            have HBL8 := Lib.hid hbl8
            have HB8 := Lib.hid (HB7.out.trans hb8)
            have HS8 := Lib.hid (show wr.heap.size < w8.heap.size by have := (Array.getElem?_eq_some_iff.1 FO7.out).1; have := hb8.size; omega)
            clear hbl8 hb8
            go_wp2_with fail
            go_roundw
            case rel => exact ⟨k + 1, out ++ (t ++ sl), by omega, by go_num, by rw [← List.append_assoc]; exact HBL8.out, by rw [List.length_append, List.length_append]; have := HZ.out; have := HLG.out; omega, HRES2, HB8.out, by have := HS8.out; omega⟩
            case measure => simp [intOf]; omega
          · have q1 : decide (524288 < z) = true := decide_eq_true (by omega)
            have q2 : 524288 < z := by omega
            rw [if_neg hlong] at HRES2
            go_wp2_with fail
            have C0 := below_cell E0
            have C1 := below_cell E1
            have C2 := below_cell E2
            refine wp_region_below (by kernel_rfl) (by kernel_rfl) ?_
            repeat (go_big_quiet_step ((first | (go_at_call 41; exact below_calls_same (LN.out _)) | (go_at_call 40; exact below_calls (MKX.out _)))))
            refine wpQuiet_nil ?_
            rintro w6 ⟨⟨w6b, hb6⟩, hw6⟩
            have hw6b : w6 = w6b := hw6
            clear hw6
            subst hw6b
            have HB6 := Lib.hid (HB3.out.trans (hb6.mono HB3.out.size))
            clear C0 C1 C2 LN MKX hb6
            go_wp2_with fail
            go_ret2
            exact ⟨by rw [← HRES2.out]; rfl, HB6.out⟩
        · have j1 : (basis.length : Int) < p + m := by omega
          have HRR := Lib.hid (show RES = (2, []) by rw [← HRES.out, if_neg (fun c => hin c.2)])
          clear HRES hpl
          go_wp2_with fail
          go_ret2
          exact ⟨by rw [HRR.out]; rfl, HB3.out⟩
    · obtain rfl : k = l.length := by omega
      have i1 : ¬ (l.length : Int) < (l.length : Int) := by omega
      have HRR := Lib.hid (show RES = (0, out) by rw [← hres.out, List.drop_length]; rfl)
      have ST := Lib.hid (Try.Builder_String_any w.heap.size w.heap.size out wr HBL.out HB.out.size)
      go_wp2_with fail
      refine ST.out.mono ?_
      rintro e w2 ⟨rfl, hb2⟩
      have HB2 := Lib.hid (HB.out.trans hb2)
      clear hb2
      go_wp2_with fail
      go_ret2
      exact ⟨by rw [HRR.out]; rfl, HB2.out⟩
end Go.Proofs.Ytfblkhmhelmjlaa
