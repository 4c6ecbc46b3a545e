/- The walks of the document's step, Run. -/
import Derived.Test.YtfblkhmhelmjlaaBldShelf
import Derived.Test.YtfblkhmhelmjlaaDelX
import Derived.Test.YtfblkhmhelmjlaaFrame
import Derived.Test.YtfblkhmhelmjlaaGen
import Derived.Test.YtfblkhmhelmjlaaMarkMath
import Derived.Test.YtfblkhmhelmjlaaOwnL
import Derived.Test.YtfblkhmhelmjlaaProg
import Derived.Test.YtfblkhmhelmjlaaRightDW
import Derived.Test.YtfblkhmhelmjlaaRowKeep
import Derived.Test.YtfblkhmhelmjlaaRows
import Derived.Test.YtfblkhmhelmjlaaRunDW
import Derived.Test.YtfblkhmhelmjlaaSignMath
import Derived.Test.YtfblkhmhelmjlaaStepW
import Derived.BigQuiet
import Derived.Deep.QuietTactic
import Derived.IntWalk
import Derived.Laws.Externs
import Derived.Laws.Rows
import Derived.Laws.Tables
import Derived.Lib.AppendStr
import Derived.Lib.Builder
import Derived.Lib.Hide
import Derived.Lib.Strings
import Derived.Lib.Walk
import Derived.Outline
import Derived.WalkKit
import Derived.WalkLawsBesides
import Derived.WalkSpells
set_option linter.unusedVariables false
namespace Go.Proofs.Ytfblkhmhelmjlaa
open Go.RowKit

set_option maxRecDepth 100000 in
set_option maxHeartbeats 1000000 in
theorem refStep_any (x : DSt) (w : World) (h : StOk x) :
    Calls Try.prog 44 #[stV x] w fun e w' => e = .returned (.bool (stS x)) ∧ Below w.heap.size w w' := by
  obtain ⟨p, n, t⟩ := x
  have hp1 := h.p1
  have hp2 := h.p2
  have hn1 := h.l1
  have hn2 := h.l2
  have ht := h.t
  dsimp only at hp1 hp2 hn1 hn2 ht
  have B0 := Lib.hid (below_self_alloc w (stO ⟨p, n, t⟩))
  obtain ⟨c0, c1, c2⟩ := stO_at w ⟨p, n, t⟩
  dsimp only at c0 c1 c2
  rw [Nat.zero_add] at c1 c2
  have TL := Lib.hid (show (⟨t.toArray⟩ : ByteArray).size = t.length from rfl)
  have HR := Lib.hid (show stS ⟨p, n, t⟩ = if t ≠ [] then decide (t.length ≤ 4096 ∧ p = 0 ∧ n = 0) else decide (0 < n ∧ n ≤ 524288 ∧ 0 ≤ p ∧ p ≤ 524288 - n) from rfl)
  generalize stS ⟨p, n, t⟩ = res at *
  clear h
  by_cases h0 : 0 < t.length
  · have hne : t.isEmpty = false := by cases t <;> simp_all
    have HR2 := Lib.hid (show res = decide (t.length ≤ 4096 ∧ p = 0 ∧ n = 0) by rw [HR.out, if_pos (by rintro rfl; simp at h0)])
    clear HR
    by_cases h2 : p = 0
    · have q1 : (p == 0) = true := by simp [h2]
      by_cases h3 : n = 0
      · have q2 : (n == 0) = true := by simp [h3]
        by_cases h1 : t.length ≤ 4096
        · have i1 : (t.length : Int) ≤ 4096 := by omega
          have HRR := Lib.hid (show res = true by rw [HR2.out]; exact decide_eq_true ⟨h1, h2, h3⟩)
          clear h2 h3 HR2
          go_enter Try.func44, Try.ntmps44
          go_wp2
          go_ret
          exact ⟨by rw [HRR.out]; rfl, B0.out⟩
        · have i1 : ¬ (t.length : Int) ≤ 4096 := by omega
          have HRR := Lib.hid (show res = false by rw [HR2.out]; exact decide_eq_false (fun c => h1 c.1))
          clear h2 h3 HR2 h1
          go_enter Try.func44, Try.ntmps44
          go_wp2
          go_ret
          exact ⟨by rw [HRR.out]; rfl, B0.out⟩
      · have q2 : (n == 0) = false := by simp [h3]
        have HRR := Lib.hid (show res = false by rw [HR2.out]; exact decide_eq_false (fun c => h3 c.2.2))
        clear h2 h3 HR2
        go_enter Try.func44, Try.ntmps44
        go_wp2
        go_ret
        exact ⟨by rw [HRR.out]; rfl, B0.out⟩
    · have q1 : (p == 0) = false := by simp [h2]
      have HRR := Lib.hid (show res = false by rw [HR2.out]; exact decide_eq_false (fun c => h2 c.2.1))
      clear h2 HR2
      go_enter Try.func44, Try.ntmps44
      go_wp2
      go_ret
      exact ⟨by rw [HRR.out]; rfl, B0.out⟩
  · obtain rfl : t = [] := List.eq_nil_of_length_eq_zero (by omega)
    have HR2 := Lib.hid (show res = decide (0 < n ∧ n ≤ 524288 ∧ 0 ≤ p ∧ p ≤ 524288 - n) by rw [HR.out, if_neg (by simp)])
    clear HR
    by_cases h1 : 0 < n
    · by_cases h2 : n ≤ 524288
      · by_cases h3 : 0 ≤ p
        · by_cases h4 : p ≤ 524288 - n
          · have HRR := Lib.hid (show res = true by rw [HR2.out]; exact decide_eq_true ⟨h1, h2, h3, h4⟩)
            clear HR2
            go_enter Try.func44, Try.ntmps44
            go_wp2
            go_ret
            exact ⟨by rw [HRR.out]; rfl, B0.out⟩
          · have HRR := Lib.hid (show res = false by rw [HR2.out]; exact decide_eq_false (fun c => h4 c.2.2.2))
            clear HR2
            go_enter Try.func44, Try.ntmps44
            go_wp2
            go_ret
            exact ⟨by rw [HRR.out]; rfl, B0.out⟩
        · have HRR := Lib.hid (show res = false by rw [HR2.out]; exact decide_eq_false (fun c => h3 c.2.2.1))
          clear HR2
          go_enter Try.func44, Try.ntmps44
          go_wp2
          go_ret
          exact ⟨by rw [HRR.out]; rfl, B0.out⟩
      · have HRR := Lib.hid (show res = false by rw [HR2.out]; exact decide_eq_false (fun c => h2 c.2.1))
        clear HR2
        go_enter Try.func44, Try.ntmps44
        go_wp2
        go_ret
        exact ⟨by rw [HRR.out]; rfl, B0.out⟩
    · have HRR := Lib.hid (show res = false by rw [HR2.out]; exact decide_eq_false (fun c => h1 c.1))
      clear HR2
      go_enter Try.func44, Try.ntmps44
      go_wp2
      go_ret
      exact ⟨by rw [HRR.out]; rfl, B0.out⟩

theorem cat_bytes (a b : Txt) : (⟨a.toArray⟩ : ByteArray) ++ ⟨b.toArray⟩ = ⟨(a ++ b).toArray⟩ := by
  apply ByteArray.ext
  simp
/-- Of a step that may be, text and copy stand in either order. -/
theorem piece_swap {basis : Txt} {x : DSt} (h : stS x = true) : pieceS basis x = (basis.drop x.pos.toNat).take x.len.toNat ++ x.txt := by
  unfold pieceS
  unfold stS at h
  split at h
  · have := of_decide_eq_true h
    rw [this.2.2]; simp
  · rename_i c; simp at c; rw [c]; simp

set_option maxRecDepth 100000 in
set_option maxHeartbeats 2000000 in
theorem refRun_any (N : Nat → Prop) (basis : Txt) (v : Value) (l : List DSt) (w : World) (h : RowS N w v l) (hok : ∀ x ∈ l, StOk x) (hl : l.length ≤ 1000000) (hb : basis.length ≤ 1000000) :
    Calls Try.prog 21 #[.string ⟨basis.toArray⟩, v] w (RunDPost w (runG basis l [])) := by
  obtain ⟨a, c, rfl, hc⟩ := h
  have HC := Lib.hid hc; clear hc
  have HK := Lib.hid hok; clear hok
  have SL := Lib.hid (show (⟨basis.toArray⟩ : ByteArray).size = basis.length from rfl)
  obtain ⟨RES, hR⟩ : ∃ R, R = runG basis l [] := ⟨_, rfl⟩
  rw [← hR]
  have HR := Lib.hid hR; clear hR
  go_enter Try.func21, Try.ntmps21
  go_wp2
  go_loopw [6, 7] (fun u i wr => ∃ (k : Nat) (out : Txt), k ≤ l.length ∧ i = .int .i64 k ∧ u = .string ⟨out.toArray⟩ ∧ out.length ≤ 524288 ∧ Hid (runG basis (l.drop k) out = RES) ∧ Below w.heap.size w wr) (fun _ i _ => l.length - (intOf i).toNat)
  case atStart => exact ⟨0, [], by omega, rfl, rfl, by simp, Lib.hid (by rw [List.drop_zero]; exact HR.out.symm), Below.refl _ _⟩
  case round =>
    obtain ⟨k, out, hk, rfl, rfl, hout, hres, hbel⟩ := hrel
    have HB := Lib.hid hbel; clear hbel
    have OL := Lib.hid (show (⟨out.toArray⟩ : ByteArray).size = out.length from rfl)
    by_cases hlt : k < l.length
    · obtain ⟨g, o, rfl, _, hst⟩ := HC.out k hlt
      have hst' := hst.new HB.out
      have HKX := HK.out l[k] (List.getElem_mem hlt)
      have HRES := Lib.hid (show (if stS l[k] = true ∧ l[k].pos + l[k].len ≤ basis.length then (if (out.length : Int) + mkS l[k] ≤ 524288 then runG basis (l.drop (k + 1)) (out ++ pieceS basis l[k]) else (4, [])) else (2, [])) = RES by rw [← run_cons, ← drop_cons l k hlt]; exact hres.out)
      have IS := fun w' => Lib.hid (refStep_any l[k] w' HKX)
      have hp1 := HKX.p1
      have hp2 := HKX.p2
      have hl1 := HKX.l1
      have hl2 := HKX.l2
      have htl := HKX.t
      have hbm := fun (hs : stS l[k] = true) => mk_bound (x := l[k]) hs
      have hpl := Lib.hid (fun (hs : stS l[k] = true) (h2 : l[k].pos + l[k].len ≤ (basis.length : Int)) => piece_len (basis := basis) (x := l[k]) hs h2)
      have hsw := Lib.hid (fun (hs : stS l[k] = true) => piece_swap (basis := basis) (x := l[k]) hs)
      clear hst HKX hres
      generalize l[k] = x at *
      obtain ⟨p, m, t⟩ := x
      dsimp only at hp1 hp2 hl1 hl2 htl HRES hpl hsw
      obtain ⟨e0, e1, e2⟩ := hst'
      dsimp only at e0 e1 e2
      have i1 : (k : Int) < (l.length : Int) := by omega
      have i0 : (0 : Int) ≤ (k : Int) := by omega
      have hbb := below_self_alloc wr (stO ⟨p, m, t⟩)
      have HB2 := Lib.hid (HB.out.trans (hbb.mono HB.out.size))
      obtain ⟨f0, f1, f2⟩ := stO_at wr ⟨p, m, t⟩
      dsimp only at f0 f1 f2
      rw [Nat.zero_add] at f1 f2
      clear hbb
      cases hs : stS ⟨p, m, t⟩ with
      | false =>
        rw [hs] at IS
        have HRR := Lib.hid (show RES = (2, []) by rw [← HRES.out, if_neg (fun c => by rw [hs] at c; exact absurd c.1 (by simp))])
        clear hbm HRES hpl hsw
        go_wp2_with fail
        refine (IS _).out.mono ?_
        rintro e w2 ⟨rfl, hb2⟩
        have HB3 := Lib.hid (HB2.out.trans (hb2.mono HB2.out.size))
        clear hb2
        go_wp2_with fail
        go_ret2
        exact ⟨by rw [HRR.out]; rfl, HB3.out⟩
      | true =>
        rw [hs] at IS
        have hb3 := hbm hs
        have HST := Lib.hid (show stS ⟨p, m, t⟩ = true from hs)
        have hbd : 0 ≤ p ∧ 0 ≤ m ∧ m ≤ 524288 ∧ p ≤ 524288 ∧ t.length ≤ 4096 := by
          unfold stS at hs; dsimp only at hs
          split at hs
          · have := of_decide_eq_true hs; omega
          · rename_i c; have := of_decide_eq_true hs; simp at c; rw [c]; simp; omega
        clear hs hbm
        go_wp2_with fail
        generalize hw1 : wr.alloc (.cells #[.int .i64 p, .int .i64 m, .string ⟨t.toArray⟩] 68) = w1 at *
        clear hw1
        refine (IS _).out.mono ?_
        rintro e w2 ⟨rfl, hb2⟩
        have E0 := (hb2.cell (World.block_lt_of_cell? w1 _ f0)).trans f0
        have E1 := (hb2.cell (World.block_lt_of_cell? w1 _ f1)).trans f1
        have E2 := (hb2.cell (World.block_lt_of_cell? w1 _ f2)).trans f2
        have HB3 := Lib.hid (HB2.out.trans (hb2.mono HB2.out.size))
        clear hb2 f0 f1 f2 e0 e1 e2 IS
        by_cases hin : p + m ≤ basis.length
        · have j1 : ¬ (basis.length : Int) < p + m := by omega
          have HRES2 := Lib.hid (show (if (out.length : Int) + mkS ⟨p, m, t⟩ ≤ 524288 then runG basis (l.drop (k + 1)) (out ++ pieceS basis ⟨p, m, t⟩) else (4, [])) = RES by
            have e := HRES.out
            rw [if_pos (show stS ⟨p, m, t⟩ = true ∧ p + m ≤ (basis.length : Int) from ⟨HST.out, hin⟩)] at e
            exact e)
          have HPL := Lib.hid (hpl.out HST.out hin)
          have HSW := Lib.hid (hsw.out HST.out)
          obtain ⟨pn, hpn⟩ : ∃ pn : Nat, p = (pn : Int) := ⟨p.toNat, by omega⟩
          obtain ⟨mn, hmn⟩ : ∃ mn : Nat, m = (mn : Int) := ⟨m.toNat, by omega⟩
          subst hpn; subst hmn
          obtain ⟨en, hen⟩ : ∃ en, en = pn + mn := ⟨_, rfl⟩
          have WPM : IntKind.i64.wrap ((pn : Int) + (mn : Int)) = (en : Int) := by rw [IntKind.wrap_i64]; omega
          have WPM2 : (pn : Int) + (mn : Int) = (en : Int) := by omega
          have k1 : (pn : Int) ≤ (en : Int) := by omega
          have k2 : (en : Int) ≤ (basis.length : Int) := by omega
          have HSL := Lib.hid (show (⟨basis.toArray⟩ : ByteArray).extract pn en = ⟨((basis.drop pn).take mn).toArray⟩ by rw [slice_toArray, List.drop_take, hen]; congr 3; omega)
          rw [show (pn : Int).toNat = pn from rfl, show (mn : Int).toNat = mn from rfl] at HSW
          rw [HSW.out] at HRES2 HPL
          have hll := HPL.out
          rw [List.length_append] at hll
          obtain ⟨y, hy⟩ : ∃ y, y = mkS ⟨pn, mn, t⟩ := ⟨_, rfl⟩
          rw [← hy] at HRES2 hll hb3
          clear hy HRES hpl hsw hen hin HPL HSW
          generalize (basis.drop pn).take mn = sl at *
          go_wp2_with fail
          go_quiet (fail)
          have hbq := Below_drewN (Below.refl w2.heap.size w2) nq
          have HBQ := Lib.hid (HB3.out.trans (hbq.mono HB3.out.size))
          rw [HSL.out]
          have HCAT := Lib.hid (show (⟨out.toArray⟩ : ByteArray) ++ ⟨sl.toArray⟩ ++ ⟨t.toArray⟩ = ⟨(out ++ (sl ++ t)).toArray⟩ by rw [cat_bytes, cat_bytes, List.append_assoc])
          rw [HCAT.out]
          have OL2 := Lib.hid (show (⟨(out ++ (sl ++ t)).toArray⟩ : ByteArray).size = (out ++ (sl ++ t)).length from rfl)
          have HL2 := Lib.hid (show (out ++ (sl ++ t)).length = out.length + (sl.length + t.length) by simp)
          generalize out ++ (sl ++ t) = out2 at *
          clear hbq E0 E1 E2 HCAT
          generalize w2.drewN nq = w3 at *
          by_cases hlong : out2.length ≤ 524288
          · have q2 : ¬ (524288 : Int) < (out2.length : Int) := by omega
            have HR3 := Lib.hid (show runG basis (l.drop (k + 1)) out2 = RES by rw [← HRES2.out, if_pos (by have := HL2.out; omega)])
            go_wp2_with fail
            go_roundw
            case rel => exact ⟨k + 1, out2, by omega, by go_num, rfl, hlong, HR3, HBQ.out⟩
            case measure => simp [intOf]; omega
          · have q2 : (524288 : Int) < (out2.length : Int) := by omega
            have HRR := Lib.hid (show RES = (4, []) by rw [← HRES2.out, if_neg (by have := HL2.out; omega)])
            go_wp2_with fail
            go_ret2
            exact ⟨by rw [HRR.out]; rfl, HBQ.out⟩
        · have j1 : (basis.length : Int) < p + m := by omega
          have HRR := Lib.hid (show RES = (2, []) by rw [← HRES.out, if_neg (fun c => hin c.2)])
          clear HRES hpl hsw
          go_wp2_with fail
          go_ret2
          exact ⟨by rw [HRR.out]; rfl, HB3.out⟩
    · obtain rfl : k = l.length := by omega
      have i1 : ¬ (l.length : Int) < (l.length : Int) := by omega
      have HRR := Lib.hid (show RES = (0, out) by rw [← hres.out, List.drop_length]; rfl)
      go_wp2_with fail
      go_ret2
      exact ⟨by rw [HRR.out]; rfl, HB.out⟩
end Go.Proofs.Ytfblkhmhelmjlaa
