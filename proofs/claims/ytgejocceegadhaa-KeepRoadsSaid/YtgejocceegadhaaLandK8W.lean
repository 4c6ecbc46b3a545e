/- Landed keep: a list of the call's own turned round by the library. -/
import Derived.Test.YtgejocceegadhaaGen
import Derived.Test.YtgejocceegadhaaKeepMath
import Derived.Test.YtgejocceegadhaaOwnPut
import Derived.Test.YtgejocceegadhaaRowN
import Derived.Test.YtgejocceegadhaaRows
import Derived.BigQuiet
import Derived.BigRegion
import Derived.ChangeAlike
import Derived.Deep.QuietTactic
import Derived.Lib.Hide
import Derived.OpenShut
import Derived.Outline
import Derived.ProofKit
import Derived.RegionTactic
import Derived.ShutString
import Derived.SizedLaws
import Derived.SliceStrings
import Derived.WalkKit
import Derived.WalkLawsBesides
import Derived.WalkSpells
set_option linter.unusedVariables false
namespace Go.Proofs.Ytgejocceegadhaa
open Go.RowKit

/-- A generation of an own list, stored whole. -/
def setGn (w : World) (g i : Nat) (x : GenD) : World := (((w.setCell ⟨g, i * 4, none⟩ (.int .i64 x.gen)).setCell ⟨g, i * 4 + 1, none⟩ (.int .i64 x.basis)).setCell ⟨g, i * 4 + 2, none⟩ (.int .i64 x.bytes)).setCell ⟨g, i * 4 + 3, none⟩ (.string ⟨x.mark.toArray⟩)
theorem own_setGn {w : World} {base : Nat} {e : TypeId} {g n c : Nat} {xs : List GenD} (h : OwnN encGn 4 w base e (.slice (some ⟨g, 0, none⟩) n c) xs) (i : Nat) (x : GenD) (hi : i < xs.length) :
    OwnN encGn 4 (setGn w g i x) base e (.slice (some ⟨g, 0, none⟩) n c) (xs.set i x) ∧ Kept (· = g) w (setGn w g i x) := by
  obtain ⟨a1, a2⟩ := OwnN.putB encGn_ok h i 0 (.int .i64 x.gen) ⟨x.gen, xs[i].basis, xs[i].bytes, xs[i].mark⟩ hi (by decide) rfl
  obtain ⟨b1, b2⟩ := OwnN.putB encGn_ok a1 i 1 (.int .i64 x.basis) ⟨x.gen, x.basis, xs[i].bytes, xs[i].mark⟩ (by rw [List.length_set]; exact hi) (by decide) (by rw [List.getElem_set, if_pos rfl]; rfl)
  obtain ⟨c1, c2⟩ := OwnN.putB encGn_ok b1 i 2 (.int .i64 x.bytes) ⟨x.gen, x.basis, x.bytes, xs[i].mark⟩ (by rw [List.length_set, List.length_set]; exact hi) (by decide) (by rw [List.getElem_set, if_pos rfl]; rfl)
  obtain ⟨d1, d2⟩ := OwnN.putB encGn_ok c1 i 3 (.string ⟨x.mark.toArray⟩) ⟨x.gen, x.basis, x.bytes, x.mark⟩ (by rw [List.length_set, List.length_set, List.length_set]; exact hi) (by decide) (by rw [List.getElem_set, if_pos rfl]; rfl)
  rw [List.set_set, List.set_set, List.set_set] at d1
  exact ⟨d1, ((a2.trans b2).trans c2).trans d2⟩
/-- So far turned round. -/
structure RevTo (xs cur : List GenD) (k : Nat) : Prop where
  len : cur.length = xs.length
  get : ∀ a, a < xs.length → cur[a]? = if a < k ∨ xs.length < a + 1 + k then xs[xs.length - 1 - a]? else xs[a]?
theorem RevTo.start (xs : List GenD) : RevTo xs xs 0 := ⟨rfl, fun a ha => by rw [if_neg (by omega)]⟩
theorem RevTo.step {xs cur : List GenD} {k : Nat} (h : RevTo xs cur k) (hk : k + k + 1 < xs.length) (hk1 : k < cur.length) (hk2 : xs.length - 1 - k < cur.length) : RevTo xs ((cur.set k cur[xs.length - 1 - k]).set (xs.length - 1 - k) cur[k]) (k + 1) := by
  have e1 : cur[k]? = xs[k]? := by rw [h.get k (by omega), if_neg (by omega)]
  have e2 : cur[xs.length - 1 - k]? = xs[xs.length - 1 - k]? := by rw [h.get _ (by omega), if_neg (by omega)]
  rw [List.getElem?_eq_getElem hk1] at e1
  rw [List.getElem?_eq_getElem hk2] at e2
  refine ⟨by rw [List.length_set, List.length_set, h.len], fun a ha => ?_⟩
  rw [List.getElem?_set, List.length_set]
  by_cases c1 : xs.length - 1 - k = a
  · rw [if_pos c1, if_pos hk2, if_pos (by omega), e1]
    congr 1
    omega
  · rw [if_neg c1, List.getElem?_set]
    by_cases c2 : k = a
    · subst c2
      rw [if_pos rfl, if_pos hk1, if_pos (by omega), e2]
    · rw [if_neg c2, h.get a ha]
      by_cases c3 : a < k ∨ xs.length < a + 1 + k
      · rw [if_pos c3, if_pos (by omega)]
      · rw [if_neg c3, if_neg (by omega)]
theorem RevTo.done {xs cur : List GenD} {k : Nat} (h : RevTo xs cur k) (hk : xs.length ≤ k + k + 1) : cur = xs.reverse := by
  refine List.ext_getElem? fun a => ?_
  by_cases ha : a < xs.length
  · rw [List.getElem?_reverse ha, h.get a ha]
    by_cases c : a < k ∨ xs.length < a + 1 + k
    · rw [if_pos c]
    · rw [if_neg c]
      congr 1
      omega
  · rw [List.getElem?_eq_none (by rw [h.len]; omega), List.getElem?_eq_none (by simp; omega)]
set_option maxRecDepth 100000 in
set_option maxHeartbeats 2000000 in
theorem reverse_any (xs : List GenD) (w : World) (base g c : Nat) (hown : OwnN encGn 4 w base 38 (.slice (some ⟨g, 0, none⟩) xs.length c) xs) (hl : xs.length ≤ 4096) :
    Calls Try.prog 38 #[.slice (some ⟨g, 0, none⟩) xs.length c] w fun e w' => e = .returned (.tuple #[]) ∧ OwnN encGn 4 w' base 38 (.slice (some ⟨g, 0, none⟩) xs.length c) xs.reverse ∧ Kept (· = g) w w' := by
  have H0 := Lib.hid hown
  clear hown
  go_enter Try.func38, Try.ntmps38
  go_wp2_with fail
  go_loopw [2, 3] (fun v2 v3 wr => ∃ (k : Nat) (cur : List GenD), k + k ≤ xs.length + 1 ∧ v2 = .int .i64 (k : Nat) ∧ v3 = .int .i64 ((xs.length : Int) - 1 - k) ∧ RevTo xs cur k ∧ OwnN encGn 4 wr base 38 (.slice (some ⟨g, 0, none⟩) xs.length c) cur ∧ Kept (· = g) w wr) (fun v2 _ _ => xs.length + 1 - (intOf v2).toNat)
  case atStart => exact ⟨0, xs, by omega, rfl, by congr 1; omega, RevTo.start xs, H0.out, Kept.refl _ _⟩
  case round =>
    obtain ⟨k, cur, hk, rfl, rfl, hrv, hown, hkp⟩ := hrel
    have HV := Lib.hid hrv
    have HO := Lib.hid hown
    have HK := Lib.hid hkp
    clear hrv hown hkp H0
    by_cases hlt : k + k + 1 < xs.length
    · obtain ⟨j, hj⟩ : ∃ j : Nat, j = xs.length - 1 - k := ⟨_, rfl⟩
      have ej : (xs.length : Int) - 1 - k = (j : Int) := by omega
      rw [ej]
      have hkc : k < cur.length := by rw [HV.out.len]; omega
      have hjc : j < cur.length := by rw [HV.out.len]; omega
      have HST := Lib.hid (show RevTo xs ((cur.set k cur[j]).set j cur[k]) (k + 1) by
        have := HV.out.step hlt hkc (by omega)
        simp only [← hj] at this
        exact this)
      obtain ⟨g', c', hv, _, hgb, hgl, hel, hfz⟩ := HO.out.atB encGn_ok (by intro e; subst e; simp at hkc)
      injection hv with ea eb ec
      injection ea with ea
      injection ea with ea1 _ _
      subst ea1
      clear eb ec
      have hk1 := hel k hkc
      have hj1 := hel j hjc
      have SW1 := Lib.hid (own_setGn HO.out k cur[j] hkc)
      have SW2 := Lib.hid (own_setGn SW1.out.1 j cur[k] (by rw [List.length_set]; exact hjc))
      have SW := Lib.hid (show OwnN encGn 4 (setGn (setGn wr g k cur[j]) g j cur[k]) base 38 (.slice (some ⟨g, 0, none⟩) xs.length c) ((cur.set k cur[j]).set j cur[k]) ∧ Kept (· = g) wr (setGn (setGn wr g k cur[j]) g j cur[k]) from ⟨SW2.out.1, SW1.out.2.trans SW2.out.2⟩)
      clear SW1 SW2
      generalize hxx : cur[k] = x at *
      generalize hyy : cur[j] = y at *
      obtain ⟨xg, xb, xn, xm⟩ := x
      obtain ⟨yg, yb, yn, ym⟩ := y
      have c10 : wr.cell? ⟨g, k * 4, none⟩ = some (.int .i64 xg) := hk1 0 _ rfl
      have c11 : wr.cell? ⟨g, k * 4 + 1, none⟩ = some (.int .i64 xb) := hk1 1 _ rfl
      have c12 : wr.cell? ⟨g, k * 4 + 2, none⟩ = some (.int .i64 xn) := hk1 2 _ rfl
      have c13 : wr.cell? ⟨g, k * 4 + 3, none⟩ = some (.string ⟨xm.toArray⟩) := hk1 3 _ rfl
      have c20 : wr.cell? ⟨g, j * 4, none⟩ = some (.int .i64 yg) := hj1 0 _ rfl
      have c21 : wr.cell? ⟨g, j * 4 + 1, none⟩ = some (.int .i64 yb) := hj1 1 _ rfl
      have c22 : wr.cell? ⟨g, j * 4 + 2, none⟩ = some (.int .i64 yn) := hj1 2 _ rfl
      have c23 : wr.cell? ⟨g, j * 4 + 3, none⟩ = some (.string ⟨ym.toArray⟩) := hj1 3 _ rfl
      have f1 : wr.frozen? ⟨g, k * 4, none⟩ = false := hfz _
      have f1a : wr.frozen? ⟨g, k * 4 + 1, none⟩ = false := hfz _
      have f1b : wr.frozen? ⟨g, k * 4 + 2, none⟩ = false := hfz _
      have f1c : wr.frozen? ⟨g, k * 4 + 3, none⟩ = false := hfz _
      have f2 : wr.frozen? ⟨g, j * 4, none⟩ = false := hfz _
      have f2a : wr.frozen? ⟨g, j * 4 + 1, none⟩ = false := hfz _
      have f2b : wr.frozen? ⟨g, j * 4 + 2, none⟩ = false := hfz _
      have f2c : wr.frozen? ⟨g, j * 4 + 3, none⟩ = false := hfz _
      unfold setGn at SW
      dsimp only at SW
      have hne : k ≠ j := by omega
      have i1 : (0 : Int) ≤ (k : Int) := by omega
      have i2 : (k : Int) < (xs.length : Int) := by omega
      have i3 : (0 : Int) ≤ (j : Int) := by omega
      have i4 : (j : Int) < (xs.length : Int) := by omega
      have i5 : (k : Int) < (j : Int) := by omega
      have HJ := Lib.hid hj
      clear hk1 hj1 hel hfz hxx hyy hj ej
      go_wp2_with fail
      go_region
      generalize (((((((wr.setCell ⟨g, k * 4, none⟩ (.int .i64 yg)).setCell ⟨g, k * 4 + 1, none⟩ (.int .i64 yb)).setCell ⟨g, k * 4 + 2, none⟩ (.int .i64 yn)).setCell ⟨g, k * 4 + 3, none⟩ (.string ⟨ym.toArray⟩)).setCell ⟨g, j * 4, none⟩ (.int .i64 xg)).setCell ⟨g, j * 4 + 1, none⟩ (.int .i64 xb)).setCell ⟨g, j * 4 + 2, none⟩ (.int .i64 xn)).setCell ⟨g, j * 4 + 3, none⟩ (.string ⟨xm.toArray⟩) = w7 at *
      have hbd : Below w7.heap.size w7 w7.drew := Below_drew (Below.refl w7.heap.size w7)
      have HOY := Lib.hid (SW.out.1.new hbd)
      have HKY := Lib.hid ((HK.out.trans SW.out.2).trans (Kept.new hbd _))
      have u1 : wrap64 ((j : Int) - 1) = (j : Int) - 1 := IntWalk.wrap64_in _ (by omega)
      have u2 : wrap64 ((k : Int) + 1) = (k : Int) + 1 := IntWalk.wrap64_in _ (by omega)
      clear hbd c10 c11 c12 c13 c20 c21 c22 c23 f1 f1a f1b f1c f2 f2a f2b f2c
      go_wp2_with fail
      go_roundw
      case rel => exact ⟨k + 1, _, by omega, by go_num, by have := HJ.out; congr 1; omega, HST.out, HOY.out, HKY.out⟩
      case measure => simp [intOf]; omega
    · have i5 : ¬ (k : Int) < (xs.length : Int) - 1 - k := by omega
      have HZ := Lib.hid (HV.out.done (by omega))
      go_wp2_with fail
      go_end0
      exact ⟨rfl, by rw [← HZ.out]; exact HO.out, HK.out⟩
end Go.Proofs.Ytgejocceegadhaa
