/- The few files of stage 10's laws: at most 60, all their bytes at most 20000. -/
import Derived.Test.YtfgimhgkjodcgaaDoorArgTree
import Derived.Test.YtfgimhgkjodcgaaDoorArgs3
import Derived.Test.YtfgimhgkjodcgaaDoorFrame
import Derived.Test.YtfgimhgkjodcgaaDoorGen
import Derived.Test.YtfgimhgkjodcgaaDoorBdX
import Derived.Test.YtfgimhgkjodcgaaDoorMarkMath
import Derived.Test.YtfgimhgkjodcgaaDoorOwnL
import Derived.Test.YtfgimhgkjodcgaaDoorProg
import Derived.Test.YtfgimhgkjodcgaaDoorReadW
import Derived.Test.YtfgimhgkjodcgaaDoorCkX
import Derived.Test.YtfgimhgkjodcgaaDoorRefSortW
import Derived.Test.YtfgimhgkjodcgaaDoorRowN
import Derived.Test.YtfgimhgkjodcgaaDoorRows
import Derived.Test.YtfgimhgkjodcgaaDoorShelf
import Derived.Test.YtfgimhgkjodcgaaDoorTreeMath
import Derived.BigQuiet
import Derived.BigRegion
import Derived.Deep.Cut
import Derived.Deep.CutBlock
import Derived.Deep.CutRange
import Derived.Deep.DeepCutAuto
import Derived.Deep.QuietTactic
import Derived.Deep.RegionHeld
import Derived.Laws.Externs
import Derived.Laws.RangeAny
import Derived.Lib.AppendStr
import Derived.Lib.Builder
import Derived.Lib.Hide
import Derived.Lib.Strings
import Derived.Lib.Walk
import Derived.LoopIn
import Derived.LoopNIn
import Derived.LoopTactic
import Derived.Outline
import Derived.OwnWalkIn
import Derived.RangeFuncBound
import Derived.RangeFuncCalls
import Derived.RangeFuncLeaves
import Derived.RangeFuncNested
import Derived.Shelf.Abstract
import Derived.Shelf.RegionOpen
import Derived.TacticsInMore
import Derived.WalkKit
import Derived.WalkLawsBesides
import Derived.WalkSpells
set_option linter.unusedVariables false
namespace Go.Proofs.YtfgimhgkjodcgaaDoor
open Go.RowKit

def fewX (n : Nat) (x : FileD) : FileD := if 20000 - n < x.data.length then ⟨x.path, x.mode, []⟩ else x
def fewG : Nat → Nat → List FileD → List FileD
  | 0, _, _ => []
  | _ + 1, _, [] => []
  | k + 1, n, x :: r => fewX n x :: fewG k (n + (fewX n x).data.length) r
def fewI (l : List FileD) : List FileD := fewG 60 0 l
theorem fewX_ok {n : Nat} {x : FileD} (h : FileOk x) : FileOk (fewX n x) := by
  unfold fewX
  split
  · exact ⟨h.p, h.m, by simp⟩
  · exact h
theorem fewX_len (n : Nat) (x : FileD) (hn : n ≤ 20000) : n + (fewX n x).data.length ≤ 20000 := by
  unfold fewX
  split
  · simp; exact hn
  · omega
theorem fewG_ok : ∀ (k n : Nat) (l : List FileD), (∀ x ∈ l, FileOk x) → (∀ x ∈ fewG k n l, FileOk x) ∧ (fewG k n l).length ≤ k
  | 0, _, _, _ => ⟨fun x hx => (by cases hx), by simp [fewG]⟩
  | k + 1, _, [], _ => ⟨fun x hx => (by cases hx), by simp [fewG]⟩
  | k + 1, n, x :: r, h => by
    obtain ⟨h1, h2⟩ := fewG_ok k (n + (fewX n x).data.length) r (fun y hy => h y (by simp [hy]))
    refine ⟨fun y hy => ?_, ?_⟩
    · rcases List.mem_cons.1 (show y ∈ fewX n x :: fewG k (n + (fewX n x).data.length) r from hy) with rfl | hy
      · exact fewX_ok (h x (by simp))
      · exact h1 y hy
    · show (fewG k (n + (fewX n x).data.length) r).length + 1 ≤ _
      omega
theorem fewI_ok {l : List FileD} (h : ∀ x ∈ l, FileOk x) : (∀ x ∈ fewI l, FileOk x) ∧ (fewI l).length ≤ 60 := fewG_ok 60 0 l h
set_option maxRecDepth 100000 in
set_option maxHeartbeats 2000000 in
theorem few10_any (v : Value) (l : List FileD) (w : World) (hrow : RowN encF 3 (fun _ => True) w v l) (hok : ∀ x ∈ l, FileOk x) (hl : l.length ≤ 9223372036854775807) :
    Calls Tryd.prog 11 #[v] w fun e w' => ∃ v', e = .returned v' ∧ OwnN encF 3 w' w.heap.size 33 v' (fewI l) ∧ Below w.heap.size w w' := by
  obtain ⟨va, vc, hv, _⟩ := hrow.slice
  subst hv
  have HRO := Lib.hid hrow
  have HOK := Lib.hid hok
  have HF := Lib.hid (show [] ++ fewG (60 - 0) 0 (l.drop 0) = fewI l from rfl)
  generalize fewI l = res at *
  clear hrow hok
  go_enter Tryd.func11, Tryd.ntmps11
  go_wp2_with fail
  go_loopw [3, 4, 5] (fun v3 v4 v5 wr => ∃ (i n : Nat) (out : List FileD), i ≤ l.length ∧ i ≤ 60 ∧ v5 = .int .i64 i ∧ v4 = .int .i64 n ∧ n ≤ 20000 ∧ OwnN encF 3 wr w.heap.size 33 v3 out ∧ Hid (out ++ fewG (60 - i) n (l.drop i) = res) ∧ Hid (out.length = i) ∧ Below w.heap.size w wr) (fun _ _ v5 _ => 60 - (intOf v5).toNat)
  case atStart => exact ⟨0, 0, [], by omega, by omega, rfl, rfl, by omega, OwnN.nil _ _ _ _ _, HF, Lib.hid rfl, Below.refl _ _⟩
  case round =>
    clear HF
    obtain ⟨i, n, out, hi, hi60, rfl, rfl, hn, hown, HA, HOL, hbel⟩ := hrel
    have HO := Lib.hid hown
    have HB := Lib.hid hbel
    clear hown hbel
    have hws := HB.out.size
    have i0 : (0 : Int) ≤ (i : Int) := by omega
    obtain ⟨oa, om, oc, hv3⟩ := own_slice HO.out
    subst hv3
    have hol2 : out.length ≤ 60 := by have := HOL.out; omega
    by_cases hlt : i < l.length
    · have j1 : (i : Int) < (l.length : Int) := by omega
      by_cases h60 : i < 60
      · have j2 : (i : Int) < 60 := by omega
        obtain ⟨g, o, rfl, hel⟩ := HRO.out.el hlt
        have hel1 := (hel i hlt).new HB.out
        have HD := Lib.hid (show out ++ (fewX n l[i] :: fewG (60 - (i + 1)) (n + (fewX n l[i]).data.length) (l.drop (i + 1))) = res by
          rw [← HA.out, List.drop_eq_getElem_cons hlt, show 60 - i = (60 - (i + 1)) + 1 by omega]
          rfl)
        have hxl := fewX_len n l[i] hn
        have hdl := (HOK.out l[i] (List.getElem_mem hlt)).d
        clear hel HA
        generalize l[i] = x at *
        obtain ⟨p, m, d⟩ := x
        have c0 := hel1.f0
        have c1 := hel1.f1
        have c2 := hel1.f2
        dsimp only at c0 c1 c2 hdl
        by_cases hbig : 20000 - n < d.length
        · have j3 : (20000 : Int) - (n : Int) < (d.length : Int) := by omega
          have HX := Lib.hid (show fewX n ⟨p, m, d⟩ = ⟨p, m, []⟩ from if_pos hbig)
          rw [HX.out] at HD
          clear hbig hxl HX
          have hbw : Below wr.heap.size wr (wr.alloc (.cells #[.string ⟨p.toArray⟩, .int .i64 m, .string ⟨([] : Txt).toArray⟩] 33)) := (Below.refl _ wr).alloc (Nat.le_refl _) _
          have HO3 := Lib.hid (HO.out.new hbw)
          have HB3 := Lib.hid (HB.out.trans (hbw.mono HB.out.size))
          have HSZ := Lib.hid (show (wr.alloc (.cells #[.string ⟨p.toArray⟩, .int .i64 m, .string ⟨([] : Txt).toArray⟩] 33)).heap.size = wr.heap.size + 1 by simp)
          clear hbw HO HB hel1
          go_wp2_with (at_builtin; go_loud (refine append_new (enc := encF) (k := 3) (w := wr.alloc (.cells #[.string ⟨p.toArray⟩, .int .i64 m, .string ⟨([] : Txt).toArray⟩] 33)) (by rfl) (.tmp 33) (.tmp 35) 22 33 (.agg #[.string ByteArray.empty, .int .i64 0, .string ByteArray.empty]) 40 (by rfl) Tryd.underlying22 info_file (by rfl) (by decide) encF_ok w.heap.size _ out ⟨p, m, ([] : Txt)⟩ (by rfl) HO3.out (by rw [HSZ.out]; rfl) (by omega) (by unfold maxLen; omega) (by rw [HSZ.out]; omega) _ (by rfl) ?_; intro v7 w7 hown7 ht7; obtain ⟨va7, vm7, vc7, rfl⟩ := own_slice hown7; have HO7 := Lib.hid hown7; have HB7 := Lib.hid (HB3.out.trans ht7.bel); clear hown7 ht7))
          go_roundw
          case rel => exact ⟨i + 1, n, out ++ [⟨p, m, ([] : Txt)⟩], by omega, by omega, by go_num, by go_num, by omega, HO7.out, Lib.hid (by rw [← HD.out, List.append_assoc]; rfl), Lib.hid (by rw [List.length_append, HOL.out]; rfl), HB7.out⟩
          case measure => simp [intOf]; omega
        · have j3 : ¬ (20000 : Int) - (n : Int) < (d.length : Int) := by omega
          have HX := Lib.hid (show fewX n ⟨p, m, d⟩ = ⟨p, m, d⟩ from if_neg hbig)
          rw [HX.out] at HD hxl
          dsimp only at hxl
          clear hbig HX
          have hbw : Below wr.heap.size wr (wr.alloc (.cells #[.string ⟨p.toArray⟩, .int .i64 m, .string ⟨d.toArray⟩] 33)) := (Below.refl _ wr).alloc (Nat.le_refl _) _
          have HO3 := Lib.hid (HO.out.new hbw)
          have HB3 := Lib.hid (HB.out.trans (hbw.mono HB.out.size))
          have HSZ := Lib.hid (show (wr.alloc (.cells #[.string ⟨p.toArray⟩, .int .i64 m, .string ⟨d.toArray⟩] 33)).heap.size = wr.heap.size + 1 by simp)
          clear hbw HO HB hel1
          go_wp2_with (at_builtin; go_loud (refine append_new (enc := encF) (k := 3) (w := wr.alloc (.cells #[.string ⟨p.toArray⟩, .int .i64 m, .string ⟨d.toArray⟩] 33)) (by rfl) (.tmp 33) (.tmp 35) 22 33 (.agg #[.string ByteArray.empty, .int .i64 0, .string ByteArray.empty]) 40 (by rfl) Tryd.underlying22 info_file (by rfl) (by decide) encF_ok w.heap.size _ out ⟨p, m, d⟩ (by rfl) HO3.out (by rw [HSZ.out]; rfl) (by omega) (by unfold maxLen; omega) (by rw [HSZ.out]; omega) _ (by rfl) ?_; intro v7 w7 hown7 ht7; obtain ⟨va7, vm7, vc7, rfl⟩ := own_slice hown7; have HO7 := Lib.hid hown7; have HB7 := Lib.hid (HB3.out.trans ht7.bel); clear hown7 ht7))
          go_roundw
          case rel => exact ⟨i + 1, n + d.length, out ++ [⟨p, m, d⟩], by omega, by omega, by go_num, by go_num, by omega, HO7.out, Lib.hid (by rw [← HD.out, List.append_assoc]; rfl), Lib.hid (by rw [List.length_append, HOL.out]; rfl), HB7.out⟩
          case measure => simp [intOf]; omega
      · have j2 : ¬ (i : Int) < 60 := by omega
        have HR := Lib.hid (show res = out by rw [← HA.out, show 60 - i = 0 by omega]; simp [fewG])
        go_wp2_with fail
        go_ret
        exact ⟨_, rfl, by rw [HR.out]; exact HO.out, HB.out⟩
    · have j1 : ¬ (i : Int) < (l.length : Int) := by omega
      have HR := Lib.hid (show res = out by
        rw [← HA.out, List.drop_eq_nil_of_le (by omega)]
        cases 60 - i <;> simp [fewG])
      go_wp2_with fail
      go_ret
      exact ⟨_, rfl, by rw [HR.out]; exact HO.out, HB.out⟩
end Go.Proofs.YtfgimhgkjodcgaaDoor
