/- The walk of the law DeltaRuns. -/
import Derived.Test.YtfblkhmhelmjlaaArgStep
import Derived.Test.YtfblkhmhelmjlaaArgs3
import Derived.Test.YtfblkhmhelmjlaaTabX
import Derived.Test.YtfblkhmhelmjlaaBldShelf
import Derived.Test.YtfblkhmhelmjlaaDelX
import Derived.Test.YtfblkhmhelmjlaaFrame
import Derived.Test.YtfblkhmhelmjlaaGen
import Derived.Test.YtfblkhmhelmjlaaMarkMath
import Derived.Test.YtfblkhmhelmjlaaRollX
import Derived.Test.YtfblkhmhelmjlaaNewTabW
import Derived.Test.YtfblkhmhelmjlaaOfIW
import Derived.Test.YtfblkhmhelmjlaaOwnL
import Derived.Test.YtfblkhmhelmjlaaProg
import Derived.Test.YtfblkhmhelmjlaaReadMath
import Derived.Test.YtfblkhmhelmjlaaReadW
import Derived.Test.YtfblkhmhelmjlaaRefRunW
import Derived.Test.YtfblkhmhelmjlaaRollMath
import Derived.Test.YtfblkhmhelmjlaaRowKeep
import Derived.Test.YtfblkhmhelmjlaaRows
import Derived.Test.YtfblkhmhelmjlaaRunDW
import Derived.Test.YtfblkhmhelmjlaaSentW
import Derived.Test.YtfblkhmhelmjlaaShelf
import Derived.Test.YtfblkhmhelmjlaaSigAt
import Derived.Test.YtfblkhmhelmjlaaSignMath
import Derived.Test.YtfblkhmhelmjlaaSortX
import Derived.Test.YtfblkhmhelmjlaaSortEW
import Derived.Test.YtfblkhmhelmjlaaStepW
import Derived.BigQuiet
import Derived.BigRegion
import Derived.ChangeAlike
import Derived.Deep.CutBlock
import Derived.Deep.DeepCutAuto
import Derived.Deep.LoopGhost
import Derived.Deep.QuietTactic
import Derived.Deep.RegionHeld3
import Derived.Deep.RegionLaw
import Derived.IntWalk
import Derived.Laws.BitsAllLaws
import Derived.Laws.Externs
import Derived.Laws.MakeOwn
import Derived.Laws.Rows
import Derived.Laws.Tables
import Derived.Lib.AppendStr
import Derived.Lib.Builder
import Derived.Lib.Hide
import Derived.Lib.SmallJoins
import Derived.Lib.Strings
import Derived.Lib.Walk
import Derived.Maps.OwnSet
import Derived.Maps.Views
import Derived.Outline
import Derived.RegionTactic
import Derived.Sort.Walk0
import Derived.StillTailTactics
import Derived.WalkKit
import Derived.WalkLawsBesides
import Derived.WalkSpells
set_option linter.unusedVariables false
namespace Go.Proofs.Ytfblkhmhelmjlaa
open Go.RowKit

theorem RowS.take {N : Nat → Prop} {w : World} {a : Option Addr} {c : Nat} {xs : List DSt} (h : RowS N w (.slice a xs.length c) xs) (n : Nat) (hn : n ≤ xs.length) (c' : Nat) : RowS N w (.slice a (xs.take n).length c') (xs.take n) := by
  obtain ⟨a', c2, he, hc⟩ := h
  injection he with e1 _ _
  subst e1
  refine ⟨a, c', rfl, fun i hi => ?_⟩
  rw [List.length_take] at hi
  obtain ⟨g, o, h1, h2, h3⟩ := hc i (by omega)
  exact ⟨g, o, h1, h2, by rw [List.getElem_take]; exact h3⟩

set_option maxRecDepth 100000 in
set_option maxHeartbeats 4000000 in
theorem deltaRuns_walk (l0 : Txt) (hl0 : l0.length ≤ 140737488351232) (v : Value) (w : World) (hv : SIn w v) :
    Calls Try.prog 5 #[.string ⟨l0.toArray⟩, v] w fun e w' => e = .returned (.bool true) ∧ Below w.heap.size w w' := by
  have CT := fun w' => Lib.hid (cutD_any l0 3000 w' (by decide) hl0)
  have hl : (l0.take 3000).length ≤ 3000 := List.length_take_le _ _
  generalize l0.take 3000 = l at *
  obtain ⟨xs, hxs⟩ := hv
  obtain ⟨a, k, rfl, hk⟩ := hxs.cap
  have hlen := hxs.len
  have key : ∀ (ys : List DSt) (k' : Nat), RowS (· < w.heap.size) w (.slice a ys.length k') ys → (∀ x ∈ ys, StOk x) → ys.length ≤ 200 → Hid (∀ w', Below w.heap.size w w' → Calls Try.prog 20 #[.string ⟨l.toArray⟩, .slice a ys.length k'] w' (RunDPost w' (runG l ys [])) ∧ Calls Try.prog 21 #[.string ⟨l.toArray⟩, .slice a ys.length k'] w' (RunDPost w' (runG l ys []))) := fun ys k' hr ho hy => Lib.hid fun w' hb =>
    ⟨runD_any _ l _ ys w' (hr.keep hb) ho (by omega) (by omega), refRun_any _ l _ ys w' (hr.keep hb) ho (by omega) (by omega)⟩
  by_cases hbig : 200 < xs.length
  · have K := key (xs.take 200) k (hxs.row.take 200 (by omega) k) (fun x hx => hxs.ok x (List.mem_of_mem_take hx)) (by rw [List.length_take]; omega)
    have e200 : (xs.take 200).length = 200 := by rw [List.length_take]; omega
    rw [e200] at K
    generalize runG l (xs.take 200) [] = r at *
    have i1 : (200 : Int) < (xs.length : Int) := by omega
    have i2 : (200 : Int) ≤ (k : Int) := by omega
    clear hxs key e200 hbig hlen
    obtain ⟨re, rt⟩ := r
    have qs : (rt == rt) = true := by simp
    have qe : (re == re) = true := by simp
    go_enter Try.func5, Try.ntmps5
    go_wp2_with fail
    refine (CT _).out.mono ?_
    rintro e w' ⟨rfl, rfl⟩
    have K1 := Lib.hid (K.out w (Below.refl _ _)).1
    go_wp2_with fail
    refine K1.out.mono ?_
    rintro e w2 ⟨rfl, hb2⟩
    have K2 := Lib.hid (K.out w2 hb2).2
    have HB2 := Lib.hid hb2; clear hb2 K K1
    go_wp2_with fail
    refine K2.out.mono ?_
    rintro e w3 ⟨rfl, hb3⟩
    have HB3 := Lib.hid (HB2.out.trans (hb3.mono HB2.out.size)); clear hb3 K2
    go_wp2_with fail
    refine (awake_any _).mono ?_
    rintro e w7 ⟨rfl, hb7⟩
    go_wp2_with fail
    go_ret
    exact ⟨rfl, HB3.out.trans (hb7.mono HB3.out.size)⟩
  · have K := key xs k hxs.row hxs.ok (by omega)
    generalize runG l xs [] = r at *
    have i1 : ¬ (200 : Int) < (xs.length : Int) := by omega
    clear hxs key hbig hlen
    obtain ⟨re, rt⟩ := r
    have qs : (rt == rt) = true := by simp
    have qe : (re == re) = true := by simp
    go_enter Try.func5, Try.ntmps5
    go_wp2_with fail
    refine (CT _).out.mono ?_
    rintro e w' ⟨rfl, rfl⟩
    have K1 := Lib.hid (K.out w (Below.refl _ _)).1
    go_wp2_with fail
    refine K1.out.mono ?_
    rintro e w2 ⟨rfl, hb2⟩
    have K2 := Lib.hid (K.out w2 hb2).2
    have HB2 := Lib.hid hb2; clear hb2 K K1
    go_wp2_with fail
    refine K2.out.mono ?_
    rintro e w3 ⟨rfl, hb3⟩
    have HB3 := Lib.hid (HB2.out.trans (hb3.mono HB2.out.size)); clear hb3 K2
    go_wp2_with fail
    refine (awake_any _).mono ?_
    rintro e w7 ⟨rfl, hb7⟩
    go_wp2_with fail
    go_ret
    exact ⟨rfl, HB3.out.trans (hb7.mono HB3.out.size)⟩
end Go.Proofs.Ytfblkhmhelmjlaa
