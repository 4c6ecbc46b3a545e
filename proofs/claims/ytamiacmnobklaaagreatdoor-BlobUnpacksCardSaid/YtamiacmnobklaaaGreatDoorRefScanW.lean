/- The walk of the document's Scan, and of the texts' compare. -/
import Derived.Test.YtamiacmnobklaaaGreatDoorMpX
import Derived.Test.YtamiacmnobklaaaGreatDoorFrame
import Derived.Test.YtamiacmnobklaaaGreatDoorFrmShelf
import Derived.Test.YtamiacmnobklaaaGreatDoorGen
import Derived.Test.YtamiacmnobklaaaGreatDoorInfos
import Derived.Test.YtamiacmnobklaaaGreatDoorOnX
import Derived.Test.YtamiacmnobklaaaGreatDoorOwnL
import Derived.Test.YtamiacmnobklaaaGreatDoorRefOneW
import Derived.Test.YtamiacmnobklaaaGreatDoorRows
import Derived.Test.YtamiacmnobklaaaGreatDoorSnX
import Derived.Test.YtamiacmnobklaaaGreatDoorShelf
import Derived.Test.YtamiacmnobklaaaGreatDoorSmX
import Derived.BigQuiet
import Derived.Deep.AppendLies
import Derived.Deep.Onto
import Derived.Deep.QuietTactic
import Derived.IntWalk
import Derived.Laws.BitsAllLaws
import Derived.Laws.Externs
import Derived.Laws.Rows
import Derived.Laws.Tables
import Derived.Lib.AppendStr
import Derived.Lib.Builder
import Derived.Lib.Hide
import Derived.Lib.Strings
import Derived.Lib.TrailingZeros
import Derived.Lib.Walk
import Derived.Outline
import Derived.WalkKit
import Derived.WalkLawsBesides
import Derived.WalkSpells
set_option linter.unusedVariables false
namespace Go.Proofs.YtamiacmnobklaaaGreatDoor
open Go.RowKit

set_option maxRecDepth 100000 in
set_option maxHeartbeats 400000 in
theorem refScan_go (l : List UInt8) (w : World) (hl : l.length ≤ 1000000) :
    Calls Tryz.prog 30 #[.string ⟨l.toArray⟩] w fun e w' => ∃ v, e = .returned (.tuple #[v, .int .i64 (scanS l).2.1, .int .i64 (scanS l).2.2]) ∧ OwnL encT w' w.heap.size 9 v (scanS l).1 ∧ Below w.heap.size w w' := by
  have L := Lib.hid (show (⟨l.toArray⟩ : ByteArray).size = l.length from rfl)
  have R := fun (m : List UInt8) (w : World) (h : m.length ≤ 1000000) => Lib.hid (refOne_any m w h)
  go_enter Tryz.func30, Tryz.ntmps30
  go_wp2
  go_loopw [5, 6, 7] (fun v i z wr => ∃ (f a b : Nat) (xs : List (List UInt8)), i = .int .i64 a ∧ z = .int .i64 b ∧ ScanM l f a b xs ∧ OwnL encT wr w.heap.size 9 v xs ∧ Below w.heap.size w wr) (fun _ i _ _ => l.length - (intOf i).toNat)
  case atStart => exact ⟨_, 0, 0, [], rfl, rfl, ScanM.start l, OwnL.nil _ _ _ _, Below.refl _ _⟩
  case round =>
    obtain ⟨f, a, b, xs, rfl, rfl, hm, hown, hbel⟩ := hrel
    have hle := hm.le
    have hsz := hbel.size
    by_cases hlt : a < l.length
    · have hdl : (l.drop a).length = l.length - a := List.length_drop
      have C := R (l.drop a) wr (by omega)
      have B1 : (0 : Int) ≤ (a : Int) := by omega
      have B2 : (a : Int) ≤ (l.length : Int) := by omega
      have B3 : (a : Int) < (l.length : Int) := by omega
      have E := drop_toArray l a l.length (Nat.le_refl _)
      have M3 := Lib.hid (hm.stop)
      have M0 := Lib.hid (hm.ok)
      have M1 := Lib.hid (hm.miss)
      have hn0 := fun h => oneS_ok (l.drop a) h
      have hfew := hm.few
      have hlost := hm.lost
      clear hm
      rw [hdl] at hn0
      clear hdl
      generalize (oneS (l.drop a)).1 = p1 at *
      generalize (oneS (l.drop a)).2.1 = n at *
      generalize (oneS (l.drop a)).2.2 = r at *
      generalize l.drop a = m at *
      have Hown := Lib.hid hown; clear hown
      by_cases h3 : r = 3
      · subst h3
        have M3' := Lib.hid (M3.out rfl)
        clear M0 M1 M3 hn0
        go_wp2_with fail
        refine C.out.mono ?_
        rintro e w2 ⟨rfl, hb2⟩
        have Hown2 := Lib.hid (show OwnL encT w2 w.heap.size 9 _ xs from own_off Hown.out (Kept.of_below hb2) (fun g cur hg _ hm => absurd (Array.getElem?_eq_some_iff.1 hg).1 (by omega)))
        go_wp2
        go_ret3
        rw [M3'.out]
        exact ⟨_, rfl, Hown2.out, hbel.trans (hb2.mono hsz)⟩
      · have N3 : ((r : Int) == 3) = false := by simp; omega
        by_cases h0 : r = 0
        · subst h0
          have M0' := Lib.hid (M0.out rfl)
          have hn := hn0 rfl
          clear M0 M1 M3 hn0
          have W1 : IntKind.i64.wrap ((a : Int) + (n : Int)) = ((a + n : Nat) : Int) := by rw [IntWalk.i64_in _ (by omega)]; omega
          go_wp2_with fail
          refine C.out.mono ?_
          rintro e w2 ⟨rfl, hb2⟩
          have Hown2 := Lib.hid (show OwnL encT w2 w.heap.size 9 _ xs from own_off Hown.out (Kept.of_below hb2) (fun g cur hg _ hm => absurd (Array.getElem?_eq_some_iff.1 hg).1 (by omega)))
          have hsz2 := hb2.size
          go_wp2_with (at_builtin; refine append_elem (enc := encT) (y := p1) rfl _ _ 54 9 (.string ⟨#[]⟩) 16 (by rfl) Tryz.underlying54 info_str rfl w.heap.size _ _ rfl (by rfl) Hown2.out (by rfl) (by omega) (by unfold maxLen; omega) (by omega) ?_; intro v' w3 hown3 hb3 hk3; have H3 := Lib.hid hown3; clear hown3 hk3)
          go_roundw
          case rel => exact ⟨f - 1, a + n, b, xs ++ [p1], by go_num, rfl, M0'.out, H3.out, (hbel.trans (hb2.mono hsz)).trans hb3⟩
          case measure => simp [intOf]; omega
        · have M1' := Lib.hid (M1.out h0 h3)
          have N0 : ((r : Int) != 0) = true := by simp; omega
          have W1 : IntKind.i64.wrap ((a : Int) + 1) = ((a + 1 : Nat) : Int) := by rw [IntWalk.i64_in _ (by omega)]; omega
          have W2 : IntKind.i64.wrap ((b : Int) + 1) = ((b + 1 : Nat) : Int) := by rw [IntWalk.i64_in _ (by omega)]; omega
          clear M0 M1 M3 hn0 h0 h3
          go_wp2_with fail
          refine C.out.mono ?_
          rintro e w2 ⟨rfl, hb2⟩
          have Hown2 := Lib.hid (show OwnL encT w2 w.heap.size 9 _ xs from own_off Hown.out (Kept.of_below hb2) (fun g cur hg _ hm => absurd (Array.getElem?_eq_some_iff.1 hg).1 (by omega)))
          go_wp2
          go_roundw
          case rel => exact ⟨f - 1, a + 1, b + 1, xs, by go_num, by go_num, M1'.out, Hown2.out, hbel.trans (hb2.mono hsz)⟩
          case measure => simp [intOf]; omega
    · have M3' := Lib.hid (hm.stop (by rw [List.drop_eq_nil_of_le (by omega), oneS_nil]))
      clear hm
      have Hown := Lib.hid hown; clear hown
      have N3 : ¬ (a : Int) < (l.length : Int) := by omega
      go_wp2
      go_ret3
      rw [M3'.out]
      exact ⟨_, rfl, Hown.out, hbel⟩
end Go.Proofs.YtamiacmnobklaaaGreatDoor
