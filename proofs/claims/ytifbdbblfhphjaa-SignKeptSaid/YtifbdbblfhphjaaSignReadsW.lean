/- The walk of the law SignReads. -/
import Derived.Test.YtifbdbblfhphjaaFrame
import Derived.Test.YtifbdbblfhphjaaGen
import Derived.Test.YtifbdbblfhphjaaMarkMath
import Derived.Test.YtifbdbblfhphjaaOfMath
import Derived.Test.YtifbdbblfhphjaaOwnL
import Derived.Test.YtifbdbblfhphjaaReadW
import Derived.Test.YtifbdbblfhphjaaRefOfW
import Derived.Test.YtifbdbblfhphjaaRollMath
import Derived.Test.YtifbdbblfhphjaaRows
import Derived.Test.YtifbdbblfhphjaaSAwakeW
import Derived.Test.YtifbdbblfhphjaaSameW
import Derived.Test.YtifbdbblfhphjaaShelf
import Derived.Test.YtifbdbblfhphjaaSigAt
import Derived.Test.YtifbdbblfhphjaaSigOfW
import Derived.Test.YtifbdbblfhphjaaSignAW
import Derived.Test.YtifbdbblfhphjaaSignMath
import Derived.BigQuiet
import Derived.BigRegion
import Derived.Deep.CutBlock
import Derived.Deep.DeepCutAuto
import Derived.Deep.QuietTactic
import Derived.Deep.RegionHeld3
import Derived.Deep.RegionLaw
import Derived.IntWalk
import Derived.Laws.BitsAllLaws
import Derived.Laws.Rows
import Derived.Laws.Tables
import Derived.Lib.Hide
import Derived.Maps.OwnSet
import Derived.Maps.Views
import Derived.Outline
import Derived.StillTailTactics
import Derived.WalkKit
import Derived.WalkLawsBesides
import Derived.WalkSpells
set_option linter.unusedVariables false
namespace Go.Proofs.Ytifbdbblfhphjaa
open Go.RowKit

theorem Row.keep {α : Type} {enc : α → Value} {N : Nat → Prop} {w w' : World} {v : Value} {xs : List α} (h : Row enc N w v xs) (hb : Below w.heap.size w w') : Row enc N w' v xs := by
  obtain ⟨a, cap, rfl, hc⟩ := h
  refine ⟨a, cap, rfl, fun i hi => ?_⟩
  obtain ⟨b, off, rfl, hn, hcell⟩ := hc i hi
  exact ⟨b, off, rfl, hn, (hb.cell (p := ⟨b, off + i, none⟩) (World.block_lt_of_cell? w _ hcell)).trans hcell⟩
theorem Row.slice {α : Type} {enc : α → Value} {N : Nat → Prop} {w : World} {v : Value} {xs : List α} (h : Row enc N w v xs) : ∃ a m c, v = .slice a m c := by
  obtain ⟨a, c, rfl, _⟩ := h
  exact ⟨_, _, _, rfl⟩
theorem below_self_alloc (w : World) (o : Obj) : Below w.heap.size w (w.alloc o) := (Below.refl _ w).alloc (Nat.le_refl _) o

set_option maxRecDepth 100000 in
set_option maxHeartbeats 4000000 in
theorem signReads_walk (s : Txt) (hs : s.length ≤ 140737488351232) (w : World) :
    Calls Try.prog 7 #[.string ⟨s.toArray⟩] w fun e w' => e = .returned (.bool true) ∧ Below w.heap.size w w' := by
  have CT := fun w' => Lib.hid (cut_any s 12000 w' (by decide) hs)
  have hl : (s.take 12000).length ≤ 12000 := List.length_take_le _ _
  generalize s.take 12000 = l at *
  have SO := fun w' => Lib.hid (sigOf_any l w' (by omega))
  have SR := fun w' => Lib.hid (refOf_any l w' (by omega))
  have LN := Lib.hid (ofS_len l)
  generalize ofS l = r at *
  obtain ⟨re, rb, rn, rw', rm⟩ := r
  dsimp only at LN
  go_enter Try.func7, Try.ntmps7
  go_wp2_with fail
  refine (CT _).out.mono ?_
  rintro e w' ⟨rfl, rfl⟩
  go_wp2_with fail
  refine (SO _).out.mono ?_
  rintro e w1 ⟨vw, vs, rfl, r1, r2, hb1⟩
  dsimp only at r1 r2 ⊢
  obtain ⟨a1, n1, k1, rfl⟩ := r1.slice
  obtain ⟨a2, n2, k2, rfl⟩ := r2.slice
  have HB1 := Lib.hid (below_alloc hb1 (sigC rb rn (.slice a1 n1 k1) (.slice a2 n2 k2)))
  have R1 := Lib.hid (r1.keep (below_self_alloc w1 (sigC rb rn (.slice a1 n1 k1) (.slice a2 n2 k2))))
  have R2 := Lib.hid (r2.keep (below_self_alloc w1 (sigC rb rn (.slice a1 n1 k1) (.slice a2 n2 k2))))
  have G1 := Lib.hid (heap_alloc_new w1 (sigC rb rn (.slice a1 n1 k1) (.slice a2 n2 k2)))
  clear r1 r2 hb1
  go_wp2_with fail
  generalize w1.alloc (.cells #[.int .i64 rb, .int .i64 rn, .slice a1 n1 k1, .slice a2 n2 k2] 31) = w2 at *
  refine (SR _).out.mono ?_
  rintro e w3 ⟨vw, vs, rfl, r3, r4, hb3⟩
  dsimp only at r3 r4 ⊢
  obtain ⟨a3, n3, k3, rfl⟩ := r3.slice
  obtain ⟨a4, n4, k4, rfl⟩ := r4.slice
  have hbb := hb3.trans ((below_self_alloc w3 (sigC rb rn (.slice a3 n3 k3) (.slice a4 n4 k4))).mono hb3.size)
  have HB3 := Lib.hid (HB1.out.trans (hbb.mono HB1.out.size))
  have Q1 := Lib.hid (R1.out.keep hbb)
  have Q2 := Lib.hid (R2.out.keep hbb)
  have Q3 := Lib.hid (r3.keep (below_self_alloc w3 (sigC rb rn (.slice a3 n3 k3) (.slice a4 n4 k4))))
  have Q4 := Lib.hid (r4.keep (below_self_alloc w3 (sigC rb rn (.slice a3 n3 k3) (.slice a4 n4 k4))))
  have g1 := old_of hbb G1.out
  have c60 := sig_c0 g1
  have c61 := sig_c1 g1
  have c62 := sig_c2 g1
  have c63 := sig_c3 g1
  clear r3 r4 hb3 hbb g1 R1 R2 G1 HB1
  have SM := Lib.hid (fun w' h1 h2 h3 h4 => same_any (Value.int .i64) (fun x => ⟨x, rfl⟩) rb rn rw' rm (.slice a1 n1 k1) (.slice a2 n2 k2) (.slice a3 n3 k3) (.slice a4 n4 k4) (w.heap.size ≤ ·) (w.heap.size ≤ ·) (w2.heap.size ≤ ·) (w2.heap.size ≤ ·) w' h1 h2 h3 h4 (by have := LN.out; omega) (by have := LN.out; omega))
  have qe : (re == re) = true := by simp
  go_wp2_with fail
  generalize w3.alloc (.cells #[.int .i64 rb, .int .i64 rn, .slice a3 n3 k3, .slice a4 n4 k4] 31) = w5 at *
  refine (SM.out _ Q1.out Q2.out Q3.out Q4.out).mono ?_
  rintro e w6 ⟨rfl, hb6⟩
  have HB6 := Lib.hid (HB3.out.trans (hb6.mono HB3.out.size)); clear hb6 c60 c61 c62 c63
  go_wp2_with fail
  refine (awake_any _).mono ?_
  rintro e w7 ⟨rfl, hb7⟩
  go_wp2
  go_ret
  exact ⟨rfl, HB6.out.trans (hb7.mono HB6.out.size)⟩
end Go.Proofs.Ytifbdbblfhphjaa
