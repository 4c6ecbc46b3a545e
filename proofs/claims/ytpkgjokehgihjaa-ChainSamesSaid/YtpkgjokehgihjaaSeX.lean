/- Several texts in one: SentW, StepsEqW, SameDW. -/
import Derived.Test.YtpkgjokehgihjaaDelX
import Derived.Test.YtpkgjokehgihjaaGen
import Derived.Test.YtpkgjokehgihjaaProg
import Derived.Test.YtpkgjokehgihjaaRows
import Derived.Test.YtpkgjokehgihjaaSignMath
import Derived.BigQuiet
import Derived.Deep.QuietTactic
import Derived.IntWalk
import Derived.Laws.Rows
import Derived.Laws.Tables
import Derived.Lib.Hide
import Derived.OpenShut
import Derived.Outline
import Derived.ProofKit
import Derived.ShutString
import Derived.SizedLaws
import Derived.SliceStrings
import Derived.WalkKit
import Derived.WalkLawsBesides
import Derived.WalkSpells
import Derived.Test.YtpkgjokehgihjaaFrame
import Derived.Test.YtpkgjokehgihjaaOwnL
import Derived.Test.YtpkgjokehgihjaaMarkMath
import Derived.Test.YtpkgjokehgihjaaRightDW
import Derived.Test.YtpkgjokehgihjaaRowKeep
/- Walks of the law's cut and of Sent. -/
set_option linter.unusedVariables false
namespace Go.Proofs.Ytpkgjokehgihjaa
open Go.RowKit

set_option maxRecDepth 100000 in
set_option maxHeartbeats 1000000 in
theorem cutD_any (s : List UInt8) (n : Nat) (w : World) (hn : n ≤ 1000000) (hl : s.length ≤ 140737488351232) :
    Calls Try.prog 18 #[.string ⟨s.toArray⟩, .int .i64 n] w fun e w' => e = .returned (.string ⟨(s.take n).toArray⟩) ∧ w = w' := by
  have L := Lib.hid (show (⟨s.toArray⟩ : ByteArray).size = s.length from rfl)
  by_cases h : n < s.length
  · have E := take_toArray s n
    go_enter Try.func18, Try.ntmps18
    go_wp2
    go_ret
    exact ⟨rfl, rfl⟩
  · have E := Lib.hid (show s.take n = s from List.take_of_length_le (by omega))
    go_enter Try.func18, Try.ntmps18
    go_wp2
    go_ret
    rw [E.out]
    exact ⟨rfl, rfl⟩

theorem sent_take_succ (l : List DSt) (k : Nat) (hk : k < l.length) : sentS (l.take (k + 1)) = sentS (l.take k) + l[k].txt.length := by
  rw [List.take_add_one, List.getElem?_eq_getElem hk, Option.toList, sent_append, sent_one]
theorem sent_take_le (l : List DSt) (k : Nat) : sentS (l.take k) ≤ sentS l := by
  have := sent_append (l.take k) (l.drop k)
  rw [List.take_append_drop] at this
  omega
end Go.Proofs.Ytpkgjokehgihjaa
/- The walk of the document's Steps: two lists of the same steps are one. -/
set_option linter.unusedVariables false
namespace Go.Proofs.Ytpkgjokehgihjaa
open Go.RowKit

set_option maxRecDepth 100000 in
set_option maxHeartbeats 1000000 in
theorem stepsEq_any (N1 N2 : Nat → Prop) (v1 v2 : Value) (l : List DSt) (w : World) (h1 : RowS N1 w v1 l) (h2 : RowS N2 w v2 l) (hl : l.length ≤ 2000000) :
    Calls Try.prog 26 #[v1, v2] w fun e w' => e = .returned (.bool true) ∧ Below w.heap.size w w' := by
  obtain ⟨a1, c1, rfl, hc1⟩ := h1
  obtain ⟨a2, c2, rfl, hc2⟩ := h2
  have HC1 := Lib.hid hc1; clear hc1
  have HC2 := Lib.hid hc2; clear hc2
  have q0 : ((l.length : Int) != (l.length : Int)) = false := by simp
  go_enter Try.func26, Try.ntmps26
  go_wp2
  go_loopw [5] (fun i wr => ∃ k : Nat, k ≤ l.length ∧ i = .int .i64 k ∧ Below w.heap.size w wr) (fun i _ => l.length - (intOf i).toNat)
  case atStart => exact ⟨0, by omega, rfl, Below.refl _ _⟩
  case round =>
    obtain ⟨k, hk, rfl, hbel⟩ := hrel
    have HB := Lib.hid hbel; clear hbel
    by_cases hlt : k < l.length
    · obtain ⟨g1, o1, rfl, _, hs1⟩ := HC1.out k hlt
      obtain ⟨g2, o2, rfl, _, hs2⟩ := HC2.out k hlt
      have hs1' := hs1.new HB.out
      have hs2' := hs2.new HB.out
      clear hs1 hs2
      generalize l[k] = x at *
      obtain ⟨p, m, t⟩ := x
      obtain ⟨e0, e1, e2⟩ := hs1'
      obtain ⟨f0, f1, f2⟩ := hs2'
      dsimp only at e0 e1 e2 f0 f1 f2
      have i1 : (k : Int) < (l.length : Int) := by omega
      have i0 : (0 : Int) ≤ (k : Int) := by omega
      go_wp2_with fail
      go_quiet (fail)
      have HBQ := Lib.hid (HB.out.trans ((Below_drewN (Below.refl wr.heap.size wr) nq).mono HB.out.size))
      generalize wr.drewN nq = w3 at *
      go_wp2_with fail
      go_roundw
      case rel => exact ⟨k + 1, by omega, by go_num, HBQ.out⟩
      case measure => simp [intOf]; omega
    · obtain rfl : k = l.length := by omega
      have i1 : ¬ (l.length : Int) < (l.length : Int) := by omega
      go_wp2_with fail
      go_ret
      exact ⟨rfl, HB.out⟩
end Go.Proofs.Ytpkgjokehgihjaa
/- The walk of the document's Same: two deltas of the same marks, length and steps are one. -/
set_option linter.unusedVariables false
namespace Go.Proofs.Ytpkgjokehgihjaa
open Go.RowKit

set_option maxRecDepth 100000 in
set_option maxHeartbeats 1000000 in
theorem sameD_any (N1 N2 : Nat → Prop) (bm mm : Txt) (n : Int) (v1 v2 : Value) (l : List DSt) (w : World) (h1 : RowS N1 w v1 l) (h2 : RowS N2 w v2 l) (hl : l.length ≤ 2000000) :
    Calls Try.prog 20 #[delW bm mm n v1, delW bm mm n v2] w fun e w' => e = .returned (.bool true) ∧ Below w.heap.size w w' := by
  have ba := below_self_alloc w (delO bm mm n v1)
  have bb := below_self_alloc (w.alloc (delO bm mm n v1)) (delO bm mm n v2)
  have hsw : (w.alloc (delO bm mm n v1)).heap.size = w.heap.size + 1 := by simp
  obtain ⟨c0, c1, c2, c3⟩ := delO_cells ((Kept.new bb (fun _ => False)).old (heap_alloc_new w (delO bm mm n v1)) id)
  have hd := heap_alloc_new (w.alloc (delO bm mm n v1)) (delO bm mm n v2)
  rw [hsw] at hd
  obtain ⟨d0, d1, d2, d3⟩ := delO_cells hd
  have HB := Lib.hid (ba.trans (bb.mono ba.size))
  have SE := Lib.hid (stepsEq_any N1 N2 v1 v2 l _ ((h1.keep ba).keep bb) ((h2.keep ba).keep bb) hl)
  obtain ⟨a1, k1, rfl⟩ := h1.slice
  obtain ⟨a2, k2, rfl⟩ := h2.slice
  have q1 : (bm == bm) = true := by simp
  have q2 : (mm == mm) = true := by simp
  have q3 : (n == n) = true := by simp
  clear ba bb hsw hd h1 h2
  go_enter Try.func20, Try.ntmps20
  go_wp2_with fail
  generalize (w.alloc (.cells #[.string ⟨bm.toArray⟩, .string ⟨mm.toArray⟩, .int .i64 n, .slice a1 l.length k1] 24)).alloc (.cells #[.string ⟨bm.toArray⟩, .string ⟨mm.toArray⟩, .int .i64 n, .slice a2 l.length k2] 24) = w2 at *
  refine SE.out.mono ?_
  rintro e w3 ⟨rfl, hb3⟩
  go_wp2_with fail
  go_ret
  exact ⟨rfl, HB.out.trans (hb3.mono HB.out.size)⟩
end Go.Proofs.Ytpkgjokehgihjaa
