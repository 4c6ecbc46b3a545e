/- Walks of the law's cut and of Sent. -/
import Derived.Test.YtfblkhmhelmjlaaDelX
import Derived.Test.YtfblkhmhelmjlaaFrame
import Derived.Test.YtfblkhmhelmjlaaGen
import Derived.Test.YtfblkhmhelmjlaaOwnL
import Derived.Test.YtfblkhmhelmjlaaProg
import Derived.Test.YtfblkhmhelmjlaaRowKeep
import Derived.Test.YtfblkhmhelmjlaaRows
import Derived.Test.YtfblkhmhelmjlaaSignMath
import Derived.BigQuiet
import Derived.Deep.QuietTactic
import Derived.IntWalk
import Derived.Laws.Rows
import Derived.Laws.Tables
import Derived.Lib.Hide
import Derived.Outline
import Derived.WalkKit
import Derived.WalkLawsBesides
import Derived.WalkSpells
set_option linter.unusedVariables false
namespace Go.Proofs.Ytfblkhmhelmjlaa
open Go.RowKit

set_option maxRecDepth 100000 in
set_option maxHeartbeats 1000000 in
theorem cutD_any (s : List UInt8) (n : Nat) (w : World) (hn : n ≤ 1000000) (hl : s.length ≤ 140737488351232) :
    Calls Try.prog 10 #[.string ⟨s.toArray⟩, .int .i64 n] w fun e w' => e = .returned (.string ⟨(s.take n).toArray⟩) ∧ w = w' := by
  have L := Lib.hid (show (⟨s.toArray⟩ : ByteArray).size = s.length from rfl)
  by_cases h : n < s.length
  · have E := take_toArray s n
    go_enter Try.func10, Try.ntmps10
    go_wp2
    go_ret
    exact ⟨rfl, rfl⟩
  · have E := Lib.hid (show s.take n = s from List.take_of_length_le (by omega))
    go_enter Try.func10, Try.ntmps10
    go_wp2
    go_ret
    rw [E.out]
    exact ⟨rfl, rfl⟩

theorem sent_take_succ (l : List DSt) (k : Nat) (hk : k < l.length) : sentS (l.take (k + 1)) = sentS (l.take k) + l[k].txt.length := by
  rw [List.take_add_one, List.getElem?_eq_getElem hk, Option.toList, sent_append, sent_one]
theorem sent_take_le (l : List DSt) (k : Nat) : sentS (l.take k) ≤ sentS l := by
  have := sent_append (l.take k) (l.drop k)
  rw [List.take_append_drop] at this
  omega
set_option maxRecDepth 100000 in
set_option maxHeartbeats 1000000 in
theorem sentD_any (N : Nat → Prop) (v : Value) (l : List DSt) (w : World) (h : RowS N w v l) (hl : l.length ≤ 2000000) (hs : sentS l ≤ 1099511627776) :
    Calls Try.prog 19 #[v] w fun e w' => e = .returned (.int .i64 (sentS l : Nat)) ∧ Below w.heap.size w w' := by
  obtain ⟨a, c, rfl, hc⟩ := h
  have HC := Lib.hid hc; clear hc
  go_enter Try.func19, Try.ntmps19
  go_wp2
  go_loopw [3, 8] (fun n i wr => ∃ k : Nat, k ≤ l.length ∧ i = .int .i64 k ∧ n = .int .i64 (sentS (l.take k) : Nat) ∧ Below w.heap.size w wr) (fun _ i _ => l.length - (intOf i).toNat)
  case atStart => exact ⟨0, by omega, rfl, rfl, Below.refl _ _⟩
  case round =>
    obtain ⟨k, hk, rfl, rfl, hbel⟩ := hrel
    have HB := Lib.hid hbel; clear hbel
    by_cases hlt : k < l.length
    · obtain ⟨g, o, rfl, _, hst⟩ := HC.out k hlt
      have HS := Lib.hid (sent_take_succ l k hlt)
      have hle := sent_take_le l (k + 1)
      have hst' := hst.new HB.out
      generalize l[k] = x at *
      obtain ⟨p, m, t⟩ := x
      obtain ⟨d0, d1, d2⟩ := hst'
      dsimp only at d0 d1 d2 HS
      have i1 : (k : Int) < (l.length : Int) := by omega
      have i0 : (0 : Int) ≤ (k : Int) := by omega
      have TL := Lib.hid (show (⟨t.toArray⟩ : ByteArray).size = t.length from rfl)
      obtain ⟨q, hq⟩ : ∃ q, q = sentS (l.take k) := ⟨_, rfl⟩
      obtain ⟨q2, hq2⟩ : ∃ q2, q2 = sentS (l.take (k + 1)) := ⟨_, rfl⟩
      rw [← hq, ← hq2] at HS
      rw [← hq]
      rw [← hq2] at hle
      have HQ2 := Lib.hid hq2
      have hq5 : q2 ≤ 1099511627776 := by omega
      have hqt : q + t.length = q2 := HS.out.symm
      have WS : (q : Int) + (t.length : Int) = (q2 : Int) := by omega
      have hbb := below_self_alloc wr (.cells #[.int .i64 p, .int .i64 m, .string ⟨t.toArray⟩] 68)
      have HB2 := Lib.hid (HB.out.trans (hbb.mono HB.out.size))
      have c2 : (wr.alloc (.cells #[.int .i64 p, .int .i64 m, .string ⟨t.toArray⟩] 68)).cell? ⟨wr.heap.size, 2, none⟩ = some (.string ⟨t.toArray⟩) := by rw [cell_of_row _ _ _ _ _ _ (heap_alloc_new _ _)]; rfl
      clear hq hq2 hst hle hbb HS hqt
      go_wp2
      go_roundw
      case rel => exact ⟨k + 1, by omega, by go_num, by rw [← HQ2.out], HB2.out⟩
      case measure => simp [intOf]; omega
    · obtain rfl : k = l.length := by omega
      have i1 : ¬ (l.length : Int) < (l.length : Int) := by omega
      have HT := Lib.hid (show l.take l.length = l from List.take_length)
      go_wp2
      go_ret
      exact ⟨by rw [← HT.out]; simp [HT.out], HB.out⟩
end Go.Proofs.Ytfblkhmhelmjlaa
