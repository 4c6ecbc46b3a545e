/- The walk of newSums. -/
import Derived.Test.YtjgoceebjmnjcaaDoorSumsW
import Derived.BigQuiet
import Derived.WalkKit
import Derived.WalkSpells
import Derived.Lib.Hide
import Derived.WalkLawsBesides
import Derived.Outline
import Derived.Deep.Onto
import Derived.IntWalk
set_option linter.unusedVariables false
namespace Go.Proofs.YtjgoceebjmnjcaaDoor
open Go.RowKit

theorem bitLen_64k : Lib.bitLen 65536 = 17 := by decide +kernel
theorem zrow_slice {w : World} {base n : Nat} {v : Value} (h : ZRow w base v n) : ∃ p m cap, v = .slice p m cap := by
  rcases h.2 with ⟨rfl, _⟩ | ⟨g, cap, cur, rfl, _⟩
  · exact ⟨_, _, _, rfl⟩
  · exact ⟨_, _, _, rfl⟩
theorem newSums_at {w w1 : World} (l : List UInt8) (zv : Value) (hz : ZRow w1 (w.alloc (.cells #[.int .i64 0] 3)).heap.size zv 17) (hb : Below (w.alloc (.cells #[.int .i64 0] 3)).heap.size (w.alloc (.cells #[.int .i64 0] 3)) w1) (S : Nat) (hS : S = w1.heap.size) :
    SumsAt (w1.alloc (.cells #[.string ⟨l.toArray⟩, .slice (some ⟨w.heap.size, 0, none⟩) 1 1, zv] 75)) w.heap.size S l w.heap.size 1 zv [0] ∧
      Below w.heap.size w (w1.alloc (.cells #[.string ⟨l.toArray⟩, .slice (some ⟨w.heap.size, 0, none⟩) 1 1, zv] 75)) := by
  subst hS
  have hlt : w.heap.size < w1.heap.size := by have := hb.size; simp at this; omega
  have hblk : w1.heap[w.heap.size]? = some (.cells #[.int .i64 0] 3 (0, 0)) := by
    rw [hb.block w.heap.size (by simp)]
    exact heap_alloc_new _ _
  have hB0 : Below w.heap.size w (w.alloc (.cells #[.int .i64 0] 3)) := (Below.refl _ _).alloc (Nat.le_refl _) _
  refine ⟨⟨heap_alloc_new _ _, ?_, ?_, Good.start l, Nat.le_of_lt hlt⟩, hB0.trans ((hb.mono hB0.size).alloc (Nat.le_of_lt hlt) _)⟩
  · have own0 : OwnL encN w1 w.heap.size 3 (.slice (some ⟨w.heap.size, 0, none⟩) 1 1) [0] := by
      refine ⟨rfl, .inr ⟨w.heap.size, 1, _, rfl, Nat.le_refl _, hblk, ?_⟩⟩
      exact ⟨Nat.le_refl _, by decide, rfl, rfl⟩
    exact World.ownsRow.alloc own0 _
  · exact World.ownsRow.alloc (World.ownsRow.mono hz (by simp)) _

set_option maxRecDepth 100000 in
set_option maxHeartbeats 2000000 in
theorem newSums_any (l : List UInt8) (w : World) (ht : Tab w) (hT : BTab w) :
    Calls Tryd.prog 34 #[.string ⟨l.toArray⟩] w fun e w' => ∃ S kb cap zv, e = .returned (.pointer (some ⟨S, 0, none⟩)) ∧ SumsAt w' w.heap.size S l kb cap zv [0] ∧ Below w.heap.size w w' := by
  have hn : (65536 : Nat) ≤ 140737488351232 := by decide
  have Z := fun w hT ht => Lib.hid (zeros_any 65536 w hn ht hT)
  rw [bitLen_64k] at Z
  have hB0 : Below w.heap.size w (w.alloc (.cells #[.int .i64 0] 3)) := (Below.refl _ _).alloc (Nat.le_refl _) _
  have T := Lib.hid (ht.below hB0); clear ht
  have B := Lib.hid (hT.below hB0); clear hT hB0
  go_enter Tryd.func34, Tryd.ntmps34
  go_wp2_with fail
  refine (Z _ B.out T.out).out.mono ?_
  rintro e w1 ⟨zv, rfl, hz, hb1⟩
  obtain ⟨p, m, cap, rfl⟩ := zrow_slice hz
  have R := Lib.hid (newSums_at l _ hz hb1 _ rfl)
  clear hz hb1
  go_wp2
  go_ret
  exact ⟨_, _, _, _, rfl, R.out.1, R.out.2⟩
end Go.Proofs.YtjgoceebjmnjcaaDoor
