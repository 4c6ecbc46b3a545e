/- The walks of stage 13's laws, of the landed box (ChunkLandW: cutC, boxC, nilC). -/
import Derived.Test.YtiknfohadnjkiaaBoxC
import Derived.Test.YtiknfohadnjkiaaChunkBackW
import Derived.Test.YtiknfohadnjkiaaChunkCutsW
import Derived.Test.YtiknfohadnjkiaaChunkLongW
import Derived.Test.YtiknfohadnjkiaaChunkManyW
import Derived.Test.YtiknfohadnjkiaaChunkMath
import Derived.Test.YtiknfohadnjkiaaChunkNobodyW
import Derived.Test.YtiknfohadnjkiaaChunkOtherW
import Derived.Test.YtiknfohadnjkiaaChunkPlaysW
import Derived.Test.YtiknfohadnjkiaaChunkStepW
import Derived.Test.YtiknfohadnjkiaaGrowIW
import Derived.Test.YtiknfohadnjkiaaLandBoxCW
import Derived.Test.YtiknfohadnjkiaaLandCutW
import Derived.Test.YtiknfohadnjkiaaLandNilW
import Derived.Test.YtiknfohadnjkiaaLandPutW
import Derived.Test.YtiknfohadnjkiaaRefKeep2W
import Derived.Test.YtiknfohadnjkiaaRowN
import Derived.Test.YtiknfohadnjkiaaRows
import Derived.Test.YtiknfohadnjkiaaShelf
import Derived.BigQuiet
import Derived.BigRegion
import Derived.Deep.Draws
import Derived.Deep.QuietTactic
import Derived.Deep.RegionHeld3
import Derived.Laws.Bits128
import Derived.Laws.Concat
import Derived.Laws.Externs
import Derived.Laws.IdiomStrings
import Derived.Laws.OwnMore
import Derived.Laws.ResultCell
import Derived.Lib.AppendStr
import Derived.Lib.Builder
import Derived.Lib.Hide
import Derived.Lib.Strings
import Derived.Lib.Walk
import Derived.OpenShut
import Derived.Outline
import Derived.ProofKit
import Derived.ShutString
import Derived.SizedLaws
import Derived.SliceStrings
import Derived.WalkKit
import Derived.WalkLawsBesides
import Derived.WalkSpells
set_option linter.unusedVariables false
namespace Go.Proofs.Ytiknfohadnjkiaa
open Go.RowKit

theorem chunkCuts_walk (s : List UInt8) (hs : s.length ≤ 140737488351232) (size : Int) (h1 : -9223372036854775808 ≤ size) (h2 : size ≤ 9223372036854775807) (w : World) :
    Calls Try.prog 3 #[.string ⟨s.toArray⟩, .int .i64 size] w fun e w' => e = .returned (.bool true) ∧ Below w.heap.size w w' := chunkCuts_walk_of cutC s size ⟨h1, h2⟩ w hs
theorem chunkNobody_walk (p : PartD) (hp : PartOk p) (n : Int) (h1 : -9223372036854775808 ≤ n) (h2 : n ≤ 9223372036854775807) (w : World) :
    Calls Try.prog 9 #[partV p, .int .i64 n] w fun e w' => e = .returned (.bool true) ∧ Below w.heap.size w w' := chunkNobody_walk_of cutC nilC p n hp ⟨h1, h2⟩ w
theorem chunkMany_walk (n : Int) (h1 : -9223372036854775808 ≤ n) (h2 : n ≤ 9223372036854775807) (w : World) :
    Calls Try.prog 7 #[.int .i64 n] w fun e w' => e = .returned (.bool true) ∧ Below w.heap.size w w' := chunkMany_walk_of cutC boxC n ⟨h1, h2⟩ w
theorem chunkBack_walk (s : List UInt8) (hs : s.length ≤ 140737488351232) (size : Int) (h1 : -9223372036854775808 ≤ size) (h2 : size ≤ 9223372036854775807) (v : Value) (ol : List Int) (w : World) (hrow : RowN encI1 1 (· < w.heap.size) w v ol) (hol : ol.length ≤ 140737488351232) (hok : ∀ x ∈ ol, -9223372036854775808 ≤ x ∧ x ≤ 9223372036854775807) :
    Calls Try.prog 5 #[.string ⟨s.toArray⟩, .int .i64 size, v] w fun e w' => e = .returned (.bool true) ∧ Below w.heap.size w w' := chunkBack_walk_of cutC boxC s size v ol ⟨h1, h2⟩ w hs hrow hol hok
theorem chunkPlays_walk (n : Int) (h1 : -9223372036854775808 ≤ n) (h2 : n ≤ 9223372036854775807) (v : Value) (l : List OpC) (w : World) (hrow : RowN encOc 5 (· < w.heap.size) w v l) (hl : l.length ≤ 140737488351232) (hok : ∀ x ∈ l, OpOk x) :
    Calls Try.prog 4 #[.int .i64 n, v] w fun e w' => e = .returned (.bool true) ∧ Below w.heap.size w w' := chunkPlays_walk_of cutC boxC n ⟨h1, h2⟩ v l w hrow hl hok
theorem chunkOther_walk (n : Int) (h1 : -9223372036854775808 ≤ n) (h2 : n ≤ 9223372036854775807) (at' : Int) (h3 : -9223372036854775808 ≤ at') (h4 : at' ≤ 9223372036854775807) (s : List UInt8) (hs : s.length ≤ 140737488351232) (t : List UInt8) (ht : t.length ≤ 140737488351232) (w : World) :
    Calls Try.prog 6 #[.int .i64 n, .int .i64 at', .string ⟨s.toArray⟩, .string ⟨t.toArray⟩] w fun e w' => e = .returned (.bool true) ∧ Below w.heap.size w w' := chunkOther_walk_of cutC boxC n at' s t ⟨h1, h2⟩ ⟨h3, h4⟩ hs ht w
theorem chunkLong_walk (n : Int) (h1 : -9223372036854775808 ≤ n) (h2 : n ≤ 9223372036854775807) (w : World) :
    Calls Try.prog 8 #[.int .i64 n] w fun e w' => e = .returned (.bool true) ∧ Below w.heap.size w w' := chunkLong_walk_of cutC boxC n ⟨h1, h2⟩ w
end Go.Proofs.Ytiknfohadnjkiaa
