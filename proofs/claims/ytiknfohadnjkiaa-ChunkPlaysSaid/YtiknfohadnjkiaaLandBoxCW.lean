/- The landed box (chunk) keeps BoxC. -/
import Derived.Test.YtiknfohadnjkiaaBoxC
import Derived.Test.YtiknfohadnjkiaaChunkFillM
import Derived.Test.YtiknfohadnjkiaaFrame
import Derived.Test.YtiknfohadnjkiaaGen
import Derived.Test.YtiknfohadnjkiaaGrowIW
import Derived.Test.YtiknfohadnjkiaaLandBox1W
import Derived.Test.YtiknfohadnjkiaaLandClearW
import Derived.Test.YtiknfohadnjkiaaLandMissW
import Derived.Test.YtiknfohadnjkiaaLandNewW
import Derived.Test.YtiknfohadnjkiaaLandPutW
import Derived.Test.YtiknfohadnjkiaaLandTextW
import Derived.Test.YtiknfohadnjkiaaOwnL
import Derived.Test.YtiknfohadnjkiaaRefBoxW
import Derived.Test.YtiknfohadnjkiaaRowN
import Derived.Test.YtiknfohadnjkiaaRows
import Derived.Test.YtiknfohadnjkiaaShelf
import Derived.BigQuiet
import Derived.Deep.QuietTactic
import Derived.Deep.RegionHeld3
import Derived.Laws.Externs
import Derived.Laws.OwnMore
import Derived.Laws.ResultCell
import Derived.Lib.AppendStr
import Derived.Lib.Builder
import Derived.Lib.Hide
import Derived.Lib.Strings
import Derived.Lib.Walk
import Derived.Outline
import Derived.WalkKit
import Derived.WalkLawsBesides
import Derived.WalkSpells
set_option linter.unusedVariables false
namespace Go.Proofs.Ytiknfohadnjkiaa
open Go.RowKit

theorem boxC : BoxC BX13 where
  nb := fun ⟨_, _, _, hN⟩ => (hN _).2 (.inl rfl)
  lt := fun ⟨_, _, h, hN⟩ i hi => by
    obtain ⟨a, b⟩ := h.lt
    rcases (hN i).1 hi with e | e <;> omega
  len := fun ⟨_, _, h, _⟩ => h.len
  kept := fun ⟨_, _, h, hN⟩ hk hm => (h.kept hk (fun i hi => hm i ((hN i).2 hi))).two hN
  newOk := fun n w h1 h2 => by
    obtain ⟨m, hm⟩ : ∃ m : Nat, m = n.toNat := ⟨_, rfl⟩
    have hn : n = (m : Int) := by omega
    subst hn
    rw [Int.toNat_natCast]
    exact newOk13_any m w (by omega) (by omega)
  newBad := fun n w h hn => newBad13_any n w h hn
  put := fun {w b N st} p ⟨g, c, h, hN⟩ hp => by
    refine (put13_any h p hp).mono ?_
    rintro e w' ⟨rfl, hx, hk⟩
    exact ⟨N, rfl, hx.two hN, fun i hi => .inl hi, hk.mono (fun i _ e => (hN i).2 e)⟩
  of := fun ⟨_, _, h, hN⟩ => by
    refine (of13_any h).mono ?_
    rintro e w' ⟨rfl, ew⟩
    exact ⟨rfl, by rw [ew]; exact Below.refl _ _⟩
  left := fun ⟨_, _, h, hN⟩ => by
    refine (left13_any h).mono ?_
    rintro e w' ⟨rfl, ew⟩
    exact ⟨rfl, by rw [ew]; exact Below.refl _ _⟩
  missing := fun most ⟨_, _, h, hN⟩ hm => missing13_any h most hm
  text := fun ⟨_, _, h, hN⟩ => text13_any h
  clear := fun {w b N st} ⟨g, c, h, hN⟩ => by
    refine (clear13_any h).mono ?_
    rintro e w' ⟨rfl, hx, hk⟩
    exact ⟨N, rfl, hx.two hN, fun i hi => .inl hi, hk.mono (fun i _ e => (hN i).2 e)⟩
end Go.Proofs.Ytiknfohadnjkiaa
