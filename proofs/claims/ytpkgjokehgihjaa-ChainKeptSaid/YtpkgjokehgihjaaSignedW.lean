/- A text signed by an ideal book. -/
import Derived.Test.YtpkgjokehgihjaaMarkMath
import Derived.Test.YtpkgjokehgihjaaTabX
import Derived.Test.YtpkgjokehgihjaaProg
import Derived.Test.YtpkgjokehgihjaaRightW
import Derived.Test.YtpkgjokehgihjaaRollMath
import Derived.Test.YtpkgjokehgihjaaRows
import Derived.Test.YtpkgjokehgihjaaShelf
import Derived.Test.YtpkgjokehgihjaaSignAW
import Derived.Test.YtpkgjokehgihjaaSignMath
import Derived.BigQuiet
import Derived.BigRegion
import Derived.ChangeAlike
import Derived.Deep.AppendLies
import Derived.Deep.CutBlock
import Derived.Deep.CutRange
import Derived.Deep.DeepCutAuto
import Derived.Deep.Draws
import Derived.Deep.QuietTactic
import Derived.Deep.RegionHeld3
import Derived.Deep.RegionLaw
import Derived.IntWalk
import Derived.Laws.Bits128
import Derived.Laws.BitsAllLaws
import Derived.Laws.IdiomStrings
import Derived.Laws.MakeOwn
import Derived.Laws.Rows
import Derived.Laws.Tables
import Derived.Lib.AppendStr
import Derived.Lib.Hide
import Derived.Maps.OwnSet
import Derived.Maps.Views
import Derived.OpenShut
import Derived.Outline
import Derived.ProofKit
import Derived.RegionTactic
import Derived.Shelf.Abstract
import Derived.ShutString
import Derived.SizedLaws
import Derived.SliceStrings
import Derived.Sort.Walk0
import Derived.StillTailTactics
import Derived.WalkKit
import Derived.WalkLawsBesides
import Derived.WalkSpells
set_option linter.unusedVariables false
namespace Go.Proofs.Ytpkgjokehgihjaa
open Go.RowKit

theorem wk_below (l : Txt) : wk l < 4294967296 := by have := lo_lt l; have := hi_lt l; show lo l + 65536 * hi l < _; omega
theorem rightS_sign (b : Nat) (l : Txt) (ms : List Txt) (hb : 16 ≤ b) (hb2 : b ≤ 1024) (hl : l.length ≤ 524288) (hm : ms.length = (cutS b l).length) (h32 : ∀ m ∈ ms, m.length = 32) :
    rightS b l.length (((cutS b l).map wk).map (fun n : Nat => (n : Int))) ms = true := by
  unfold rightS
  have e : nBlk (l.length : Int).toNat (b : Int).toNat = (cutS b l).length := by rw [Int.toNat_natCast, Int.toNat_natCast, cutS_length b (by omega)]; rfl
  rw [(okB_iff b).2 (by omega), (okN_iff _).2 (by omega), e, List.length_map, List.length_map, hm, decide_eq_true rfl]
  simp only [Bool.true_and, Bool.and_eq_true, List.all_eq_true]
  refine ⟨fun n hn => ?_, fun m hm => by simpa [markOk] using h32 m hm⟩
  obtain ⟨k, hk, rfl⟩ := List.mem_map.1 hn
  obtain ⟨t, _, rfl⟩ := List.mem_map.1 hk
  have := wk_below t
  simp [sumOk]
  omega
theorem marks_len32 (S : List Txt) (ts : List Txt) : ∀ m ∈ ts.map (fun t => numM (noS S t)), m.length = 32 := by
  intro m hm
  obtain ⟨t, _, rfl⟩ := List.mem_map.1 hm
  exact numM_length _
/-- A text signed by an ideal book. -/
theorem signed_of {B : Nat} {l : Txt} {ms S : List Txt} (hb : 16 ≤ B) (hb2 : B ≤ 1024) (hl : l.length ≤ 3000) (mk : Marked nxI mkI [] (cutS B l) ms S) :
    Signed B l (cutS B l) S (((cutS B l).map wk).map (fun n : Nat => (n : Int))) ms (l.length / B) := by
  obtain ⟨e1, e2⟩ := marked_ideal mk
  exact ⟨hb, hb2, hl, rfl, e1, rfl, e2, rfl⟩
theorem Signed.right {B : Nat} {s : Txt} {L S : List Txt} {ws : List Int} {ms : List Txt} {N : Nat} (h : Signed B s L S ws ms N) : rightS B s.length ws ms = true := by
  rw [h.hws, h.hL]
  refine rightS_sign B s ms h.b1 h.b2 (by have := h.sl; omega) (by rw [h.lm, h.hL]) ?_
  rw [h.hms]
  exact marks_len32 S L
end Go.Proofs.Ytpkgjokehgihjaa
