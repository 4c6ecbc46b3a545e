/- Stage 13's laws: the chapter's example; a short part. -/
import Derived.Test.YtiknfohadnjkiaaBoxC
import Derived.Test.YtiknfohadnjkiaaChunkMath
import Derived.Test.YtiknfohadnjkiaaFrame
import Derived.Test.YtiknfohadnjkiaaGen
import Derived.Test.YtiknfohadnjkiaaOwnL
import Derived.Test.YtiknfohadnjkiaaOwnPut
import Derived.Test.YtiknfohadnjkiaaRefBoxW
import Derived.Test.YtiknfohadnjkiaaRowN
import Derived.Test.YtiknfohadnjkiaaRows
import Derived.BigQuiet
import Derived.Deep.QuietTactic
import Derived.Deep.RegionHeld3
import Derived.Laws.ResultCell
import Derived.Lib.Hide
import Derived.Outline
import Derived.WalkKit
import Derived.WalkLawsBesides
import Derived.WalkSpells
set_option linter.unusedVariables false
namespace Go.Proofs.Ytiknfohadnjkiaa
open Go.RowKit

set_option maxRecDepth 100000 in
set_option maxHeartbeats 2000000 in
theorem awake13_any (CU : CutC) (w : World) : Calls Try.prog 13 #[] w fun e w' => e = .returned (.bool true) ∧ Below w.heap.size w w' := by
  have C1 := Lib.hid (CU [97, 98, 99, 100, 101] 2 w (by decide) ⟨by decide, by decide⟩)
  have HE := Lib.hid (show cutE [97, 98, 99, 100, 101] 2 = 0 by decide)
  have HP := Lib.hid (show cutP [97, 98, 99, 100, 101] 2 = [⟨0, 3, [97, 98]⟩, ⟨1, 3, [99, 100]⟩, ⟨2, 3, [101]⟩] from rfl)
  rw [HE.out, HP.out] at C1
  go_enter Try.func13, Try.ntmps13
  go_wp2_with fail
  refine C1.out.mono ?_
  rintro e w2 ⟨v2, rfl, ho2, hb2⟩
  obtain ⟨g', c', hv, _, _, _, hel, _⟩ := ho2.atB encPt_ok (by simp)
  subst hv
  have HB := Lib.hid hb2
  have e0 : w2.cell? ⟨g', 6, none⟩ = some (.int .i64 2) := hel 2 (by decide) 0 _ rfl
  have e1 : w2.cell? ⟨g', 7, none⟩ = some (.int .i64 3) := hel 2 (by decide) 1 _ rfl
  have e2 : w2.cell? ⟨g', 8, none⟩ = some (.string ⟨#[101]⟩) := hel 2 (by decide) 2 _ rfl
  clear hel ho2 hb2 C1
  go_wp2_with fail
  go_ret
  exact ⟨rfl, HB.out⟩
theorem part_size : (Try.prog.info? 40).map (·.size) = some 3 := by kernel_rfl
theorem results_part {fn : Func} {p : Tmp} (h : fn.results = #[.cell p 40]) (tmps : Array Value) (w : World) (b : Nat) (B : Array Value) (hB : B.size = 3) (hp : tmps.getD p undef = .pointer (some ⟨b, 0, none⟩)) (hy : w.heap[b]? = some (.cells B 40 (0, 0))) :
    (results fn tmps).run Try.prog w = .ok (.agg B) w := by
  have hr : (results fn tmps).run Try.prog w = ((asAddr (tmps.getD p undef)).run Try.prog w).andThen fun a w₁ => (loadVar 40 a).run Try.prog w₁ := by
    simp only [results, h]
    simp [Sem.run_bind, Result.andThen]
  rw [hr, hp]
  have hl := run_loadVar_row (P := Try.prog) w b 40 40 _ _ _ hy Try.underlying40 rfl (by rw [hB]; exact part_size)
  simp [asAddr, Result.andThen, hl]
/-- A part cut to 300 bytes. -/
def shortP (p : PartD) : PartD := ⟨p.at', p.of', p.text.take 300⟩
theorem shortP_ok {p : PartD} (h : PartOk p) : PartOk (shortP p) := ⟨h.a, h.o, by unfold shortP; dsimp only; rw [List.length_take]; have := h.t; omega⟩
set_option maxRecDepth 100000 in
set_option maxHeartbeats 2000000 in
theorem short13_any (p : PartD) (w : World) (hp : PartOk p) : Calls Try.prog 25 #[partV p] w fun e w' => e = .returned (partV (shortP p)) ∧ Below w.heap.size w w' := by
  obtain ⟨xa, xo, xt⟩ := p
  have ht := hp.t
  dsimp only at ht
  have SX := Lib.hid (show (⟨xt.toArray⟩ : ByteArray).size = xt.length from rfl)
  unfold partV
  dsimp only
  by_cases h3 : 300 < xt.length
  · have j1 : (300 : Int) < (xt.length : Int) := by omega
    have x1 : (⟨xt.toArray⟩ : ByteArray).extract 0 300 = ⟨(xt.take 300).toArray⟩ := take_toArray xt 300
    unfold shortP
    dsimp only
    generalize xt.take 300 = xs at *
    have hbA := (Below.refl w.heap.size w).alloc (Nat.le_refl _) (.cells #[.int .i64 xa, .int .i64 xo, .string ⟨xs.toArray⟩] 40)
    have HBB := Lib.hid (hbA.alloc (by simp) (.cells #[.int .i64 xa, .int .i64 xo, .string ⟨xs.toArray⟩] 40))
    have HX := Lib.hid (by
      have := heap_alloc_new (w.alloc (.cells #[.int .i64 xa, .int .i64 xo, .string ⟨xs.toArray⟩] 40)) (.cells #[.int .i64 xa, .int .i64 xo, .string ⟨xs.toArray⟩] 40)
      rw [World.size_alloc] at this
      exact this)
    clear hbA
    go_enter Try.func25, Try.ntmps25
    go_wp2_with fail
    exact bodyPost_ret (results_part Try.results25 _ _ _ _ rfl rfl HX.out) rfl ⟨rfl, HBB.out⟩
  · have j1 : ¬ (300 : Int) < (xt.length : Int) := by omega
    have HS := Lib.hid (show shortP ⟨xa, xo, xt⟩ = ⟨xa, xo, xt⟩ by unfold shortP; dsimp only; rw [List.take_of_length_le (by omega)])
    rw [HS.out]
    dsimp only
    have hbA := (Below.refl w.heap.size w).alloc (Nat.le_refl _) (.cells #[.int .i64 xa, .int .i64 xo, .string ⟨xt.toArray⟩] 40)
    have HBB := Lib.hid (hbA.alloc (by simp) (.cells #[.int .i64 xa, .int .i64 xo, .string ⟨xt.toArray⟩] 40))
    have HX := Lib.hid (by
      have := heap_alloc_new (w.alloc (.cells #[.int .i64 xa, .int .i64 xo, .string ⟨xt.toArray⟩] 40)) (.cells #[.int .i64 xa, .int .i64 xo, .string ⟨xt.toArray⟩] 40)
      rw [World.size_alloc] at this
      exact this)
    clear hbA
    go_enter Try.func25, Try.ntmps25
    go_wp2_with fail
    exact bodyPost_ret (results_part Try.results25 _ _ _ _ rfl rfl HX.out) rfl ⟨rfl, HBB.out⟩
end Go.Proofs.Ytiknfohadnjkiaa
