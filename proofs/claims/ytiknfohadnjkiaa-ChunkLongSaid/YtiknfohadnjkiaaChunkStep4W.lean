/- Stage 13's laws: a text asked of both boxes, walked. -/
import Derived.Test.YtiknfohadnjkiaaBoxC
import Derived.Test.YtiknfohadnjkiaaChunkMath
import Derived.Test.YtiknfohadnjkiaaChunkStepW
import Derived.Test.YtiknfohadnjkiaaFrame
import Derived.Test.YtiknfohadnjkiaaGen
import Derived.Test.YtiknfohadnjkiaaOwnL
import Derived.Test.YtiknfohadnjkiaaRefBoxW
import Derived.Test.YtiknfohadnjkiaaRefKeep2W
import Derived.Test.YtiknfohadnjkiaaRowN
import Derived.Test.YtiknfohadnjkiaaRows
import Derived.BigQuiet
import Derived.Deep.QuietTactic
import Derived.Deep.RegionHeld3
import Derived.Laws.ResultCell
import Derived.Lib.Hide
import Derived.Outline
import Derived.WalkKit
import Derived.WalkLawsBesides
import Derived.WalkSpells
set_option linter.unusedVariables false
namespace Go.Proofs.Ytiknfohadnjkiaa
open Go.RowKit

set_option maxRecDepth 100000 in
set_option maxHeartbeats 4000000 in
theorem step13_text {BX : World → Nat → (Nat → Prop) → BoxS → Prop} (BC : BoxC BX) (o : OpC) (ho : OpOk o) (hk : o.kind = 2) (w : World) (b : Nat) (N : Nat → Prop) (base q g c : Nat) (st : BoxS) (hx : BX w b N st) (hd : DocB w base q g c st) (hq : ¬ N q) (hg : ¬ N g) :
    Calls Try.prog 17 #[.pointer (some ⟨b, 0, none⟩), .pointer (some ⟨q, 0, none⟩), opV o] w fun e w' => e = .returned (.bool true) ∧ ∃ N', BX w' b N' (stepB st o) ∧ DocB w' base q g c (stepB st o) ∧ ¬ N' q ∧ ¬ N' g ∧ (∀ i, N' i → N i ∨ w.heap.size ≤ i) ∧ Kept (fun i => N i ∨ i = g) w w' := by
  have HST := Lib.hid (show stepB st o = st by unfold stepB; rw [if_neg (by omega), if_pos (.inr hk)])
  have hbA : Below w.heap.size w (w.alloc (.cells #[.int .i64 o.kind, .int .i64 o.n, .int .i64 o.part.at', .int .i64 o.part.of', .string ⟨o.part.text.toArray⟩] 42)) := (Below.refl _ w).alloc (Nat.le_refl _) _
  have hlt := hd.lt
  have HS0 := Lib.hid (show SSt BX w (w.alloc (.cells #[.int .i64 o.kind, .int .i64 o.n, .int .i64 o.part.at', .int .i64 o.part.of', .string ⟨o.part.text.toArray⟩] 42)) b N N base q g c w.heap.size st st o from
    ⟨BC.kept hx (Kept.new hbA (fun _ => False)) (fun _ _ h => h), hd.new hbA, heap_alloc_new w _, fun i h => .inl h, hq, hg, fun h => absurd (BC.lt hx _ h) (Nat.lt_irrefl _), by omega, by omega, Kept.new hbA _⟩)
  rw [HST.out]
  have hml : ((missB st).map (fun i : Nat => (i : Int))).length = leftB st := by rw [List.length_map, missB_len _ _ rfl]
  clear hx hd hbA hlt HST
  obtain ⟨k, n, ⟨pa, po, pt⟩⟩ := o
  dsimp only at hk
  subst hk
  unfold opV
  dsimp only at *
  go_enter Try.func17, Try.ntmps17
  obtain ⟨c0, c1, c2, c3, c4⟩ := HS0.out.c2
  dsimp only at c0 c1 c2 c3 c4
  go_wp2_with fail
  generalize w.alloc (.cells #[.int .i64 2, .int .i64 n, .int .i64 pa, .int .i64 po, .string ⟨pt.toArray⟩] 42) = wA at *
  have TX := Lib.hid (BC.text HS0.out.bx)
  by_cases hl : 0 < leftB st
  · have e1 : textE st = 3 := by unfold textE; rw [if_pos hl]
    have e2 : textB st = [] := by unfold textB; rw [if_pos hl]
    rw [e1, e2] at TX
    clear e1 e2 c0 c1 c2 c3 c4
    refine TX.out.mono ?_
    rintro e w1 ⟨rfl, hb1⟩
    have HS1 := Lib.hid (HS0.out.new BC hb1)
    clear hb1 TX
    go_wp2_with fail
    refine (refMissing13_any w1 base q g c st HS1.out.doc).mono ?_
    rintro e w2 ⟨v2, rfl, ho2, hb2⟩
    have HS2 := Lib.hid (HS1.out.new BC hb2)
    obtain ⟨a2, k2, hv2, _⟩ := (OwnN.row encI1_ok ho2).slice
    rw [hml] at hv2
    subst hv2
    clear ho2 hb2
    have j1 : (0 : Int) < (leftB st : Int) := by omega
    generalize leftB st = lf at *
    go_wp2_with fail
    go_ret
    exact ⟨rfl, N, HS2.out.bx, HS2.out.doc, HS2.out.nq, HS2.out.ng, HS2.out.nw, HS2.out.kp⟩
  · have e1 : textE st = 0 := by unfold textE; rw [if_neg hl]
    have e2 : textB st = allB st := by unfold textB; rw [if_neg hl]
    rw [e1, e2] at TX
    clear e1 e2 c0 c1 c2 c3 c4
    refine TX.out.mono ?_
    rintro e w1 ⟨rfl, hb1⟩
    have HS1 := Lib.hid (HS0.out.new BC hb1)
    clear hb1 TX
    go_wp2_with fail
    refine (refMissing13_any w1 base q g c st HS1.out.doc).mono ?_
    rintro e w2 ⟨v2, rfl, ho2, hb2⟩
    have HS2 := Lib.hid (HS1.out.new BC hb2)
    obtain ⟨a2, k2, hv2, _⟩ := (OwnN.row encI1_ok ho2).slice
    rw [hml] at hv2
    subst hv2
    clear ho2 hb2
    have AL := Lib.hid (refAll13_any w2 base q g c st HS2.out.doc)
    have j1 : ¬ (0 : Int) < (leftB st : Int) := by omega
    have q1 : (allB st == allB st) = true := by simp
    generalize allB st = al at *
    generalize leftB st = lf at *
    go_wp2_with fail
    refine AL.out.mono ?_
    rintro e w3 ⟨rfl, ew⟩
    subst ew
    go_wp2_with fail
    go_ret
    exact ⟨rfl, N, HS2.out.bx, HS2.out.doc, HS2.out.nq, HS2.out.ng, HS2.out.nw, HS2.out.kp⟩
end Go.Proofs.Ytiknfohadnjkiaa
