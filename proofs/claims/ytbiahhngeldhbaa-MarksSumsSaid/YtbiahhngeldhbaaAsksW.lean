/- Walks of the laws MarksAsks and MarksHonest. -/
import Derived.Test.YtbiahhngeldhbaaBookW
import Derived.Test.YtbiahhngeldhbaaArgs3
set_option linter.unusedVariables false
namespace Go.Proofs.Ytbiahhngeldhbaa
open Go.RowKit

theorem below_only {a b : World} {B bm : Nat} (h : Kept (· = bm) a b) (hB : B ≤ a.heap.size) (hm : B ≤ bm) : Below B a b := h.below hB (fun k e => by omega)

set_option maxRecDepth 100000 in
set_option maxHeartbeats 800000 in
theorem marksAsks_walk (v : Value) (xs : List Txt) (m : Txt) (hm : m.length ≤ 140737488351232) (w : World) (hv : Texts w v xs) :
    Calls Try.prog 9 #[v, .string ⟨m.toArray⟩] w fun e w' => e = .returned (.bool true) ∧ Below w.heap.size w w' := by
  have M1 := fun w' p bm h => Lib.hid (mark_at w' p bm [] [102, 105, 114, 115, 116] 1 [[102, 105, 114, 115, 116]] h (by decide) (by decide) (by decide) (by decide))
  have M2 := fun w' p bm h => Lib.hid (mark_at w' p bm [[102, 105, 114, 115, 116]] [115, 101, 99, 111, 110, 100] 2 [[102, 105, 114, 115, 116], [115, 101, 99, 111, 110, 100]] h (by decide) (by decide) (by decide) (by decide))
  have IS := fun w' p bm (x : Txt) h hx => Lib.hid (is_ideal w' p bm [[102, 105, 114, 115, 116]] x m h hx (by decide))
  have N2 := fun w' => Lib.hid (number_any 2 w' (by decide))
  generalize numM 1 = m1 at *
  generalize numM 2 = m2 at *
  have each := hv.each
  have hlen := hv.len
  have Each := Lib.hid each; clear each
  rcases hv.cases with ⟨rfl, a, cap, rfl⟩ | ⟨b, off, cap, rfl, hcap, hb, hc⟩
  · go_enter Try.func9, Try.ntmps9
    go_wp2_with fail
    refine (ideal_any _).mono ?_
    rintro e w1 ⟨p, bm, rfl, hid1, hp, hbm, hb1⟩
    have HI := Lib.hid hid1; clear hid1
    go_wp2_with fail
    refine (M1 _ _ _ HI.out).out.mono ?_
    rintro e w2 ⟨rfl, hid2, hk2⟩
    have HI2 := Lib.hid hid2; clear hid2
    go_wp2_with fail
    refine wp_loop_rounds 1 ?_
    rw [rounds_succ]
    go_wp2_with fail
    refine (M2 _ _ _ HI2.out).out.mono ?_
    rintro e w3 ⟨rfl, hid3, hk3⟩
    go_wp2_with fail
    refine (N2 _).out.mono ?_
    rintro e w4 ⟨rfl, hb4⟩
    go_wp2_with fail
    refine (awake_any _).mono ?_
    rintro e w5 ⟨rfl, hb5⟩
    go_wp2
    go_ret
    have b2 := hb1.trans (below_only hk2 hb1.size hbm)
    have b3 := b2.trans (below_only hk3 b2.size hbm)
    have b4 := b3.trans (hb4.mono b3.size)
    exact ⟨rfl, b4.trans (hb5.mono b4.size)⟩
  · have HC := Lib.hid hc; clear hc
    go_enter Try.func9, Try.ntmps9
    go_wp2_with fail
    refine (ideal_any _).mono ?_
    rintro e w1 ⟨p, bm, rfl, hid1, hp, hbm, hb1⟩
    have HI := Lib.hid hid1; clear hid1
    go_wp2_with fail
    refine (M1 _ _ _ HI.out).out.mono ?_
    rintro e w2 ⟨rfl, hid2, hk2⟩
    have HI2 := Lib.hid hid2; clear hid2
    have B2 := hb1.trans (below_only hk2 hb1.size hbm)
    clear hk2 hb1 HI
    go_wp2_with fail
    go_loopw [6] (fun i wr => ∃ k : Nat, k ≤ xs.length ∧ k ≤ 40 ∧ i = .int .i64 k ∧ IdealAt wr p bm [[102, 105, 114, 115, 116]] ∧ Below w.heap.size w wr) (fun i _ => 40 - (intOf i).toNat)
    case atStart => exact ⟨0, by omega, by omega, rfl, HI2.out, B2⟩
    case round =>
      obtain ⟨k, hk, hk40, rfl, hid, hbel⟩ := hrel
      have HI := Lib.hid hid; clear hid
      have hbw := hbel.size
      by_cases hgo : k < xs.length ∧ k < 40
      · obtain ⟨hlt, h40⟩ := hgo
        have hcell : wr.cell? ⟨b, off + k, none⟩ = some (encT xs[k]) := (hbel.cell (p := ⟨b, off + k, none⟩) hb).trans (HC.out k hlt)
        have hxk := Each.out _ (List.getElem_mem hlt)
        generalize xs[k] = x at *
        go_wp2_with fail
        refine (IS _ _ _ _ HI.out hxk).out.mono ?_
        rintro e w3 ⟨rfl, hb3⟩
        have HI3 := Lib.hid (HI.out.new hb3)
        go_wp2
        go_roundw
        case rel => exact ⟨k + 1, by omega, by omega, by go_num, HI3.out, hbel.trans (hb3.mono hbw)⟩
        case measure => simp [intOf]; omega
      · by_cases hlt : k < xs.length
        all_goals
          have h40 : ¬ (k < xs.length ∧ k < 40) := hgo
          clear hgo
          have h41 : ¬ k < xs.length ∨ ¬ k < 40 := by omega
          have M2' := M2 _ _ _ HI.out
          go_wp2_with fail
          refine M2'.out.mono ?_
          rintro e w3 ⟨rfl, hid3, hk3⟩
          go_wp2_with fail
          refine (N2 _).out.mono ?_
          rintro e w4 ⟨rfl, hb4⟩
          go_wp2_with fail
          refine (awake_any _).mono ?_
          rintro e w5 ⟨rfl, hb5⟩
          go_wp2
          go_ret
          have b3 := hbel.trans (below_only hk3 hbel.size hbm)
          have b4 := b3.trans (hb4.mono b3.size)
          exact ⟨rfl, b4.trans (hb5.mono b4.size)⟩
end Go.Proofs.Ytbiahhngeldhbaa
