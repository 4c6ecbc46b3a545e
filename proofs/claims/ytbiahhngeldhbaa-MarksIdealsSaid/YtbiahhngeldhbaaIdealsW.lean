/- The walk of the law MarksIdeals. -/
import Derived.Test.YtbiahhngeldhbaaStep3W
import Derived.Test.YtbiahhngeldhbaaOps3
set_option linter.unusedVariables false
namespace Go.Proofs.Ytbiahhngeldhbaa
open Go.RowKit

theorem ready_ideal (w : World) (p bm : Nat) (S : List Txt) (h : IdealAt w p bm S) : Calls Try.prog 19 #[.pointer (some ⟨p, 0, none⟩)] w fun e w' => e = .returned (.bool true) ∧ w = w' := by
  have C1 := Lib.hid (isReal_any w p none (some bm) h.book)
  have C2 := Lib.hid (isIdeal_any w p none (some bm) h.book)
  clear h
  go_enter Try.func19, Try.ntmps19
  go_wp2_with fail
  refine C1.out.mono ?_
  rintro e w' ⟨rfl, rfl⟩
  go_wp2_with fail
  refine C2.out.mono ?_
  rintro e w' ⟨rfl, rfl⟩
  go_wp2
  go_ret
  exact ⟨rfl, rfl⟩
theorem refBook_new (w : World) (base : Nat) (hb : base ≤ w.heap.size) : RefAt (w.alloc (.cells #[.bool false, .slice none 0 0] 32)) base w.heap.size (.slice none 0 0) [] :=
  ⟨heap_alloc_new _ _, OwnL.nil _ _ _ _, hb⟩
/-- What a call turned lies behind where the law began. -/
theorem pair_below {w w' : World} {B p bm q : Nat} {v : Value} {S : List Txt} (hk : Kept (fun g => g = bm ∨ g = q ∨ v.ownBlock = some g) w w') (hr : RefAt w B q v S) (hB : B ≤ w.heap.size) (hm : B ≤ bm) : Below B w w' :=
  hk.below hB (fun k e => by
    rcases e with rfl | rfl | e
    · exact hm
    · exact hr.at'
    · exact (hr.lt.2 k e).1)

set_option maxRecDepth 100000 in
set_option maxHeartbeats 1600000 in
theorem marksIdeals_walk (v : Value) (len : Nat) (w : World) (hv : Quads w v len) :
    Calls Try.prog 4 #[v] w fun e w' => e = .returned (.bool true) ∧ Below w.heap.size w w' := by
  have hlen := hv.len
  rcases hv.cases with ⟨rfl, a, cap, rfl⟩ | ⟨b, off, cap, rfl, hb, hc⟩
  · go_enter Try.func4, Try.ntmps4
    go_wp2_with fail
    refine (ideal_any _).mono ?_
    rintro e w1 ⟨p, bm, rfl, hid1, hp, hbm, hb1⟩
    have b2 : Below w.heap.size w (w1.alloc (.cells #[.bool false, .slice none 0 0] 32)) := hb1.alloc hb1.size _
    have HI := Lib.hid (hid1.new ((Below.refl _ _).alloc (Nat.le_refl _) (.cells #[.bool false, .slice none 0 0] 32)))
    clear hid1
    go_wp2_with fail
    generalize w1.alloc (.cells #[.bool false, .slice none 0 0] 32) = w2 at *
    refine wp_loop_rounds 1 ?_
    rw [rounds_succ]
    go_wp2_with fail
    refine (ready_ideal _ _ _ _ HI.out).mono ?_
    rintro e w' ⟨rfl, rfl⟩
    go_wp2_with fail
    refine (awake_any _).mono ?_
    rintro e w5 ⟨rfl, hb5⟩
    go_wp2
    go_ret
    exact ⟨rfl, b2.trans (hb5.mono b2.size)⟩
  · have HC := Lib.hid hc; clear hc
    go_enter Try.func4, Try.ntmps4
    go_wp2_with fail
    refine (ideal_any _).mono ?_
    rintro e w1 ⟨p, bm, rfl, hid1, hp, hbm, hb1⟩
    have b2 : Below w.heap.size w (w1.alloc (.cells #[.bool false, .slice none 0 0] 32)) := hb1.alloc hb1.size _
    have HI := Lib.hid (hid1.new ((Below.refl _ _).alloc (Nat.le_refl _) (.cells #[.bool false, .slice none 0 0] 32)))
    have HR := Lib.hid (refBook_new w1 w.heap.size hb1.size)
    clear hid1
    go_wp2_with fail
    generalize w1.alloc (.cells #[.bool false, .slice none 0 0] 32) = w2 at *
    go_loopw [5] (fun i wr => ∃ (k : Nat) (v : Value) (S : List Txt), k ≤ len ∧ k ≤ 80 ∧ i = .int .i64 k ∧ S.length ≤ k ∧ IdealAt wr p bm S ∧ RefAt wr w.heap.size w1.heap.size v S ∧ Below w.heap.size w wr) (fun i _ => 80 - (intOf i).toNat)
    case atStart => exact ⟨0, _, [], by omega, by omega, rfl, by simp, HI.out, HR.out, b2⟩
    case round =>
      obtain ⟨k, v1, S, hk, hk80, rfl, hS, hid, href, hbel⟩ := hrel
      have HI1 := Lib.hid hid; clear hid
      have HR1 := Lib.hid href; clear href
      have hbw := hbel.size
      by_cases hgo : k < len ∧ k < 80
      · obtain ⟨hlt, h80⟩ := hgo
        obtain ⟨kd, n, t, m, hop, hok⟩ := HC.out k hlt
        have hop1 := hop.below hbel hb
        obtain ⟨a0, a1, a2, a3⟩ := hop1
        have ST := Lib.hid (step_ideal wr p bm w.heap.size w1.heap.size v1 S HI1.out HR1.out (by omega) hbw kd n t m hok.2.2 hok.1 hok.2.1)
        clear hop hok
        go_wp2_with fail
        refine ST.out.mono ?_
        rintro e w3 ⟨v', S', rfl, hS', hid3, href3, hk3, hmv⟩
        have B3 := Lib.hid (hbel.trans (pair_below (p := p) hk3 HR1.out hbw hbm))
        have HI3 := Lib.hid hid3; clear hid3
        have HR3 := Lib.hid href3; clear href3 hk3 a0 a1 a2 a3
        go_wp2
        go_roundw
        case rel => exact ⟨k + 1, v', S', by omega, by omega, by go_num, by omega, HI3.out, HR3.out, B3.out⟩
        case measure => simp [intOf]; omega
      · by_cases hlt : k < len
        all_goals
          have h41 : ¬ k < len ∨ ¬ k < 80 := by omega
          clear hgo
          go_wp2_with fail
          refine (ready_ideal _ _ _ _ HI1.out).mono ?_
          rintro e w' ⟨rfl, rfl⟩
          go_wp2_with fail
          refine (awake_any _).mono ?_
          rintro e w5 ⟨rfl, hb5⟩
          go_wp2
          go_ret
          exact ⟨rfl, hbel.trans (hb5.mono hbel.size)⟩
end Go.Proofs.Ytbiahhngeldhbaa
