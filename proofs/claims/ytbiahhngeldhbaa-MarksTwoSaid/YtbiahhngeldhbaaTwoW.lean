/- The walk of the law MarksTwo. -/
import Derived.Test.YtbiahhngeldhbaaIdealsW
set_option linter.unusedVariables false
namespace Go.Proofs.Ytbiahhngeldhbaa
open Go.RowKit

def Apart (v1 v2 : Value) : Prop := ∀ g, v1.ownBlock = some g → v2.ownBlock ≠ some g
theorem Apart.symm {v1 v2 : Value} (h : Apart v1 v2) : Apart v2 v1 := fun g hg e => h g e hg
/-- A list's row is no book, whichever. -/
theorem row_book {w : World} {base q q' : Nat} {v v' : Value} {S S' : List Txt} (h : RefAt w base q v S) (h' : RefAt w base q' v' S') : ∀ g, v.ownBlock = some g → g ≠ q' := by
  rintro g hg rfl
  rcases h.own.2 with ⟨rfl, _⟩ | ⟨g', cap, cur, rfl, _, hgg, _⟩
  · simp [Value.ownBlock] at hg
  · simp [Value.ownBlock] at hg
    subst hg
    have := h'.book
    rw [hgg] at this
    simp at this
theorem book_map {w : World} {p bm p' bm' : Nat} {S S' : List Txt} (h : IdealAt w p bm S) (h' : IdealAt w p' bm' S') : p' ≠ bm := by
  rintro rfl
  exact h.no_cells h'.book
/-- What a call of the one turned leaves the other as it was. -/
theorem other_kept {w w' : World} {base p1 bm1 q1 p2 bm2 q2 : Nat} {v1 v1' v2 : Value} {S1 S2 : List Txt} (h1 : IdealAt w p1 bm1 S1) (r1 : RefAt w base q1 v1 S1) (h2 : IdealAt w p2 bm2 S2) (r2 : RefAt w base q2 v2 S2)
    (hb : bm1 ≠ bm2) (hq : q1 ≠ q2) (hv : Apart v1 v2) (hk : Kept (fun g => g = bm1 ∨ g = q1 ∨ v1.ownBlock = some g) w w') (hm : Moved w v1 v1') :
    IdealAt w' p2 bm2 S2 ∧ RefAt w' base q2 v2 S2 ∧ Apart v1' v2 := by
  have n1 := pair_ne h2 r1
  have n2 := pair_ne h1 r2
  refine ⟨h2.kept hk ?_ ?_, r2.kept hk ?_ ?_, ?_⟩
  · rintro (e | e | e)
    · exact book_map h1 h2 e
    · exact n1.1 e
    · exact (n1.2.2 p2 e).1 rfl
  · rintro (e | e | e)
    · exact hb e.symm
    · exact n1.2.1 e.symm
    · exact (n1.2.2 bm2 e).2 rfl
  · rintro (e | e | e)
    · exact n2.2.1 e
    · exact hq e.symm
    · exact row_book r1 r2 q2 e rfl
  · rintro g hg (e | e | e)
    · exact (n2.2.2 g hg).2 e
    · exact row_book r2 r1 g hg e
    · exact hv g e hg
  · intro g hg e
    rcases hm g hg with h | h
    · exact hv g h e
    · have := (r2.lt.2 g e).2
      omega

/-- Both pairs. -/
structure Pairs (w : World) (base p1 bm1 q1 p2 bm2 q2 : Nat) (v1 v2 : Value) (S1 S2 : List Txt) : Prop where
  i1 : IdealAt w p1 bm1 S1
  r1 : RefAt w base q1 v1 S1
  i2 : IdealAt w p2 bm2 S2
  r2 : RefAt w base q2 v2 S2
  ap : Apart v1 v2
theorem Pairs.symm {w : World} {base p1 bm1 q1 p2 bm2 q2 : Nat} {v1 v2 : Value} {S1 S2 : List Txt} (h : Pairs w base p1 bm1 q1 p2 bm2 q2 v1 v2 S1 S2) : Pairs w base p2 bm2 q2 p1 bm1 q1 v2 v1 S2 S1 :=
  ⟨h.i2, h.r2, h.i1, h.r1, h.ap.symm⟩
/-- A call of the first pair. -/
theorem step_pairs (w : World) (base p1 bm1 q1 p2 bm2 q2 : Nat) (v1 v2 : Value) (S1 S2 : List Txt) (h : Pairs w base p1 bm1 q1 p2 bm2 q2 v1 v2 S1 S2) (hn : S1.length ≤ 1000) (hbase : base ≤ w.heap.size) (hb : bm1 ≠ bm2) (hq : q1 ≠ q2) (hbm : base ≤ bm1)
    (k n : Int) (t m : Txt) (hok : OpOk n t) :
    Calls Try.prog 18 #[ptrV p1, ptrV q1, opV k n t m] w fun e w' => ∃ v' S', e = .returned (.bool true) ∧ S'.length ≤ S1.length + 1 ∧ Pairs w' base p1 bm1 q1 p2 bm2 q2 v' v2 S' S2 ∧ Below base w w' := by
  refine (step_ideal w p1 bm1 base q1 v1 S1 h.i1 h.r1 hn hbase k n t m hok.2.2 hok.1 hok.2.1).mono ?_
  rintro e w' ⟨v', S', rfl, hS, hid, href, hk, hmv⟩
  obtain ⟨a, b, c⟩ := other_kept h.i1 h.r1 h.i2 h.r2 hb hq h.ap hk hmv
  exact ⟨v', S', rfl, hS, ⟨hid, href, a, b, c⟩, pair_below (p := p1) hk h.r1 hbase hbm⟩
/-- .. of the second. -/
theorem step_pairs2 (w : World) (base p1 bm1 q1 p2 bm2 q2 : Nat) (v1 v2 : Value) (S1 S2 : List Txt) (h : Pairs w base p1 bm1 q1 p2 bm2 q2 v1 v2 S1 S2) (hn : S2.length ≤ 1000) (hbase : base ≤ w.heap.size) (hb : bm1 ≠ bm2) (hq : q1 ≠ q2) (hbm : base ≤ bm2)
    (k n : Int) (t m : Txt) (hok : OpOk n t) :
    Calls Try.prog 18 #[ptrV p2, ptrV q2, opV k n t m] w fun e w' => ∃ v' S', e = .returned (.bool true) ∧ S'.length ≤ S2.length + 1 ∧ Pairs w' base p1 bm1 q1 p2 bm2 q2 v1 v' S1 S' ∧ Below base w w' := by
  refine (step_pairs w base p2 bm2 q2 p1 bm1 q1 v2 v1 S2 S1 h.symm hn hbase hb.symm hq.symm hbm k n t m hok).mono ?_
  rintro e w' ⟨v', S', rfl, hS, hp, hb'⟩
  exact ⟨v', S', rfl, hS, hp.symm, hb'⟩

set_option maxRecDepth 100000 in
set_option maxHeartbeats 3200000 in
theorem marksTwo_walk (va : Value) (la : Nat) (vc : Value) (lc : Nat) (w : World) (ha : Quads w va la) (hc : Quads w vc lc) :
    Calls Try.prog 8 #[va, vc] w fun e w' => e = .returned (.bool true) ∧ Below w.heap.size w w' := by
  have hla := ha.len
  have hlc := hc.len
  obtain ⟨aa, ca, rfl, _, ha2⟩ := ha
  obtain ⟨ac, cc, rfl, _, hc2⟩ := hc
  have HA := Lib.hid ha2; clear ha2
  have HC := Lib.hid hc2; clear hc2
  go_enter Try.func8, Try.ntmps8
  go_wp2_with fail
  refine (ideal_any _).mono ?_
  rintro e w1 ⟨p1, bm1, rfl, hid1, hp1, hbm1, hb1⟩
  have HI1 := Lib.hid hid1; clear hid1
  go_wp2_with fail
  refine (ideal_any _).mono ?_
  rintro e w2 ⟨p2, bm2, rfl, hid2, hp2, hbm2, hb2⟩
  have s1 := hb1.size
  have s2 := hb2.size
  have hbmne : bm1 ≠ bm2 := by have := HI1.out.lt; omega
  have PP : Pairs ((w2.alloc (.cells #[.bool false, .slice none 0 0] 32)).alloc (.cells #[.bool false, .slice none 0 0] 32)) w.heap.size p1 bm1 w2.heap.size p2 bm2 (w2.heap.size + 1) (.slice none 0 0) (.slice none 0 0) [] [] := by
    have k1 : Below w2.heap.size w2 (w2.alloc (.cells #[.bool false, .slice none 0 0] 32)) := (Below.refl _ _).alloc (Nat.le_refl _) _
    have e1 : (w2.alloc (.cells #[.bool false, .slice none 0 0] 32)).heap.size = w2.heap.size + 1 := by simp
    have k2 : Below (w2.alloc (.cells #[.bool false, .slice none 0 0] 32)).heap.size (w2.alloc (.cells #[.bool false, .slice none 0 0] 32)) ((w2.alloc (.cells #[.bool false, .slice none 0 0] 32)).alloc (.cells #[.bool false, .slice none 0 0] 32)) := (Below.refl _ _).alloc (Nat.le_refl _) _
    have r2 := refBook_new (w2.alloc (.cells #[.bool false, .slice none 0 0] 32)) w.heap.size (by rw [e1]; omega)
    rw [e1] at r2
    exact ⟨((HI1.out.new hb2).new k1).new k2, (refBook_new w2 w.heap.size (by omega)).new k2, (hid2.new k1).new k2, r2, fun g hg => by simp [Value.ownBlock] at hg⟩
  have B3 : Below w.heap.size w ((w2.alloc (.cells #[.bool false, .slice none 0 0] 32)).alloc (.cells #[.bool false, .slice none 0 0] 32)) := ((hb1.trans (hb2.mono s1)).alloc (by omega) _).alloc (by simp; omega) _
  have HP := Lib.hid PP; clear PP hid2
  have HB := Lib.hid B3; clear B3
  obtain ⟨q1, hq1⟩ : ∃ q, q = w2.heap.size := ⟨_, rfl⟩
  obtain ⟨q2, hq2⟩ : ∃ q, q = w2.heap.size + 1 := ⟨_, rfl⟩
  go_wp2_with fail
  generalize (w2.alloc (.cells #[.bool false, .slice none 0 0] 32)).alloc (.cells #[.bool false, .slice none 0 0] 32) = w3 at *
  have q12 : w2.heap.size ≠ w2.heap.size + 1 := by omega
  have hbm2' : w.heap.size ≤ bm2 := by omega
  generalize w2.heap.size = q1 at *
  generalize q1 + 1 = q2 at *
  clear hq1 hq2
  go_loopw [9] (fun i wr => ∃ (k : Nat) (v1 v2 : Value) (S1 S2 : List Txt), k ≤ 30 ∧ i = .int .i64 k ∧ S1.length ≤ k ∧ S2.length ≤ k ∧ Pairs wr w.heap.size p1 bm1 q1 p2 bm2 q2 v1 v2 S1 S2 ∧ Below w.heap.size w wr) (fun i _ => 30 - (intOf i).toNat)
  case atStart => exact ⟨0, _, _, [], [], by omega, rfl, by simp, by simp, HP.out, HB.out⟩
  case round =>
    obtain ⟨k, v1, v2, S1, S2, hk, rfl, hS1, hS2, hpp, hbel⟩ := hrel
    have HPP := Lib.hid hpp; clear hpp
    have hbw := hbel.size
    by_cases hgo : k < 30
    · by_cases h1 : k < la
      · obtain ⟨b1, off1, k1, n1, t1, m1, rfl, hb1', hop1, hok1⟩ := HA.out k h1
        obtain ⟨a0, a1, a2, a3⟩ := hop1.below hbel hb1'
        have ST := Lib.hid (step_pairs wr w.heap.size p1 bm1 q1 p2 bm2 q2 v1 v2 S1 S2 HPP.out (by omega) hbw hbmne q12 hbm1 k1 n1 t1 m1 hok1)
        clear hop1 hok1
        go_wp2_with fail
        refine ST.out.mono ?_
        rintro e w4 ⟨v1', S1', rfl, hS1', hpp4, hb4⟩
        have HP4 := Lib.hid hpp4; clear hpp4 a0 a1 a2 a3 ST
        have B4 := hbel.trans hb4
        have s4 := B4.size
        clear hbel hb4
        by_cases h2 : k < lc
        · obtain ⟨b2, off2, k2, n2, t2, m2, rfl, hb2', hop2, hok2⟩ := HC.out k h2
          obtain ⟨a0, a1, a2, a3⟩ := hop2.below B4 hb2'
          have ST := Lib.hid (step_pairs2 w4 w.heap.size p1 bm1 q1 p2 bm2 q2 v1' v2 S1' S2 HP4.out (by omega) s4 hbmne q12 hbm2' k2 n2 t2 m2 hok2)
          clear hop2 hok2
          go_wp2_with fail
          refine ST.out.mono ?_
          rintro e w5 ⟨v2', S2', rfl, hS2', hpp5, hb5⟩
          have HP5 := Lib.hid hpp5; clear hpp5 a0 a1 a2 a3 ST
          have B5 := B4.trans hb5
          clear hb5
          go_wp2
          go_roundw
          case rel => exact ⟨k + 1, v1', v2', S1', S2', by omega, by go_num, by omega, by omega, HP5.out, B5⟩
          case measure => simp [intOf]; omega
        · go_wp2
          go_roundw
          case rel => exact ⟨k + 1, v1', v2, S1', S2, by omega, by go_num, by omega, by omega, HP4.out, B4⟩
          case measure => simp [intOf]; omega
      · by_cases h2 : k < lc
        · obtain ⟨b2, off2, k2, n2, t2, m2, rfl, hb2', hop2, hok2⟩ := HC.out k h2
          obtain ⟨a0, a1, a2, a3⟩ := hop2.below hbel hb2'
          have ST := Lib.hid (step_pairs2 wr w.heap.size p1 bm1 q1 p2 bm2 q2 v1 v2 S1 S2 HPP.out (by omega) hbw hbmne q12 hbm2' k2 n2 t2 m2 hok2)
          clear hop2 hok2
          go_wp2_with fail
          refine ST.out.mono ?_
          rintro e w5 ⟨v2', S2', rfl, hS2', hpp5, hb5⟩
          have HP5 := Lib.hid hpp5; clear hpp5 a0 a1 a2 a3 ST
          have B5 := hbel.trans hb5
          clear hb5
          go_wp2
          go_roundw
          case rel => exact ⟨k + 1, v1, v2', S1, S2', by omega, by go_num, by omega, by omega, HP5.out, B5⟩
          case measure => simp [intOf]; omega
        · go_wp2
          go_roundw
          case rel => exact ⟨k + 1, v1, v2, S1, S2, by omega, by go_num, by omega, by omega, HPP.out, hbel⟩
          case measure => simp [intOf]; omega
    · go_wp2_with fail
      refine (awake_any _).mono ?_
      rintro e w5 ⟨rfl, hb5⟩
      go_wp2
      go_ret
      exact ⟨rfl, hbel.trans (hb5.mono hbel.size)⟩
end Go.Proofs.Ytbiahhngeldhbaa
