/- The walk of the law MarksReals: both real books answer alike. -/
import Derived.Test.YtbiahhngeldhbaaStep3W
import Derived.Test.YtbiahhngeldhbaaOps3
import Derived.Test.YtbiahhngeldhbaaRealW
import Derived.Test.YtbiahhngeldhbaaRefShaW
set_option linter.unusedVariables false
namespace Go.Proofs.Ytbiahhngeldhbaa
open Go.RowKit

/-- The document's own real book in block q. -/
def RefRealAt (w : World) (q : Nat) : Prop := w.heap[q]? = some (.cells #[.bool true, .slice none 0 0] 32 (0, 0))
theorem RefRealAt.c0 {w : World} {q : Nat} (h : RefRealAt w q) : w.cell? ⟨q, 0, none⟩ = some (.bool true) := by rw [cell_of_row _ _ _ _ _ _ h]; rfl
theorem RefRealAt.new {w w' : World} {q : Nat} (h : RefRealAt w q) (hb : Below w.heap.size w w') : RefRealAt w' q := (hb.block q (Array.getElem?_eq_some_iff.1 h).1).trans h
structure Reals (p kb q : Nat) (w : World) : Prop where
  a : RealAt w p kb
  b : RefRealAt w q
theorem Reals.new {p kb q : Nat} {w w' : World} (h : Reals p kb q w) (hb : Below w.heap.size w w') : Reals p kb q w' := ⟨h.a.new hb, h.b.new hb⟩

theorem refMark_real (w : World) (q : Nat) (s : Txt) (h : RefRealAt w q) (hl : s.length ≤ 1000000) :
    Calls Try.prog 30 #[.pointer (some ⟨q, 0, none⟩), .string ⟨s.toArray⟩] w fun e w' => e = .returned (.string ⟨(realM s).toArray⟩) ∧ Below w.heap.size w w' := by
  have C1 := Lib.hid (refSum_any s w hl)
  have c0 := h.c0
  unfold realM
  generalize shaS KL H0 s = r at *
  clear h
  go_enter Try.func30, Try.ntmps30
  go_wp2_with fail
  refine C1.out.mono ?_
  rintro e w1 ⟨rfl, hb1⟩
  have HB := Lib.hid hb1; clear hb1
  go_wp2_with fail
  go_ret
  exact ⟨rfl, HB.out⟩
theorem refIs_real (w : World) (q : Nat) (s m : Txt) (h : RefRealAt w q) (hl : s.length ≤ 1000000) :
    Calls Try.prog 31 #[.pointer (some ⟨q, 0, none⟩), .string ⟨s.toArray⟩, .string ⟨m.toArray⟩] w fun e w' => e = .returned (.bool (decide (realM s = m))) ∧ Below w.heap.size w w' := by
  have C1 := Lib.hid (refSum_any s w hl)
  have c0 := h.c0
  unfold realM
  generalize shaS KL H0 s = r at *
  clear h
  go_enter Try.func31, Try.ntmps31
  go_wp2_with fail
  refine C1.out.mono ?_
  rintro e w1 ⟨rfl, hb1⟩
  have HB := Lib.hid hb1; clear hb1
  go_wp2_with fail
  go_ret
  exact ⟨ret_bool (by rw [Bool.eq_iff_iff]; simp), HB.out⟩
theorem asked_reals (p kb q : Nat) : Asked p q (fun s m => decide (realM s = m)) (Reals p kb q) :=
  ⟨fun h hb => h.new hb, fun w s m h hl => is_real w p kb s m h.a (by omega), fun w s m h hl => refIs_real w q s m h.b (by omega)⟩

set_option maxRecDepth 100000 in
set_option maxHeartbeats 1600000 in
theorem step_real0 (p kb q : Nat) (w : World) (hst : Reals p kb q w) (k n : Int) (t m : Txt) (ht : t.length ≤ 140737488351232) (c0 : (k == 0) = true) :
    Calls Try.prog 18 #[ptrV p, ptrV q, opV k n t m] w fun e w' => e = .returned (.bool true) ∧ Below w.heap.size w w' := by
  have b0 : (w.alloc (opC k n t m)).cell? ⟨w.heap.size, 0, none⟩ = some (.int .i64 k) := by rw [cell_of_row _ _ _ _ _ _ (opC_at w k n t m)]; rfl
  have b2 : (w.alloc (opC k n t m)).cell? ⟨w.heap.size, 2, none⟩ = some (.string ⟨t.toArray⟩) := by rw [cell_of_row _ _ _ _ _ _ (opC_at w k n t m)]; rfl
  have hb0 : Below w.heap.size w (w.alloc (opC k n t m)) := (Below.refl _ _).alloc (Nat.le_refl _) _
  have HST := Lib.hid (hst.new hb0); clear hst
  have CUT := fun w' => Lib.hid (cut_any t 300 w' (by decide) ht)
  have hcl : (t.take 300).length ≤ 1000000 := Nat.le_trans (List.length_take_le _ _) (by decide)
  have H0' := Lib.hid hb0; clear hb0
  have MP := fun w' h => Lib.hid (mark_real w' p kb (t.take 300) h hcl)
  have MR := fun w' h => Lib.hid (refMark_real w' q (t.take 300) h hcl)
  generalize realM (t.take 300) = r at *
  go_enter Try.func18, Try.ntmps18
  go_wp2_with fail
  generalize w.alloc (opC k n t m) = W0 at *
  refine (CUT _).out.mono ?_
  rintro e w' ⟨rfl, rfl⟩
  generalize t.take 300 = s at *
  go_wp2_with fail
  refine (MP _ HST.out.a).out.mono ?_
  rintro e w1 ⟨rfl, hb1⟩
  have HST1 := Lib.hid (HST.out.new hb1)
  have B1 := Lib.hid (H0'.out.trans (hb1.mono H0'.out.size)); clear hb1
  go_wp2_with fail
  refine (MR _ HST1.out.b).out.mono ?_
  rintro e w2 ⟨rfl, hb2⟩
  have B2 := Lib.hid (B1.out.trans (hb2.mono B1.out.size)); clear hb2
  go_wp2_with fail
  go_ret
  exact ⟨rfl, B2.out⟩
theorem step_real (p kb q : Nat) (w : World) (hst : Reals p kb q w) (k n : Int) (t m : Txt) (ht : t.length ≤ 140737488351232) (hn1 : -9223372036854775808 ≤ n) (hn2 : n ≤ 9223372036854775807) :
    Calls Try.prog 18 #[ptrV p, ptrV q, opV k n t m] w fun e w' => e = .returned (.bool true) ∧ Below w.heap.size w w' := by
  cases c0 : (k == 0)
  · exact step_ask p q _ _ (asked_reals p kb q) w hst k n t m ht hn1 hn2 c0
  · exact step_real0 p kb q w hst k n t m ht c0
theorem refReal_new (w : World) : RefRealAt (w.alloc (.cells #[.bool true, .slice none 0 0] 32)) w.heap.size := heap_alloc_new _ _

set_option maxRecDepth 100000 in
set_option maxHeartbeats 1600000 in
theorem marksReals_walk (v : Value) (len : Nat) (w : World) (hv : Quads w v len) :
    Calls Try.prog 5 #[v] w fun e w' => e = .returned (.bool true) ∧ Below w.heap.size w w' := by
  have hlen := hv.len
  rcases hv.cases with ⟨rfl, a, cap, rfl⟩ | ⟨b, off, cap, rfl, hb, hc⟩
  · go_enter Try.func5, Try.ntmps5
    go_wp2_with fail
    refine (real_any _).mono ?_
    rintro e w1 ⟨p, kb, rfl, hid1, hp, hkb, hb1⟩
    have b2 : Below w.heap.size w (w1.alloc (.cells #[.bool true, .slice none 0 0] 32)) := hb1.alloc hb1.size _
    have HI := Lib.hid (hid1.new ((Below.refl _ _).alloc (Nat.le_refl _) (.cells #[.bool true, .slice none 0 0] 32)))
    clear hid1
    go_wp2_with fail
    generalize w1.alloc (.cells #[.bool true, .slice none 0 0] 32) = w2 at *
    refine wp_loop_rounds 1 ?_
    unfold Code.rounds
    go_wp2_with fail
    refine (ready_real _ _ _ HI.out).mono ?_
    rintro e w' ⟨rfl, mm, rfl⟩
    have b3 := Below_drewN b2 mm
    generalize w2.drewN mm = w3 at *
    go_wp2_with fail
    refine (awake_any _).mono ?_
    rintro e w5 ⟨rfl, hb5⟩
    go_wp2
    go_ret
    exact ⟨rfl, b3.trans (hb5.mono b3.size)⟩
  · have HC := Lib.hid hc; clear hc
    go_enter Try.func5, Try.ntmps5
    go_wp2_with fail
    refine (real_any _).mono ?_
    rintro e w1 ⟨p, kb, rfl, hid1, hp, hkb, hb1⟩
    have b2 : Below w.heap.size w (w1.alloc (.cells #[.bool true, .slice none 0 0] 32)) := hb1.alloc hb1.size _
    have HI := Lib.hid (hid1.new ((Below.refl _ _).alloc (Nat.le_refl _) (.cells #[.bool true, .slice none 0 0] 32)))
    have HR := Lib.hid (refReal_new w1)
    clear hid1
    go_wp2_with fail
    generalize w1.alloc (.cells #[.bool true, .slice none 0 0] 32) = w2 at *
    obtain ⟨q, hq⟩ : ∃ q, q = w1.heap.size := ⟨_, rfl⟩
    rw [← hq] at HR ⊢
    clear hq hb1 hp hkb
    have HS := Lib.hid (show Reals p kb q w2 from ⟨HI.out, HR.out⟩)
    clear HI HR
    go_loopw [5] (fun i wr => ∃ (k : Nat), k ≤ len ∧ k ≤ 4 ∧ i = .int .i64 k ∧ Reals p kb q wr ∧ Below w.heap.size w wr) (fun i _ => 4 - (intOf i).toNat)
    case atStart => exact ⟨0, by omega, by omega, rfl, HS.out, b2⟩
    case round =>
      obtain ⟨k, hk, hk80, rfl, hst, hbel⟩ := hrel
      have HST := Lib.hid hst; clear hst
      have hbw := hbel.size
      by_cases hgo : k < len ∧ k < 4
      · obtain ⟨hlt, h80⟩ := hgo
        obtain ⟨kd, n, t, m, hop, hok⟩ := HC.out k hlt
        have hop1 := hop.below hbel hb
        obtain ⟨a0, a1, a2, a3⟩ := hop1
        have ST := Lib.hid (step_real p kb q wr HST.out kd n t m hok.2.2 hok.1 hok.2.1)
        clear hop hok
        go_wp2_with fail
        refine ST.out.mono ?_
        rintro e w3 ⟨rfl, hb3⟩
        have B3 := Lib.hid (hbel.trans (hb3.mono hbw))
        have HS3 := Lib.hid (HST.out.new hb3)
        clear hb3 a0 a1 a2 a3
        go_wp2
        go_roundw
        case rel => exact ⟨k + 1, by omega, by omega, by go_num, HS3.out, B3.out⟩
        case measure => simp [intOf]; omega
      · by_cases hlt : k < len
        all_goals
          have h41 : ¬ k < len ∨ ¬ k < 4 := by omega
          clear hgo
          go_wp2_with fail
          refine (ready_real _ _ _ HST.out.a).mono ?_
          rintro e w' ⟨rfl, mm, rfl⟩
          have b3 := Below_drewN hbel mm
          generalize wr.drewN mm = w3 at *
          go_wp2_with fail
          refine (awake_any _).mono ?_
          rintro e w5 ⟨rfl, hb5⟩
          go_wp2
          go_ret
          exact ⟨rfl, b3.trans (hb5.mono b3.size)⟩
end Go.Proofs.Ytbiahhngeldhbaa
