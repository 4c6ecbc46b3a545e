/- Behind its first error a reader reads nothing more: the walk of the statement CodeStops. -/
import Derived.Test.YtegdabdnbglhaaaStep
import Derived.Test.YtegdabdnbglhaaaOps
import Derived.WalkKit
import Derived.WalkSpells
import Derived.WalkLawsBesides
import Derived.BigQuiet
set_option linter.unusedVariables false
namespace Go.Proofs.Ytegdabdnbglhaaa
open Go.RowKit

theorem refMade (W : World) (er : Int) : (W.alloc (.cells #[.string ⟨#[]⟩, .int .i64 0, .int .i64 er] 48)).cell? ⟨W.heap.size, 2, none⟩ = some (.int .i64 er) := by
  rw [World.cell?_alloc_at _ _ _ _ rfl]; rfl

set_option maxRecDepth 100000 in
set_option maxHeartbeats 1600000 in
theorem codeStops_walk (s : List UInt8) (hs : s.length ≤ 140737488351232) (n : Int) (hn0 : -9223372036854775808 ≤ n) (hn1 : n ≤ 9223372036854775807) (v : Value) (len : Nat) (w : World)
    (hv : Triples (· < w.heap.size) w v len) (hlen : len * 24 ≤ 140737488351232) :
    Calls Try.prog 9 #[.string ⟨s.toArray⟩, .int .i64 n, v] w fun e w' => e = .returned (.bool true) ∧ Below w.heap.size w w' := by
  obtain ⟨va, vcap, rfl, hcell⟩ := hv
  have Hv := Lib.hid hcell
  clear hcell
  by_cases hin : 0 ≤ n ∧ n ≤ s.length
  · obtain ⟨i1, i2⟩ := hin
    clear Hv
    go_enter Try.func9, Try.ntmps9
    go_wp2_with fail
    refine (awake_any _).mono ?_
    rintro e w1 ⟨rfl, hb⟩
    go_wp2
    go_ret
    exact ⟨rfl, hb⟩
  · have herr : ∃ er, er ≠ 0 ∧ rRaw ⟨s, 0⟩ n = ([], (⟨[], er⟩ : RS)) := by
      by_cases h0 : n < 0
      · exact ⟨1, by decide, by rw [rRaw_neg _ _ h0]; rfl⟩
      · exact ⟨3, by decide, by rw [rRaw_long _ _ h0 (by show (s.length : Int) < n; omega)]; rfl⟩
    obtain ⟨er, hne, hraw⟩ := herr
    have Hraw := Lib.hid hraw; clear hraw
    have hz : (er != 0) = true := by simp [hne]
    have Hne := Lib.hid hne; clear hne
    have hself := int_self er
    have hout : n < 0 ∨ (0 ≤ n ∧ (s.length : Int) < n) := by omega
    clear hin
    have hd : (0 ≤ n ∧ (s.length : Int) < n) → decide (n ≤ (s.length : Int)) = false := fun h => by simp; omega
    have hout2 : n < 0 ∨ (0 ≤ n ∧ (s.length : Int) < n ∧ decide (n ≤ (s.length : Int)) = false) := by
      rcases hout with h | h
      · exact .inl h
      · exact .inr ⟨h.1, h.2, hd h⟩
    clear hout hd
    rcases hout2 with g1 | ⟨g0, g1, g2⟩
    all_goals
      go_enter Try.func9, Try.ntmps9
      go_wp2_with fail
      refine (read_any s w).mono ?_
      rintro e w1 ⟨rfl, hr1, hb1⟩
      have Hr := Lib.hid (raw_any w1 w.heap.size _ n hr1 (.inl rfl))
      rw [Hraw.out] at Hr
      go_wp2_with fail
      refine Hr.out.mono ?_
      rintro e w2 ⟨rfl, hr2, hk2⟩
      have hb02 : Below w.heap.size w w2 := hb1.trans (hk2.below hb1.size (fun k hk => by omega))
      clear hr1 hb1 hk2 Hr Hraw
      have He := Lib.hid (err_same w2 _ _ hr2)
      have Hl := Lib.hid (left_same w2 _ _ hr2)
      go_wp2_with fail
      refine He.out.mono ?_
      rintro e w0 ⟨rfl, rfl⟩
      go_wp2_with fail
      refine Hl.out.mono ?_
      rintro e w0 ⟨rfl, rfl⟩
      clear He Hl
      go_wp2_with fail
      go_loopw [10] (fun i wr => ∃ k : Nat, k ≤ len ∧ i = .int .i64 k ∧ Rd wr w.heap.size ⟨[], er⟩ ∧ Below w.heap.size w wr)
        (fun i _ => len - (intOf i).toNat)
      case atStart => exact ⟨0, by omega, rfl, hr2, hb02⟩
      case round =>
        obtain ⟨k, hk, rfl, hrr, hbr⟩ := hrel
        clear hr2 hb02
        by_cases hlt : k < len ∧ k < 60
        · obtain ⟨hlt, h60⟩ := hlt
          obtain ⟨b, off, kk, nn, mm, rfl, hN, q0, q1, q2⟩ := Hv.out k hlt
          have hsz := hbr.size
          have hgl := hrr.lt
          have hkq := Lib.hid ((Kept.refl (fun _ => False) wr).alloc (.cells #[.string ⟨#[]⟩, .int .i64 0, .int .i64 er] 48))
          have a0 : (wr.alloc (.cells #[.string ⟨#[]⟩, .int .i64 0, .int .i64 er] 48)).cell? ⟨b, off + k * 3, none⟩ = some (.int .i64 kk) := by
            rw [World.cell?_alloc_past _ _ _ (by show b < wr.heap.size; omega)]; exact (hbr.cell (p := ⟨b, off + k * 3, none⟩) hN).trans q0
          have a1 : (wr.alloc (.cells #[.string ⟨#[]⟩, .int .i64 0, .int .i64 er] 48)).cell? ⟨b, off + k * 3 + 1, none⟩ = some (.int .i64 nn) := by
            rw [World.cell?_alloc_past _ _ _ (by show b < wr.heap.size; omega)]; exact (hbr.cell (p := ⟨b, off + k * 3 + 1, none⟩) hN).trans q1
          have a2 : (wr.alloc (.cells #[.string ⟨#[]⟩, .int .i64 0, .int .i64 er] 48)).cell? ⟨b, off + k * 3 + 2, none⟩ = some (.int .i64 mm) := by
            rw [World.cell?_alloc_past _ _ _ (by show b < wr.heap.size; omega)]; exact (hbr.cell (p := ⟨b, off + k * 3 + 2, none⟩) hN).trans q2
          have hBoth : Both (wr.alloc (.cells #[.string ⟨#[]⟩, .int .i64 0, .int .i64 er] 48)) w.heap.size wr.heap.size er := ⟨hrr.kept hkq.out id, refMade wr er⟩
          have Hstep := Lib.hid (step_st _ _ _ er hBoth Hne.out kk nn mm)
          clear q0 q1 q2 hBoth
          go_wp2_with fail
          refine Hstep.out.mono ?_
          rintro e w3 ⟨rfl, hk3⟩
          have hkall := hkq.out.trans hk3
          have hr3 : Rd w3 w.heap.size ⟨[], er⟩ := hrr.kept hkall id
          have hb3 : Below w.heap.size w w3 := hbr.trans (hkall.below hbr.size (fun _ h => h.elim))
          clear a0 a1 a2 Hstep hkq hk3 hkall
          go_wp2
          go_roundw
          case rel => exact ⟨k + 1, by omega, by go_num, hr3, hb3⟩
          case measure => simp [intOf]; omega
        · have hor : len ≤ k ∨ (k < len ∧ 60 ≤ k) := by omega
          have He := Lib.hid (err_same wr _ _ hrr)
          have Hl := Lib.hid (left_same wr _ _ hrr)
          clear hlt Hv
          rcases hor with h1 | ⟨h1, h2⟩
          all_goals
            go_wp2_with fail
            refine He.out.mono ?_
            rintro e w0 ⟨rfl, rfl⟩
            go_wp2_with fail
            refine Hl.out.mono ?_
            rintro e w0 ⟨rfl, rfl⟩
            go_wp2_with fail
            refine (awake_any _).mono ?_
            rintro e wz ⟨rfl, hbz⟩
            go_wp2
            go_ret
            exact ⟨rfl, hbr.trans (hbz.mono hbr.size)⟩
end Go.Proofs.Ytegdabdnbglhaaa
