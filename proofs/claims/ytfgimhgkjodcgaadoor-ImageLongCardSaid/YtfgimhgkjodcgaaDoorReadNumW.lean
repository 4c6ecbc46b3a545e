/- Walks of package code's reader: Num. -/
import Derived.Test.YtfgimhgkjodcgaaDoorGen
import Derived.Test.YtfgimhgkjodcgaaDoorReadMath
import Derived.Test.YtfgimhgkjodcgaaDoorReadW
import Derived.Test.YtfgimhgkjodcgaaDoorRows
import Derived.BigQuiet
import Derived.WalkKit
import Derived.WalkLawsBesides
import Derived.WalkSpells
set_option linter.unusedVariables false
namespace Go.Proofs.YtfgimhgkjodcgaaDoor
open Go.RowKit

set_option maxRecDepth 100000 in
set_option maxHeartbeats 1600000 in
theorem rnum_any (w : World) (g : Nat) (s : RS) (h : Rd w g s) (hok : s.ok) :
    Calls Tryd.prog 60 #[ptr g] w (Does w g (.int .i64 (rNum s).1) (rNum s).2) := by
  go_enter Tryd.func60, Tryd.ntmps60
  go_wp2
  go_loopw [3, 6] (fun v i wr => ∃ (k n : Nat) (t : RS), k ≤ 9 ∧ v = .int .i64 n ∧ i = .int .i64 k ∧ n < 128 ^ k ∧ Rd wr g t ∧ t.ok ∧ Kept (· = g) w wr ∧ rNum s = rNumF (9 - k) k n t)
    (fun _ i _ => 9 - (intOf i).toNat)
  case atStart => exact ⟨0, 0, s, by omega, rfl, rfl, by decide, h, hok, Kept.refl _ _, rfl⟩
  case round =>
    obtain ⟨k, n, t, hk, rfl, rfl, hn, hr, hok1, hkp, heq⟩ := hrel
    have Heq := Lib.hid heq; clear heq
    have Hn := Lib.hid hn; clear hn
    have Hb := Lib.hid (byte_any wr g t hr hok1)
    by_cases hk9 : k < 9
    · go_wp2_with fail
      refine Hb.out.mono ?_
      rintro e w1 ⟨rfl, hr1, hkp1⟩
      have hrange := rByte_range t
      obtain ⟨c, hc⟩ : ∃ c : Nat, (rByte t).1 = c := ⟨(rByte t).1.toNat, by omega⟩
      obtain ⟨t1, ht1⟩ : ∃ t1, (rByte t).2 = t1 := ⟨_, rfl⟩
      rw [hc]
      rw [ht1] at hr1
      have Hc := Lib.hid hc; clear hc
      have Ht1 := Lib.hid ht1; clear ht1
      clear hrange
      have Herr := Lib.hid (err_any w1 g t1 hr1)
      have Hfail := Lib.hid (fail_any w1 g t1 5 hr1)
      have h5 : (c ≤ 0 ∧ k ≤ 0) ∨ (c ≤ 0 ∧ 0 < k) ∨ (0 < c ∧ c ≤ 63) ∨ (63 < c ∧ 8 ≤ k) ∨ (63 < c ∧ k < 8) := by omega
      have hc128 := i64_and127 (c : Int)
      obtain ⟨f, hf⟩ : ∃ f, 9 - k = f + 1 := ⟨8 - k, by omega⟩
      have Hf := Lib.hid hf; clear hf
      have hfe := rFail_err t1 5 (by decide)
      rcases h5 with ⟨g1, g2⟩ | ⟨g1, g2⟩ | ⟨g1, g2⟩ | ⟨g1, g2⟩ | ⟨g1, g2⟩
      rotate_left 1
      · -- a byte 0 that is not the first
        have hz : ((c : Int) == 0) = true := by simp; omega
        have hbad := (rBad_iff k c).2 (.inl ⟨g1, g2⟩)
        have Hs := Lib.hid (rNumF_bad (f := f) (n := n) Hc.out Ht1.out hbad)
        clear hbad
        go_wp2_with fail
        refine Hfail.out.mono ?_
        rintro e w2 ⟨rfl, hr2, hkp2⟩
        have Herr2 := Lib.hid (err_any w2 g _ hr2)
        go_wp2_with fail
        refine Herr2.out.mono ?_
        rintro e w3 ⟨rfl, rfl⟩
        go_wp2
        go_ret
        rw [Heq.out, Hf.out, Hs.out]
        exact ⟨rfl, hr2, (hkp.trans hkp1).trans hkp2⟩
      rotate_left 1
      · -- the ninth, and above 63
        have hz : ((c : Int) == 0) = false := by simp; omega
        have h8 : ((k : Int) == 8) = true := by simp; omega
        have hbad := (rBad_iff k c).2 (.inr ⟨g1, by omega⟩)
        have Hs := Lib.hid (rNumF_bad (f := f) (n := n) Hc.out Ht1.out hbad)
        clear hbad
        go_wp2_with fail
        refine Hfail.out.mono ?_
        rintro e w2 ⟨rfl, hr2, hkp2⟩
        have Herr2 := Lib.hid (err_any w2 g _ hr2)
        go_wp2_with fail
        refine Herr2.out.mono ?_
        rintro e w3 ⟨rfl, rfl⟩
        go_wp2
        go_ret
        rw [Heq.out, Hf.out, Hs.out]
        exact ⟨rfl, hr2, (hkp.trans hkp1).trans hkp2⟩
      all_goals
        have hbad : rBad k (c : Int) = false := by
          rw [← Bool.not_eq_true, rBad_iff]; omega
        have hv := numVal n c k Hn.out (by omega) (by omega)
        have Hlt := Lib.hid (numVal_lt n c k Hn.out)
        cases hz : ((c : Int) == 0) <;> cases h8 : ((k : Int) == 8) <;> try (exfalso; simp at hz h8; omega)
      all_goals
        by_cases he : t1.e = 0
        · have hb1 : (t1.e != 0) = false := by simp [he]
          by_cases hlt : c < 128
          · have Hs := Lib.hid (rNumF_end (f := f) (n := n) Hc.out Ht1.out hbad he (by omega))
            clear hbad he
            go_wp2_with (go_at_call 61; refine Herr.out.mono ?_; rintro e w2 ⟨rfl, rfl⟩)
            go_ret
            rw [Heq.out, Hf.out, Hs.out]
            exact ⟨ret_int (by simp), hr1, hkp.trans hkp1⟩
          · first
              | (exfalso; omega)
              | (have Hs := Lib.hid (rNumF_go (f := f) (n := n) Hc.out Ht1.out hbad he (by omega))
                 clear hbad he
                 go_wp2_with (go_at_call 61; refine Herr.out.mono ?_; rintro e w2 ⟨rfl, rfl⟩)
                 go_roundw
                 case rel =>
                   refine ⟨k + 1, n + c % 128 * 128 ^ k, t1, by omega, rfl, by go_num, Hlt.out, hr1, ?_, hkp.trans hkp1, ?_⟩
                   · rw [← Ht1.out]; exact rByte_ok t hok1
                   · rw [Heq.out, Hf.out, Hs.out, show 9 - (k + 1) = f from by have := Hf.out; omega]
                     simp
                 case measure => simp [intOf]; omega)
        · have hb1 : (t1.e != 0) = true := by simp [he]
          have Hs := Lib.hid (rNumF_err (f := f) (n := n) Hc.out Ht1.out hbad he)
          clear hbad he
          go_wp2_with (go_at_call 61; refine Herr.out.mono ?_; rintro e w2 ⟨rfl, rfl⟩)
          go_ret
          rw [Heq.out, Hf.out, Hs.out]
          exact ⟨rfl, hr1, hkp.trans hkp1⟩
    · have hk0 : 9 - k = 0 := by omega
      go_wp2
      go_ret
      rw [Heq.out, hk0]
      exact ⟨rfl, hr, hkp⟩

set_option maxHeartbeats 400000 in
theorem count_any (w : World) (g : Nat) (s : RS) (most : Int) (h : Rd w g s) (hok : s.ok) :
    Calls Tryd.prog 58 #[ptr g, .int .i64 most] w (Does w g (.int .i64 (rCount s most).1) (rCount s most).2) := by
  have Hn := Lib.hid (rnum_any w g s h hok)
  obtain ⟨n, hn⟩ : ∃ n, (rNum s).1 = n := ⟨_, rfl⟩
  obtain ⟨t, ht⟩ : ∃ t, (rNum s).2 = t := ⟨_, rfl⟩
  rw [hn, ht] at Hn
  by_cases hm : most < n
  · have e1 : rCount s most = (0, rFail t 4) := by
      unfold rCount; rw [hn, ht, if_pos hm]
    have Hs := Lib.hid e1
    have hfe := rFail_err t 4 (by decide)
    clear e1 hn ht
    go_enter Tryd.func58, Tryd.ntmps58
    go_wp2_with fail
    refine Hn.out.mono ?_
    rintro e w1 ⟨rfl, hr1, hk1⟩
    have Hfail := Lib.hid (fail_any w1 g t 4 hr1)
    go_wp2_with fail
    refine Hfail.out.mono ?_
    rintro e w2 ⟨rfl, hr2, hk2⟩
    have Herr2 := Lib.hid (err_any w2 g _ hr2)
    go_wp2_with fail
    refine Herr2.out.mono ?_
    rintro e w3 ⟨rfl, rfl⟩
    go_wp2
    go_ret
    rw [Hs.out]
    exact ⟨rfl, hr2, hk1.trans hk2⟩
  · by_cases he : t.e = 0
    · have e1 : rCount s most = (n, t) := by
        unfold rCount; rw [hn, ht, if_neg hm, if_neg (by simp [he]), ← hn, ← ht]
      have Hs := Lib.hid e1
      have hb1 : (t.e != 0) = false := by simp [he]
      clear e1 hn ht he
      go_enter Tryd.func58, Tryd.ntmps58
      go_wp2_with fail
      refine Hn.out.mono ?_
      rintro e w1 ⟨rfl, hr1, hk1⟩
      have Herr2 := Lib.hid (err_any w1 g _ hr1)
      go_wp2_with fail
      refine Herr2.out.mono ?_
      rintro e w3 ⟨rfl, rfl⟩
      go_wp2
      go_ret
      rw [Hs.out]
      exact ⟨rfl, hr1, hk1⟩
    · have e1 : rCount s most = (0, t) := by
        unfold rCount; rw [hn, ht, if_neg hm, if_pos he]
      have Hs := Lib.hid e1
      have hb1 : (t.e != 0) = true := by simp [he]
      clear e1 hn ht he
      go_enter Tryd.func58, Tryd.ntmps58
      go_wp2_with fail
      refine Hn.out.mono ?_
      rintro e w1 ⟨rfl, hr1, hk1⟩
      have Herr2 := Lib.hid (err_any w1 g _ hr1)
      go_wp2_with fail
      refine Herr2.out.mono ?_
      rintro e w3 ⟨rfl, rfl⟩
      go_wp2
      go_ret
      rw [Hs.out]
      exact ⟨rfl, hr1, hk1⟩

theorem text_any (w : World) (g : Nat) (s : RS) (most : Int) (h : Rd w g s) (hok : s.ok) :
    Calls Tryd.prog 59 #[ptr g, .int .i64 most] w (Does w g (.string ⟨(rText s most).1.toArray⟩) (rText s most).2) := by
  have Hc := Lib.hid (count_any w g s most h hok)
  have Hok := Lib.hid (rCount_ok s most hok)
  have Hs := Lib.hid (show rText s most = rRaw (rCount s most).2 (rCount s most).1 from rfl)
  go_enter Tryd.func59, Tryd.ntmps59
  go_wp2_with fail
  refine Hc.out.mono ?_
  rintro e w1 ⟨rfl, hr1, hk1⟩
  have Hr := Lib.hid (raw_any w1 g _ (rCount s most).1 hr1 Hok.out)
  go_wp2_with fail
  refine Hr.out.mono ?_
  rintro e w2 ⟨rfl, hr2, hk2⟩
  go_wp2
  go_ret
  rw [Hs.out]
  exact ⟨rfl, hr2, hk1.trans hk2⟩

theorem end_any (w : World) (g : Nat) (s : RS) (h : Rd w g s) :
    Calls Tryd.prog 38 #[ptr g] w (Does w g (.int .i64 (rEnd s).e) (rEnd s)) := by
  have Hl := Lib.hid (left_any w g s h)
  by_cases hl : s.l = []
  · have Hs := Lib.hid (show rEnd s = s by unfold rEnd; simp [hl])
    have Herr := Lib.hid (err_any w g s h)
    have h0 : s.l.length ≤ 0 := by simp [hl]
    clear hl
    go_enter Tryd.func38, Tryd.ntmps38
    go_wp2_with fail
    refine Hl.out.mono ?_
    rintro e w1 ⟨rfl, rfl⟩
    go_wp2_with fail
    refine Herr.out.mono ?_
    rintro e w1 ⟨rfl, rfl⟩
    go_wp2
    go_ret
    rw [Hs.out]
    exact ⟨rfl, h, Kept.refl _ _⟩
  · have Hs := Lib.hid (show rEnd s = rFail s 4 by unfold rEnd; simp [hl])
    have Hfail := Lib.hid (fail_any w g s 4 h)
    have h0 : 0 < s.l.length := List.length_pos_iff.2 hl
    clear hl
    go_enter Tryd.func38, Tryd.ntmps38
    go_wp2_with fail
    refine Hl.out.mono ?_
    rintro e w1 ⟨rfl, rfl⟩
    go_wp2_with fail
    refine Hfail.out.mono ?_
    rintro e w2 ⟨rfl, hr2, hk2⟩
    have Herr := Lib.hid (err_any w2 g _ hr2)
    go_wp2_with fail
    refine Herr.out.mono ?_
    rintro e w3 ⟨rfl, rfl⟩
    go_wp2
    go_ret
    rw [Hs.out]
    exact ⟨rfl, hr2, hk2⟩

theorem read_any (l : List UInt8) (w : World) :
    Calls Tryd.prog 34 #[.string ⟨l.toArray⟩] w fun e w' => e = .returned (ptr w.heap.size) ∧ Rd w' w.heap.size ⟨l, 0⟩ ∧ Below w.heap.size w w' := by
  go_enter Tryd.func34, Tryd.ntmps34
  go_wp2
  go_ret
  refine ⟨rfl, ?_, (Below.refl _ _).alloc (Nat.le_refl _) _⟩
  exact heap_alloc_new w _
end Go.Proofs.YtfgimhgkjodcgaaDoor
