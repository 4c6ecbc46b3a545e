/- Walks of the document's reader: Num and Count. -/
import Derived.Test.YtamiacmnobklaaaGreatDoorFrame
import Derived.Test.YtamiacmnobklaaaGreatDoorGen
import Derived.Test.YtamiacmnobklaaaGreatDoorOwnL
import Derived.Test.YtamiacmnobklaaaGreatDoorPtX
import Derived.Test.YtamiacmnobklaaaGreatDoorCdX
import Derived.Test.YtamiacmnobklaaaGreatDoorRefReadW
import Derived.Test.YtamiacmnobklaaaGreatDoorRows
import Derived.BigQuiet
import Derived.Deep.QuietTactic
import Derived.Lib.Hide
import Derived.WalkKit
import Derived.WalkLawsBesides
import Derived.WalkSpells
set_option linter.unusedVariables false
namespace Go.Proofs.YtamiacmnobklaaaGreatDoor
open Go.RowKit

theorem rCh_err {k : Nat} {b : Int × RS} (h : b.2.e ≠ 0) : rCh k b = b.2 := by
  unfold rCh; split
  · unfold rFail; rw [if_neg h]
  · rfl
theorem numF_err (f k : Nat) (n : Int) (t : RS) (h : (rByte t).2.e ≠ 0) : rNumF (f + 1) k n t = (0, (rByte t).2) := by
  show (if (rCh k (rByte t)).e ≠ 0 then _ else _) = _
  rw [rCh_err h, if_pos h]
theorem numF_bad (f k : Nat) (n : Int) (t : RS) (h : (rByte t).2.e = 0) (hb : rBad k (rByte t).1 = true) : rNumF (f + 1) k n t = (0, ⟨[], 5⟩) := by
  have e : rCh k (rByte t) = ⟨[], 5⟩ := by unfold rCh rFail; rw [if_pos hb, if_pos h]
  show (if (rCh k (rByte t)).e ≠ 0 then _ else _) = _
  rw [e, if_pos (by decide)]
theorem numF_end (f k : Nat) (n : Int) (t : RS) (h : (rByte t).2.e = 0) (hb : rBad k (rByte t).1 = false) (hc : (rByte t).1 < 128) : rNumF (f + 1) k n t = (n + (rByte t).1 % 128 * 128 ^ k, (rByte t).2) := by
  have e : rCh k (rByte t) = (rByte t).2 := by unfold rCh; rw [if_neg (by simp [hb])]
  show (if (rCh k (rByte t)).e ≠ 0 then _ else _) = _
  rw [e, if_neg (by simp [h]), if_pos hc]
theorem numF_go (f k : Nat) (n : Int) (t : RS) (h : (rByte t).2.e = 0) (hb : rBad k (rByte t).1 = false) (hc : ¬ (rByte t).1 < 128) : rNumF (f + 1) k n t = rNumF f (k + 1) (n + (rByte t).1 % 128 * 128 ^ k) (rByte t).2 := by
  have e : rCh k (rByte t) = (rByte t).2 := by unfold rCh; rw [if_neg (by simp [hb])]
  show (if (rCh k (rByte t)).e ≠ 0 then _ else _) = _
  rw [e, if_neg (by simp [h]), if_neg hc]
theorem numP_le (c k : Nat) (hk : k ≤ 8) (h8 : 8 ≤ k → c ≤ 63) : c % 128 * 128 ^ k ≤ 4611686018427387904 ∧ 128 ^ k ≤ 72057594037927936 := by
  have hc : c % 128 < 128 := Nat.mod_lt _ (by decide)
  have h9 : k = 0 ∨ k = 1 ∨ k = 2 ∨ k = 3 ∨ k = 4 ∨ k = 5 ∨ k = 6 ∨ k = 7 ∨ k = 8 := by omega
  rcases h9 with rfl | rfl | rfl | rfl | rfl | rfl | rfl | rfl | rfl <;> simp only [Nat.reducePow] <;> omega
theorem RefRd.ok {w : World} {q : Nat} {S : List UInt8} {s : RS} (h : RefRd w q S s) : s.ok := by obtain ⟨_, _, _, _, h⟩ := h; exact h
theorem RefRd.err {w : World} {q : Nat} {S : List UInt8} {s : RS} (h : RefRd w q S s) : w.cell? ⟨q, 2, none⟩ = some (.int .i64 s.e) := by obtain ⟨a, h, _⟩ := h; exact (rd_c h).2.2.1
theorem RefRd.setErr {w : World} {q : Nat} {S : List UInt8} {s : RS} (h : RefRd w q S s) (e : Int) (he : e ≠ 0) : w.frozen? ⟨q, 2, none⟩ = false ∧ RefRd (w.setCell ⟨q, 2, none⟩ (.int .i64 e)) q S ⟨[], e⟩ ∧ Kept (· = q) w (w.setCell ⟨q, 2, none⟩ (.int .i64 e)) := by
  obtain ⟨a, h1, h2, _⟩ := h
  exact ⟨(rd_c h1).2.2.2.2, ⟨a, rd_set2 h1 e, h2, fun h => absurd h he, .inr rfl⟩, (Kept.refl _ _).setCell (by rfl) _⟩
theorem nat_of_int (c : Int) (h0 : 0 ≤ c) (h1 : c < 256) : ∃ k : Nat, c = (k : Int) ∧ k < 256 := ⟨c.toNat, by omega, by omega⟩

set_option maxRecDepth 100000 in
set_option maxHeartbeats 2000000 in
theorem refNumR_any (w : World) (q : Nat) (S : List UInt8) (s : RS) (h : RefRd w q S s) (hS : S.length ≤ 1000000) :
    Calls Tryz.prog 88 #[ptr q] w (RDoes w q S (.int .i64 (rNum s).1) (rNum s).2) := by
  have H0 := Lib.hid h; clear h
  go_enter Tryz.func88, Tryz.ntmps88
  go_wp2
  go_loopw [3, 4, 5] (fun n u i wr => ∃ (k acc : Nat) (t : RS), k ≤ 9 ∧ i = .int .i64 k ∧ n = .int .i64 acc ∧ u = .int .i64 ((128 ^ k : Nat) : Int) ∧ acc < 128 ^ k ∧ RefRd wr q S t ∧ Kept (· = q) w wr ∧ rNum s = rNumF (9 - k) k acc t) (fun _ _ i _ => 9 - (intOf i).toNat)
  case atStart => exact ⟨0, 0, s, by omega, rfl, rfl, rfl, by decide, H0.out, Kept.refl _ _, rfl⟩
  case round =>
    obtain ⟨k, acc, t, hk, rfl, rfl, rfl, hacc, hrd, hkp, heq⟩ := hrel
    have HR := Lib.hid hrd; clear hrd
    have HK := Lib.hid hkp; clear hkp
    have HE := Lib.hid heq; clear heq
    have HA := Lib.hid hacc; clear hacc
    by_cases hlt : k < 9
    · have BY := Lib.hid (refByte_any wr q S t HR.out hS)
      obtain ⟨f, hf⟩ : ∃ f, 9 - k = f + 1 := ⟨8 - k, by omega⟩
      rw [hf] at HE
      have E1 := Lib.hid (numF_err f k acc t)
      have E2 := Lib.hid (numF_bad f k acc t)
      have E3 := Lib.hid (numF_end f k acc t)
      have E4 := Lib.hid (numF_go f k acc t)
      have hr := rByte_range t
      obtain ⟨c, hc, hc2⟩ := nat_of_int _ hr.1 hr.2
      rw [hc] at BY E2 E3 E4
      clear hr hc
      generalize (rByte t).2 = t1 at *
      have HF := Lib.hid hf; clear hf
      obtain ⟨u, hu⟩ : ∃ u : Nat, u = 128 ^ k := ⟨_, rfl⟩
      rw [← hu]
      have HU := Lib.hid hu
      by_cases he : t1.e = 0
      · have q0 : (t1.e != 0) = false := by simp [he]
        cases hb : rBad k (c : Int) with
        | true =>
          have HN := Lib.hid (E2.out he hb)
          have hbb := (rBad_iff k c).1 hb
          clear hu hb E1 E2 E3 E4
          go_wp2_with fail
          refine BY.out.mono ?_
          rintro e w1 ⟨rfl, hr1, hk1⟩
          have c2 := hr1.err
          rw [he] at c2
          obtain ⟨f2, hr2, hk2⟩ := hr1.setErr 5 (by decide)
          have HR2 := Lib.hid hr2
          have HK2 := Lib.hid ((HK.out.trans hk1).trans hk2)
          clear hr1 hr2 hk1 hk2
          rcases hbb with ⟨h1, h2⟩ | ⟨h1, h2⟩
          · obtain rfl : c = 0 := by omega
            have i1 : (0 : Int) < (k : Int) := by omega
            go_wp2
            go_ret
            rw [HE.out, HN.out]
            exact ⟨rfl, HR2.out, HK2.out⟩
          · subst h2
            have i1 : (63 : Int) < (c : Int) := by omega
            have i2 : ((c : Int) == 0) = false := by simp; omega
            go_wp2
            go_ret
            rw [HE.out, HN.out]
            exact ⟨rfl, HR2.out, HK2.out⟩
        | false =>
          have hbb : ¬ ((c ≤ 0 ∧ 0 < k) ∨ (63 < c ∧ k = 8)) := fun h => by rw [(rBad_iff k c).2 h] at hb; cases hb
          obtain ⟨hp, hu2⟩ := numP_le c k (by omega) (by omega)
          have HLT := Lib.hid (numVal_lt acc c k HA.out)
          have hacc := HA.out
          rw [← hu] at hp hu2 hacc
          obtain ⟨p, hpp⟩ : ∃ p : Nat, p = c % 128 * u := ⟨_, rfl⟩
          rw [← hpp] at hp
          have P : (c : Int) % 128 * (u : Int) = (p : Int) := by rw [hpp]; push_cast; rfl
          have HV := Lib.hid (show (acc : Int) + (c : Int) % 128 * 128 ^ k = ((acc + p : Nat) : Int) by rw [hpp, hu]; push_cast; rfl)
          have HV2 := Lib.hid (show acc + p < 128 ^ (k + 1) by rw [hpp, hu]; exact HLT.out)
          have HU2 := Lib.hid (show k < 8 → ((128 ^ (k + 1) : Nat) : Int) = (u : Int) * 128 ∧ u * 128 ≤ 72057594037927936 from fun h => by
            have h1 := (numP_le 0 (k + 1) (by omega) (by omega)).2
            rw [Nat.pow_succ, ← hu] at h1 ⊢
            exact ⟨by push_cast; rfl, h1⟩)
          clear hu hpp
          have i8 : k = 8 → ¬ (63 : Int) < (c : Int) := by omega
          have T1 : (c : Int).tmod 128 = (c : Int) % 128 := Int.tmod_eq_emod_of_nonneg (by omega)
          have W1 : IntKind.i64.wrap (p : Int) = (p : Int) := IntWalk.i64_in _ (by omega)
          have W2 : IntKind.i64.wrap ((acc : Int) + (p : Int)) = ((acc + p : Nat) : Int) := by rw [IntWalk.i64_in _ (by omega)]; omega
          have z1 : (0 : Int) < (k : Int) → ((c : Int) == 0) = false := by intro h; simp; omega
          by_cases hc128 : c < 128
          · have HN := Lib.hid (E3.out he hb (by omega))
            rw [HV.out] at HN
            clear E1 E2 E3 E4 HU2 HLT hb
            have i3 : (c : Int) < 128 := by omega
            go_wp2_with fail
            refine BY.out.mono ?_
            rintro e w1 ⟨rfl, hr1, hk1⟩
            have c2 := hr1.err
            rw [he] at c2
            have HR2 := Lib.hid hr1
            have HK2 := Lib.hid (HK.out.trans hk1)
            clear hr1 hk1
            cases hz : ((c : Int) == 0) <;> cases h8 : ((k : Int) == 8) <;> by_cases i0 : (0 : Int) < (k : Int) <;> first
              | (exfalso; simp at hz h8; omega)
              | (have i63 : ¬ (63 : Int) < (c : Int) := (by simp at h8; omega)
                 go_wp2
                 go_ret
                 rw [HE.out, HN.out]
                 exact ⟨rfl, HR2.out, HK2.out⟩)
              | (go_wp2
                 go_ret
                 rw [HE.out, HN.out]
                 exact ⟨rfl, HR2.out, HK2.out⟩)
          · have k7 : k < 8 := by omega
            obtain ⟨hu3, hu4⟩ := HU2.out k7
            have HN := Lib.hid (E4.out he hb (by omega))
            rw [HV.out] at HN
            clear E1 E2 E3 E4 HU2 HLT hb
            have i3 : ¬ (c : Int) < 128 := by omega
            have HU3 := Lib.hid hu3; clear hu3
            have W3 : IntKind.i64.wrap ((u : Int) * 128) = (u : Int) * 128 := IntWalk.i64_in _ (by omega)
            have hz : ((c : Int) == 0) = false := by simp; omega
            have h8 : ((k : Int) == 8) = false := by simp; omega
            go_wp2_with fail
            refine BY.out.mono ?_
            rintro e w1 ⟨rfl, hr1, hk1⟩
            have c2 := hr1.err
            rw [he] at c2
            have HR2 := Lib.hid hr1
            have HK2 := Lib.hid (HK.out.trans hk1)
            clear hr1 hk1
            by_cases i0 : (0 : Int) < (k : Int)
            all_goals
              go_wp2
              go_roundw
              case rel =>
                refine ⟨k + 1, acc + p, t1, by omega, by go_num, by go_num, by rw [HU3.out], HV2.out, HR2.out, HK2.out, ?_⟩
                rw [HE.out, HN.out, show 9 - (k + 1) = f from by have := HF.out; omega]
              case measure => simp [intOf]; omega
      · have q0 : (t1.e != 0) = true := by simp [he]
        have HN := Lib.hid (E1.out he)
        clear hu E1 E2 E3 E4
        go_wp2_with fail
        refine BY.out.mono ?_
        rintro e w1 ⟨rfl, hr1, hk1⟩
        have c2 := hr1.err
        have HR2 := Lib.hid hr1
        have HK2 := Lib.hid (HK.out.trans hk1)
        clear hr1 hk1
        go_wp2
        go_ret
        rw [HE.out, HN.out]
        exact ⟨rfl, HR2.out, HK2.out⟩
    · have hk9 : k = 9 := by omega
      subst hk9
      go_wp2
      go_ret
      rw [HE.out]
      exact ⟨rfl, HR.out, HK.out⟩

set_option maxRecDepth 100000 in
set_option maxHeartbeats 1000000 in
theorem refCountR_any (w : World) (q : Nat) (S : List UInt8) (s : RS) (most : Int) (h : RefRd w q S s) (hS : S.length ≤ 1000000) (hm : 0 ≤ most) :
    Calls Tryz.prog 86 #[ptr q, .int .i64 most] w (RDoes w q S (.int .i64 (rCount s most).1) (rCount s most).2) := by
  have Hn := Lib.hid (refNumR_any w q S s h hS)
  have HZ := Lib.hid (fun he => rNum_zero s he)
  have HC := Lib.hid (show rCount s most = if most < (rNum s).1 then (0, rFail (rNum s).2 4) else if (rNum s).2.e ≠ 0 then (0, (rNum s).2) else ((rNum s).1, (rNum s).2) from rfl)
  generalize (rNum s).1 = n at *
  generalize (rNum s).2 = t at *
  clear h
  by_cases he : t.e = 0
  · have q0 : (t.e == 0) = true := by simp [he]
    by_cases hlt : most < n
    · have HE := Lib.hid (show rCount s most = (0, ⟨[], 4⟩) by rw [HC.out, if_pos hlt]; unfold rFail; rw [if_pos he])
      clear HC HZ
      go_enter Tryz.func86, Tryz.ntmps86
      go_wp2_with fail
      refine Hn.out.mono ?_
      rintro e w1 ⟨rfl, hr1, hk1⟩
      have c2 := hr1.err
      rw [he] at c2
      obtain ⟨f2, hr2, hk2⟩ := hr1.setErr 4 (by decide)
      have HR2 := Lib.hid hr2
      have HK2 := Lib.hid (hk1.trans hk2)
      clear hr1 hr2 hk1 hk2
      go_wp2
      go_ret
      rw [HE.out]
      exact ⟨rfl, HR2.out, HK2.out⟩
    · have HE := Lib.hid (show rCount s most = (n, t) by rw [HC.out, if_neg hlt, if_neg (by simp [he])])
      clear HC HZ
      go_enter Tryz.func86, Tryz.ntmps86
      go_wp2_with fail
      refine Hn.out.mono ?_
      rintro e w1 ⟨rfl, hr1, hk1⟩
      have c2 := hr1.err
      rw [he] at c2
      have HR2 := Lib.hid hr1
      have HK2 := Lib.hid hk1
      clear hr1 hk1
      go_wp2
      go_ret
      rw [HE.out]
      exact ⟨rfl, HR2.out, HK2.out⟩
  · have q0 : (t.e == 0) = false := by simp [he]
    have hn0 := HZ.out he
    subst hn0
    have HE := Lib.hid (show rCount s most = (0, t) by rw [HC.out, if_neg (by omega), if_pos he])
    clear HC HZ
    go_enter Tryz.func86, Tryz.ntmps86
    go_wp2_with fail
    refine Hn.out.mono ?_
    rintro e w1 ⟨rfl, hr1, hk1⟩
    have c2 := hr1.err
    have HR2 := Lib.hid hr1
    have HK2 := Lib.hid hk1
    clear hr1 hk1
    go_wp2
    go_ret
    rw [HE.out]
    exact ⟨rfl, HR2.out, HK2.out⟩
end Go.Proofs.YtamiacmnobklaaaGreatDoor
