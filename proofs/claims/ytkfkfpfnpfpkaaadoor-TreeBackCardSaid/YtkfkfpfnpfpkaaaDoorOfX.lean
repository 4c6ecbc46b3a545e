/- Several texts in one: RefNumW, OfTMath, RefOfTW. -/
import Derived.Test.YtkfkfpfnpfpkaaaDoorFrame
import Derived.Test.YtkfkfpfnpfpkaaaDoorGen
import Derived.Test.YtkfkfpfnpfpkaaaDoorOwnL
import Derived.Test.YtkfkfpfnpfpkaaaDoorPartsMath
import Derived.Test.YtkfkfpfnpfpkaaaDoorReadMath
import Derived.Test.YtkfkfpfnpfpkaaaDoorReadW
import Derived.Test.YtkfkfpfnpfpkaaaDoorRefReadW
import Derived.Test.YtkfkfpfnpfpkaaaDoorRows
import Derived.BigQuiet
import Derived.Deep.QuietTactic
import Derived.Lib.Hide
import Derived.WalkKit
import Derived.WalkLawsBesides
import Derived.WalkSpells
import Derived.Test.YtkfkfpfnpfpkaaaDoorMarkMath
import Derived.Test.YtkfkfpfnpfpkaaaDoorParts
import Derived.Test.YtkfkfpfnpfpkaaaDoorRowN
import Derived.Test.YtkfkfpfnpfpkaaaDoorTreeMath
import Derived.Test.YtkfkfpfnpfpkaaaDoorArgTree
import Derived.Test.YtkfkfpfnpfpkaaaDoorLists
import Derived.Test.YtkfkfpfnpfpkaaaDoorRefCheckW
import Derived.Test.YtkfkfpfnpfpkaaaDoorRefOrdW
import Derived.Test.YtkfkfpfnpfpkaaaDoorRefRightTW
/- Walks of the document's reader: Num and Count. -/
set_option linter.unusedVariables false
namespace Go.Proofs.YtkfkfpfnpfpkaaaDoor
open Go.RowKit

theorem rCh_err {k : Nat} {b : Int × RS} (h : b.2.e ≠ 0) : rCh k b = b.2 := by
  unfold rCh; split
  · unfold rFail; rw [if_neg h]
  · rfl
theorem numF_err (f k : Nat) (n : Int) (t : RS) (h : (rByte t).2.e ≠ 0) : rNumF (f + 1) k n t = (0, (rByte t).2) := by
  show (if (rCh k (rByte t)).e ≠ 0 then _ else _) = _
  rw [rCh_err h, if_pos h]
theorem numF_bad (f k : Nat) (n : Int) (t : RS) (h : (rByte t).2.e = 0) (hb : rBad k (rByte t).1 = true) : rNumF (f + 1) k n t = (0, ⟨[], 5⟩) := by
  have e : rCh k (rByte t) = ⟨[], 5⟩ := by unfold rCh rFail; rw [if_pos hb, if_pos h]
  show (if (rCh k (rByte t)).e ≠ 0 then _ else _) = _
  rw [e, if_pos (by decide)]
theorem numF_end (f k : Nat) (n : Int) (t : RS) (h : (rByte t).2.e = 0) (hb : rBad k (rByte t).1 = false) (hc : (rByte t).1 < 128) : rNumF (f + 1) k n t = (n + (rByte t).1 % 128 * 128 ^ k, (rByte t).2) := by
  have e : rCh k (rByte t) = (rByte t).2 := by unfold rCh; rw [if_neg (by simp [hb])]
  show (if (rCh k (rByte t)).e ≠ 0 then _ else _) = _
  rw [e, if_neg (by simp [h]), if_pos hc]
theorem numF_go (f k : Nat) (n : Int) (t : RS) (h : (rByte t).2.e = 0) (hb : rBad k (rByte t).1 = false) (hc : ¬ (rByte t).1 < 128) : rNumF (f + 1) k n t = rNumF f (k + 1) (n + (rByte t).1 % 128 * 128 ^ k) (rByte t).2 := by
  have e : rCh k (rByte t) = (rByte t).2 := by unfold rCh; rw [if_neg (by simp [hb])]
  show (if (rCh k (rByte t)).e ≠ 0 then _ else _) = _
  rw [e, if_neg (by simp [h]), if_neg hc]
theorem numP_le (c k : Nat) (hk : k ≤ 8) (h8 : 8 ≤ k → c ≤ 63) : c % 128 * 128 ^ k ≤ 4611686018427387904 ∧ 128 ^ k ≤ 72057594037927936 := by
  have hc : c % 128 < 128 := Nat.mod_lt _ (by decide)
  have h9 : k = 0 ∨ k = 1 ∨ k = 2 ∨ k = 3 ∨ k = 4 ∨ k = 5 ∨ k = 6 ∨ k = 7 ∨ k = 8 := by omega
  rcases h9 with rfl | rfl | rfl | rfl | rfl | rfl | rfl | rfl | rfl <;> simp only [Nat.reducePow] <;> omega
theorem RefRd.ok {w : World} {q : Nat} {S : List UInt8} {s : RS} (h : RefRd w q S s) : s.ok := by obtain ⟨_, _, _, _, h⟩ := h; exact h
theorem RefRd.err {w : World} {q : Nat} {S : List UInt8} {s : RS} (h : RefRd w q S s) : w.cell? ⟨q, 2, none⟩ = some (.int .i64 s.e) := by obtain ⟨a, h, _⟩ := h; exact (rd_c h).2.2.1
theorem RefRd.setErr {w : World} {q : Nat} {S : List UInt8} {s : RS} (h : RefRd w q S s) (e : Int) (he : e ≠ 0) : w.frozen? ⟨q, 2, none⟩ = false ∧ RefRd (w.setCell ⟨q, 2, none⟩ (.int .i64 e)) q S ⟨[], e⟩ ∧ Kept (· = q) w (w.setCell ⟨q, 2, none⟩ (.int .i64 e)) := by
  obtain ⟨a, h1, h2, _⟩ := h
  exact ⟨(rd_c h1).2.2.2.2, ⟨a, rd_set2 h1 e, h2, fun h => absurd h he, .inr rfl⟩, (Kept.refl _ _).setCell (by rfl) _⟩
theorem nat_of_int (c : Int) (h0 : 0 ≤ c) (h1 : c < 256) : ∃ k : Nat, c = (k : Int) ∧ k < 256 := ⟨c.toNat, by omega, by omega⟩

set_option maxRecDepth 100000 in
set_option maxHeartbeats 2000000 in
theorem refNumR_any (w : World) (q : Nat) (S : List UInt8) (s : RS) (h : RefRd w q S s) (hS : S.length ≤ 1000000) :
    Calls Tryd.prog 80 #[ptr q] w (RDoes w q S (.int .i64 (rNum s).1) (rNum s).2) := by
  have H0 := Lib.hid h; clear h
  go_enter Tryd.func80, Tryd.ntmps80
  go_wp2
  go_loopw [3, 4, 5] (fun n u i wr => ∃ (k acc : Nat) (t : RS), k ≤ 9 ∧ i = .int .i64 k ∧ n = .int .i64 acc ∧ u = .int .i64 ((128 ^ k : Nat) : Int) ∧ acc < 128 ^ k ∧ RefRd wr q S t ∧ Kept (· = q) w wr ∧ rNum s = rNumF (9 - k) k acc t) (fun _ _ i _ => 9 - (intOf i).toNat)
  case atStart => exact ⟨0, 0, s, by omega, rfl, rfl, rfl, by decide, H0.out, Kept.refl _ _, rfl⟩
  case round =>
    obtain ⟨k, acc, t, hk, rfl, rfl, rfl, hacc, hrd, hkp, heq⟩ := hrel
    have HR := Lib.hid hrd; clear hrd
    have HK := Lib.hid hkp; clear hkp
    have HE := Lib.hid heq; clear heq
    have HA := Lib.hid hacc; clear hacc
    by_cases hlt : k < 9
    · have BY := Lib.hid (refByte_any wr q S t HR.out hS)
      obtain ⟨f, hf⟩ : ∃ f, 9 - k = f + 1 := ⟨8 - k, by omega⟩
      rw [hf] at HE
      have E1 := Lib.hid (numF_err f k acc t)
      have E2 := Lib.hid (numF_bad f k acc t)
      have E3 := Lib.hid (numF_end f k acc t)
      have E4 := Lib.hid (numF_go f k acc t)
      have hr := rByte_range t
      obtain ⟨c, hc, hc2⟩ := nat_of_int _ hr.1 hr.2
      rw [hc] at BY E2 E3 E4
      clear hr hc
      generalize (rByte t).2 = t1 at *
      have HF := Lib.hid hf; clear hf
      obtain ⟨u, hu⟩ : ∃ u : Nat, u = 128 ^ k := ⟨_, rfl⟩
      rw [← hu]
      have HU := Lib.hid hu
      by_cases he : t1.e = 0
      · have q0 : (t1.e != 0) = false := by simp [he]
        cases hb : rBad k (c : Int) with
        | true =>
          have HN := Lib.hid (E2.out he hb)
          have hbb := (rBad_iff k c).1 hb
          clear hu hb E1 E2 E3 E4
          go_wp2_with fail
          refine BY.out.mono ?_
          rintro e w1 ⟨rfl, hr1, hk1⟩
          have c2 := hr1.err
          rw [he] at c2
          obtain ⟨f2, hr2, hk2⟩ := hr1.setErr 5 (by decide)
          have HR2 := Lib.hid hr2
          have HK2 := Lib.hid ((HK.out.trans hk1).trans hk2)
          clear hr1 hr2 hk1 hk2
          rcases hbb with ⟨h1, h2⟩ | ⟨h1, h2⟩
          · obtain rfl : c = 0 := by omega
            have i1 : (0 : Int) < (k : Int) := by omega
            go_wp2
            go_ret
            rw [HE.out, HN.out]
            exact ⟨rfl, HR2.out, HK2.out⟩
          · subst h2
            have i1 : (63 : Int) < (c : Int) := by omega
            have i2 : ((c : Int) == 0) = false := by simp; omega
            go_wp2
            go_ret
            rw [HE.out, HN.out]
            exact ⟨rfl, HR2.out, HK2.out⟩
        | false =>
          have hbb : ¬ ((c ≤ 0 ∧ 0 < k) ∨ (63 < c ∧ k = 8)) := fun h => by rw [(rBad_iff k c).2 h] at hb; cases hb
          obtain ⟨hp, hu2⟩ := numP_le c k (by omega) (by omega)
          have HLT := Lib.hid (numVal_lt acc c k HA.out)
          have hacc := HA.out
          rw [← hu] at hp hu2 hacc
          obtain ⟨p, hpp⟩ : ∃ p : Nat, p = c % 128 * u := ⟨_, rfl⟩
          rw [← hpp] at hp
          have P : (c : Int) % 128 * (u : Int) = (p : Int) := by rw [hpp]; push_cast; rfl
          have HV := Lib.hid (show (acc : Int) + (c : Int) % 128 * 128 ^ k = ((acc + p : Nat) : Int) by rw [hpp, hu]; push_cast; rfl)
          have HV2 := Lib.hid (show acc + p < 128 ^ (k + 1) by rw [hpp, hu]; exact HLT.out)
          have HU2 := Lib.hid (show k < 8 → ((128 ^ (k + 1) : Nat) : Int) = (u : Int) * 128 ∧ u * 128 ≤ 72057594037927936 from fun h => by
            have h1 := (numP_le 0 (k + 1) (by omega) (by omega)).2
            rw [Nat.pow_succ, ← hu] at h1 ⊢
            exact ⟨by push_cast; rfl, h1⟩)
          clear hu hpp
          have i8 : k = 8 → ¬ (63 : Int) < (c : Int) := by omega
          have T1 : (c : Int).tmod 128 = (c : Int) % 128 := Int.tmod_eq_emod_of_nonneg (by omega)
          have W1 : IntKind.i64.wrap (p : Int) = (p : Int) := IntWalk.i64_in _ (by omega)
          have W2 : IntKind.i64.wrap ((acc : Int) + (p : Int)) = ((acc + p : Nat) : Int) := by rw [IntWalk.i64_in _ (by omega)]; omega
          have z1 : (0 : Int) < (k : Int) → ((c : Int) == 0) = false := by intro h; simp; omega
          by_cases hc128 : c < 128
          · have HN := Lib.hid (E3.out he hb (by omega))
            rw [HV.out] at HN
            clear E1 E2 E3 E4 HU2 HLT hb
            have i3 : (c : Int) < 128 := by omega
            go_wp2_with fail
            refine BY.out.mono ?_
            rintro e w1 ⟨rfl, hr1, hk1⟩
            have c2 := hr1.err
            rw [he] at c2
            have HR2 := Lib.hid hr1
            have HK2 := Lib.hid (HK.out.trans hk1)
            clear hr1 hk1
            cases hz : ((c : Int) == 0) <;> cases h8 : ((k : Int) == 8) <;> by_cases i0 : (0 : Int) < (k : Int) <;> first
              | (exfalso; simp at hz h8; omega)
              | (have i63 : ¬ (63 : Int) < (c : Int) := (by simp at h8; omega)
                 go_wp2
                 go_ret
                 rw [HE.out, HN.out]
                 exact ⟨rfl, HR2.out, HK2.out⟩)
              | (go_wp2
                 go_ret
                 rw [HE.out, HN.out]
                 exact ⟨rfl, HR2.out, HK2.out⟩)
          · have k7 : k < 8 := by omega
            obtain ⟨hu3, hu4⟩ := HU2.out k7
            have HN := Lib.hid (E4.out he hb (by omega))
            rw [HV.out] at HN
            clear E1 E2 E3 E4 HU2 HLT hb
            have i3 : ¬ (c : Int) < 128 := by omega
            have HU3 := Lib.hid hu3; clear hu3
            have W3 : IntKind.i64.wrap ((u : Int) * 128) = (u : Int) * 128 := IntWalk.i64_in _ (by omega)
            have hz : ((c : Int) == 0) = false := by simp; omega
            have h8 : ((k : Int) == 8) = false := by simp; omega
            go_wp2_with fail
            refine BY.out.mono ?_
            rintro e w1 ⟨rfl, hr1, hk1⟩
            have c2 := hr1.err
            rw [he] at c2
            have HR2 := Lib.hid hr1
            have HK2 := Lib.hid (HK.out.trans hk1)
            clear hr1 hk1
            by_cases i0 : (0 : Int) < (k : Int)
            all_goals
              go_wp2
              go_roundw
              case rel =>
                refine ⟨k + 1, acc + p, t1, by omega, by go_num, by go_num, by rw [HU3.out], HV2.out, HR2.out, HK2.out, ?_⟩
                rw [HE.out, HN.out, show 9 - (k + 1) = f from by have := HF.out; omega]
              case measure => simp [intOf]; omega
      · have q0 : (t1.e != 0) = true := by simp [he]
        have HN := Lib.hid (E1.out he)
        clear hu E1 E2 E3 E4
        go_wp2_with fail
        refine BY.out.mono ?_
        rintro e w1 ⟨rfl, hr1, hk1⟩
        have c2 := hr1.err
        have HR2 := Lib.hid hr1
        have HK2 := Lib.hid (HK.out.trans hk1)
        clear hr1 hk1
        go_wp2
        go_ret
        rw [HE.out, HN.out]
        exact ⟨rfl, HR2.out, HK2.out⟩
    · have hk9 : k = 9 := by omega
      subst hk9
      go_wp2
      go_ret
      rw [HE.out]
      exact ⟨rfl, HR.out, HK.out⟩

set_option maxRecDepth 100000 in
set_option maxHeartbeats 1000000 in
theorem refCountR_any (w : World) (q : Nat) (S : List UInt8) (s : RS) (most : Int) (h : RefRd w q S s) (hS : S.length ≤ 1000000) (hm : 0 ≤ most) :
    Calls Tryd.prog 78 #[ptr q, .int .i64 most] w (RDoes w q S (.int .i64 (rCount s most).1) (rCount s most).2) := by
  have Hn := Lib.hid (refNumR_any w q S s h hS)
  have HZ := Lib.hid (fun he => rNum_zero s he)
  have HC := Lib.hid (show rCount s most = if most < (rNum s).1 then (0, rFail (rNum s).2 4) else if (rNum s).2.e ≠ 0 then (0, (rNum s).2) else ((rNum s).1, (rNum s).2) from rfl)
  generalize (rNum s).1 = n at *
  generalize (rNum s).2 = t at *
  clear h
  by_cases he : t.e = 0
  · have q0 : (t.e == 0) = true := by simp [he]
    by_cases hlt : most < n
    · have HE := Lib.hid (show rCount s most = (0, ⟨[], 4⟩) by rw [HC.out, if_pos hlt]; unfold rFail; rw [if_pos he])
      clear HC HZ
      go_enter Tryd.func78, Tryd.ntmps78
      go_wp2_with fail
      refine Hn.out.mono ?_
      rintro e w1 ⟨rfl, hr1, hk1⟩
      have c2 := hr1.err
      rw [he] at c2
      obtain ⟨f2, hr2, hk2⟩ := hr1.setErr 4 (by decide)
      have HR2 := Lib.hid hr2
      have HK2 := Lib.hid (hk1.trans hk2)
      clear hr1 hr2 hk1 hk2
      go_wp2
      go_ret
      rw [HE.out]
      exact ⟨rfl, HR2.out, HK2.out⟩
    · have HE := Lib.hid (show rCount s most = (n, t) by rw [HC.out, if_neg hlt, if_neg (by simp [he])])
      clear HC HZ
      go_enter Tryd.func78, Tryd.ntmps78
      go_wp2_with fail
      refine Hn.out.mono ?_
      rintro e w1 ⟨rfl, hr1, hk1⟩
      have c2 := hr1.err
      rw [he] at c2
      have HR2 := Lib.hid hr1
      have HK2 := Lib.hid hk1
      clear hr1 hk1
      go_wp2
      go_ret
      rw [HE.out]
      exact ⟨rfl, HR2.out, HK2.out⟩
  · have q0 : (t.e == 0) = false := by simp [he]
    have hn0 := HZ.out he
    subst hn0
    have HE := Lib.hid (show rCount s most = (0, t) by rw [HC.out, if_neg (by omega), if_pos he])
    clear HC HZ
    go_enter Tryd.func78, Tryd.ntmps78
    go_wp2_with fail
    refine Hn.out.mono ?_
    rintro e w1 ⟨rfl, hr1, hk1⟩
    have c2 := hr1.err
    have HR2 := Lib.hid hr1
    have HK2 := Lib.hid hk1
    clear hr1 hk1
    go_wp2
    go_ret
    rw [HE.out]
    exact ⟨rfl, HR2.out, HK2.out⟩
end Go.Proofs.YtkfkfpfnpfpkaaaDoor
/- Reading a manifest: the mathematics, and the text of the document's reader. -/
set_option linter.unusedVariables false
namespace Go.Proofs.YtkfkfpfnpfpkaaaDoor
open Go.RowKit

/-- What of one item is read: how much is shared, the rest, mode, size, mark; and the reader behind it. -/
structure OneR where
  n : Int
  rest : Txt
  mode : Int
  size : Int
  mark : Txt
  r : RS
def oneR (r : RS) : OneR :=
  let c := rCount r 200
  let t := rText c.2 200
  let m := rNum t.2
  let z := rNum m.2
  let k := rRaw z.2 32
  ⟨c.1, t.1, m.1, z.1, k.1, k.2⟩
/-- May an item share so much with the path ahead? -/
def shareBad (last : Txt) (n : Int) (rest : Txt) : Prop := (last.length : Int) < n ∨ (sharedS last (last.take n.toNat ++ rest) : Int) ≠ n
instance (last : Txt) (n : Int) (rest : Txt) : Decidable (shareBad last n rest) := by unfold shareBad; infer_instance
def ofF : Nat → RS → Txt → List ItemD → List ItemD × Int × RS
  | 0, r, _, out => (out, 0, r)
  | k + 1, r, last, out =>
    let x := oneR r
    if x.r.e ≠ 0 then ([], x.r.e, x.r) else
    if shareBad last x.n x.rest then ([], 5, x.r) else
    ofF k x.r (last.take x.n.toNat ++ x.rest) (out ++ [⟨last.take x.n.toNat ++ x.rest, x.mode, x.size, x.mark⟩])
def ofEnd (l : List ItemD) (e : Int) (r : RS) : List ItemD × Int :=
  if e ≠ 0 then ([], e) else if (rEnd r).e ≠ 0 then ([], (rEnd r).e) else if rightS l ≠ 0 then ([], rightS l) else (l, 0)
def ofS (s : Txt) : List ItemD × Int :=
  ofEnd (ofF (rCount ⟨s, 0⟩ 256).1.toNat (rCount ⟨s, 0⟩ 256).2 [] []).1 (ofF (rCount ⟨s, 0⟩ 256).1.toNat (rCount ⟨s, 0⟩ 256).2 [] []).2.1 (ofF (rCount ⟨s, 0⟩ 256).1.toNat (rCount ⟨s, 0⟩ 256).2 [] []).2.2
set_option maxRecDepth 100000 in
theorem refTextR_any (w : World) (q : Nat) (S : List UInt8) (s : RS) (most : Int) (h : RefRd w q S s) (hS : S.length ≤ 1000000) (hm0 : 0 ≤ most) (hm : most ≤ 4000000) :
    Calls Tryd.prog 79 #[ptr q, .int .i64 most] w (RDoes w q S (.string ⟨(rText s most).1.toArray⟩) (rText s most).2) := by
  have CN := Lib.hid (refCountR_any w q S s most h hS hm0)
  have hok : s.ok := by obtain ⟨_, _, _, _, hok⟩ := h; exact hok
  obtain ⟨z, hz1, _, hz3⟩ := rCount_nat s most hok
  have hz2 : z ≤ 4000000 := by
    rcases rCount_cases s most hok with ⟨h1, _⟩ | ⟨_, h2, h3⟩
    · omega
    · rw [h2] at hz1; omega
  have HT := Lib.hid (show rText s most = rRaw (rCount s most).2 (rCount s most).1 from rfl)
  rw [HT.out]
  rw [hz1] at CN
  rw [hz1]
  clear hz1 hz3
  generalize (rCount s most).2 = r at *
  clear HT
  go_enter Tryd.func79, Tryd.ntmps79
  go_wp2_with fail
  refine CN.out.mono ?_
  rintro e w1 ⟨rfl, hr1, hk1⟩
  have HK1 := Lib.hid hk1
  have RW := Lib.hid (refRaw_any w1 q S r z z rfl hz2 hr1 hS)
  clear hk1 CN
  go_wp2_with fail
  refine RW.out.mono ?_
  rintro e w2 ⟨rfl, hr2, hk2⟩
  have HK2 := Lib.hid (HK1.out.trans hk2)
  have HR2 := Lib.hid hr2
  clear hk2 RW hr2
  go_wp2_with fail
  go_ret
  exact ⟨rfl, HR2.out, HK2.out⟩
end Go.Proofs.YtkfkfpfnpfpkaaaDoor
/- The document's Of (reading a manifest). -/
set_option linter.unusedVariables false
namespace Go.Proofs.YtkfkfpfnpfpkaaaDoor
open Go.RowKit

theorem info_item : (Tryd.prog.info? 40).map (fun i => (i.zero, i.size, i.bytes)) = some (some (.agg #[.string ByteArray.empty, .int .i64 0, .int .i64 0, .string ByteArray.empty]), 4, 48) := by kernel_rfl
structure OfAt (w0 wr : World) (q : Nat) (S : Txt) (v : Value) (r : RS) (out : List ItemD) : Prop where
  own : OwnN encI 4 wr (q + 1) 40 v out
  rd : RefRd wr q S r
  bel : Below w0.heap.size w0 wr
  sz : q + 1 ≤ wr.heap.size
theorem OfAt.rdoes {w0 wr w' : World} {q : Nat} {S : Txt} {v : Value} {r r' : RS} {b : List ItemD} (h : OfAt w0 wr q S v r b) (hr : RefRd w' q S r') (hk : Kept (· = q) wr w') (hq : w0.heap.size ≤ q) : OfAt w0 w' q S v r' b :=
  ⟨h.own.kept hk (fun g hg e => by have := (h.own.lt hg).1; omega), hr, h.bel.trans (hk.below h.bel.size (fun k e => by omega)), Nat.le_trans h.sz hk.size⟩
theorem OfAt.new {w0 wr w' : World} {q : Nat} {S : Txt} {v : Value} {r : RS} {b : List ItemD} (h : OfAt w0 wr q S v r b) (hb : Below wr.heap.size wr w') (hq : w0.heap.size ≤ q) : OfAt w0 w' q S v r b :=
  ⟨h.own.new hb, h.rd.kept (Kept.new hb (fun _ => False)) id, h.bel.trans (hb.mono h.bel.size), Nat.le_trans h.sz hb.size⟩
theorem OfAt.item {w0 w w' : World} {q g : Nat} {S : Txt} {v : Value} {r : RS} {b : List ItemD} (h : OfAt w0 w q S v r b) (hg : ∀ g', v.ownBlock = some g' → g' < g) (hqg : q < g) (hq : w0.heap.size ≤ q) (hk : Kept (· = g) w w') : OfAt w0 w' q S v r b :=
  ⟨h.own.kept hk (fun g' e c => by have := hg g' e; omega), h.rd.kept hk (by omega), h.bel.trans (hk.below h.bel.size (fun k e => by omega)), Nat.le_trans h.sz hk.size⟩
theorem kept_at (w : World) (g j : Nat) (x : Value) : Kept (· = g) w (w.setCell ⟨g, j, none⟩ x) := (Kept.refl _ _).setCell (by rfl) _
/-- The item's own block. -/
def itO (a : Txt) (m z : Int) (k : Txt) : Obj := .cells #[.string ⟨a.toArray⟩, .int .i64 m, .int .i64 z, .string ⟨k.toArray⟩] 40
theorem it_c {w : World} {g : Nat} {a : Txt} {m z : Int} {k : Txt} (h : w.heap[g]? = some (itO a m z k)) :
    w.cell? ⟨g, 0, none⟩ = some (.string ⟨a.toArray⟩) ∧ w.cell? ⟨g, 1, none⟩ = some (.int .i64 m) ∧ w.cell? ⟨g, 2, none⟩ = some (.int .i64 z) ∧ w.cell? ⟨g, 3, none⟩ = some (.string ⟨k.toArray⟩) ∧
    w.frozen? ⟨g, 0, none⟩ = false ∧ w.frozen? ⟨g, 1, none⟩ = false ∧ w.frozen? ⟨g, 2, none⟩ = false ∧ w.frozen? ⟨g, 3, none⟩ = false := by
  refine ⟨?_, ?_, ?_, ?_, frozen_of_row w g 0 _ _ h, frozen_of_row w g 1 _ _ h, frozen_of_row w g 2 _ _ h, frozen_of_row w g 3 _ _ h⟩ <;> (rw [cell_of_row _ _ _ _ _ _ h]; rfl)
theorem it_set {w : World} {g : Nat} {a : Txt} {m z : Int} {k : Txt} (h : w.heap[g]? = some (itO a m z k)) :
    (∀ b : Txt, (w.setCell ⟨g, 0, none⟩ (.string ⟨b.toArray⟩)).heap[g]? = some (itO b m z k)) ∧ (∀ n : Int, (w.setCell ⟨g, 1, none⟩ (.int .i64 n)).heap[g]? = some (itO a n z k)) ∧
    (∀ n : Int, (w.setCell ⟨g, 2, none⟩ (.int .i64 n)).heap[g]? = some (itO a m n k)) ∧ (∀ b : Txt, (w.setCell ⟨g, 3, none⟩ (.string ⟨b.toArray⟩)).heap[g]? = some (itO a m z b)) := by
  refine ⟨fun b => ?_, fun n => ?_, fun n => ?_, fun b => ?_⟩ <;> (rw [heap_setCell_same w g _ _ _ _ h]; rfl)
theorem rText_len_le (s : RS) (h : s.ok) (most : Nat) : (rText s most).1.length ≤ most := by
  obtain ⟨z, hz1, _, _⟩ := rCount_nat s most h
  have hz2 : z ≤ most := by
    rcases rCount_cases s most h with ⟨h1, _⟩ | ⟨_, h2, h3⟩
    · omega
    · rw [h2] at hz1; omega
  show (rRaw (rCount s most).2 (rCount s most).1).1.length ≤ most
  rw [hz1]
  generalize (rCount s most).2 = r
  unfold rRaw
  split
  · simp
  · split
    · simp
    · split
      · simp
      · rw [List.length_take]; simp; omega
theorem rCount_le (s : RS) (h : s.ok) (most : Nat) : ∃ c : Nat, (rCount s most).1 = (c : Int) ∧ c ≤ most ∧ ((rCount s most).2.e ≠ 0 → c = 0) := by
  obtain ⟨z, hz1, _, hz3⟩ := rCount_nat s most h
  refine ⟨z, hz1, ?_, hz3⟩
  rcases rCount_cases s most h with ⟨h1, _⟩ | ⟨_, h2, h3⟩
  · omega
  · rw [h2] at hz1; omega
theorem rNum_natT (s : RS) (h : s.ok) : ∃ c : Nat, (rNum s).1 = (c : Int) ∧ c ≤ 4611686018427387903 := by
  by_cases he : (rNum s).2.e = 0
  · obtain ⟨c, h1, h2, _⟩ := rNum_split s h he
    exact ⟨c, h2, h1⟩
  · exact ⟨0, by rw [rNum_zero s he]; rfl, by omega⟩
theorem raw32 (s : RS) : (rRaw s 32).1.length ≤ 32 := by
  unfold rRaw
  split
  · simp
  · split
    · simp
    · split
      · simp
      · rw [List.length_take]; simp; omega
set_option maxRecDepth 100000 in
set_option maxHeartbeats 2000000 in
theorem refOf9_any (s : Txt) (w : World) (hs : s.length ≤ 100000) :
    Calls Tryd.prog 34 #[.string ⟨s.toArray⟩] w fun e w' => ∃ v', e = .returned (.tuple #[v', .int .i64 (ofS s).2]) ∧ RowN encI 4 (fun _ => True) w' v' (ofS s).1 ∧ Below w.heap.size w w' := by
  have hb0 : Below w.heap.size w (w.alloc (rdC s 0 0)) := (Below.refl _ _).alloc (Nat.le_refl _) _
  have RD0 := Lib.hid (show RefRd (w.alloc (rdC s 0 0)) w.heap.size s ⟨s, 0⟩ from ⟨0, heap_alloc_new _ _, by omega, fun _ => rfl, .inl rfl⟩)
  have CN := Lib.hid (refCountR_any (w.alloc (rdC s 0 0)) w.heap.size s ⟨s, 0⟩ 256 RD0.out (by omega) (by decide))
  have LA0 := Lib.hid (show OfAt w (w.alloc (rdC s 0 0)) w.heap.size s (.slice none 0 0) ⟨s, 0⟩ [] from ⟨OwnN.nil _ _ _ _ _, RD0.out, hb0, by simp⟩)
  have HOF := Lib.hid (show ofS s = ofEnd (ofF (rCount ⟨s, 0⟩ 256).1.toNat (rCount ⟨s, 0⟩ 256).2 [] []).1 (ofF (rCount ⟨s, 0⟩ 256).1.toNat (rCount ⟨s, 0⟩ 256).2 [] []).2.1 (ofF (rCount ⟨s, 0⟩ 256).1.toNat (rCount ⟨s, 0⟩ 256).2 [] []).2.2 from rfl)
  have hcok := rCount_ok ⟨s, 0⟩ 256 (.inl rfl)
  obtain ⟨z, hz1, hz2, hz3⟩ := rCount_le ⟨s, 0⟩ (.inl rfl) 256
  rw [show ((256 : Nat) : Int) = 256 from rfl] at hz1 hz3
  rw [hz1] at CN HOF
  rw [Int.toNat_natCast] at HOF
  generalize (rCount ⟨s, 0⟩ 256).2 = r0 at *
  generalize ofS s = res at *
  have HZ := Lib.hid hz3
  have HR0 := Lib.hid hcok
  generalize hfin : ofF z r0 [] [] = fin at *
  have HFI := Lib.hid hfin
  clear hz1 hz3 RD0 hb0 hcok hfin
  obtain ⟨q, hq⟩ : ∃ q, q = w.heap.size := ⟨_, rfl⟩
  rw [← hq] at CN LA0
  have HQ := Lib.hid (show w.heap.size ≤ q by omega)
  go_enter Tryd.func34, Tryd.ntmps34
  go_wp2_with fail
  rw [← hq]
  clear hq
  refine CN.out.mono ?_
  rintro e w1 ⟨rfl, hr1, hk1⟩
  have LA1 := Lib.hid (LA0.out.rdoes hr1 hk1 HQ.out)
  clear hr1 hk1 LA0 CN
  go_wp2_with fail
  go_loopw [6, 7, 8] (fun v6 v7 v8 wr => ∃ (i : Nat) (r : RS) (last : Txt) (out : List ItemD), i ≤ z ∧ v8 = .int .i64 i ∧ v7 = .string ⟨last.toArray⟩ ∧ OfAt w wr q s v6 r out ∧ Hid (ofF (z - i) r last out = fin) ∧ r.ok ∧ (r.e ≠ 0 → z = 0) ∧ last.length ≤ 400 ∧ out.length = i ∧ Hid (∀ x ∈ out, ItemOk x)) (fun _ _ v8 _ => z - (intOf v8).toNat)
  case atStart => exact ⟨0, r0, [], [], by omega, rfl, rfl, LA1.out, HFI, HR0.out, HZ.out, by simp, rfl, Lib.hid (by simp)⟩
  case round =>
    clear LA1 HFI HR0 HZ
    obtain ⟨i, r, last, out, hi, rfl, rfl, hla, HF, hok, hre, hll, hol, HIO⟩ := hrel
    subst hol
    have LA := Lib.hid hla
    clear hla
    obtain ⟨va, vm, vc, hv⟩ := own_slice LA.out.own
    subst hv
    have hvm : vm = out.length := own_lenV LA.out.own
    subst hvm
    have i0 : (0 : Int) ≤ (out.length : Int) := by omega
    by_cases hlt : out.length < z
    · have j1 : (out.length : Int) < (z : Int) := by omega
      have he0 : r.e = 0 := by
        by_cases h : r.e = 0
        · exact h
        · have := hre h; omega
      have e2 := LA.out.rd.err
      rw [he0] at e2
      obtain ⟨j, hj⟩ : ∃ j, z - out.length = j + 1 := ⟨z - out.length - 1, by omega⟩
      have HJ := Lib.hid hj
      rw [hj] at HF
      have HST := Lib.hid (show ofF (j + 1) r last out = (if (oneR r).r.e ≠ 0 then ([], (oneR r).r.e, (oneR r).r) else
    if shareBad last (oneR r).n (oneR r).rest then ([], 5, (oneR r).r) else
    ofF j (oneR r).r (last.take (oneR r).n.toNat ++ (oneR r).rest) (out ++ [⟨last.take (oneR r).n.toNat ++ (oneR r).rest, (oneR r).mode, (oneR r).size, (oneR r).mark⟩])) from rfl)
      have HON := Lib.hid (show oneR r = ⟨(rCount r 200).1, (rText (rCount r 200).2 200).1, (rNum (rText (rCount r 200).2 200).2).1, (rNum (rNum (rText (rCount r 200).2 200).2).2).1, (rRaw (rNum (rNum (rText (rCount r 200).2 200).2).2).2 32).1, (rRaw (rNum (rNum (rText (rCount r 200).2 200).2).2).2 32).2⟩ from rfl)
      have K1 := Lib.hid (fun w' (h : RefRd w' q s r) => refCountR_any w' q s r 200 h (by omega) (by decide))
      have o1 := rCount_ok r 200 hok
      obtain ⟨n, hn1, hn2, _⟩ := rCount_le r hok 200
      rw [show ((200 : Nat) : Int) = 200 from rfl] at hn1
      rw [hn1] at K1 HON
      generalize (rCount r 200).2 = r1 at *
      have K2 := Lib.hid (fun w' (h : RefRd w' q s r1) => refTextR_any w' q s r1 200 h (by omega) (by decide) (by decide))
      have o2 := rText_ok r1 200 o1
      have htl := rText_len_le r1 o1 200
      rw [show ((200 : Nat) : Int) = 200 from rfl] at htl
      generalize (rText r1 200).1 = t at *
      generalize (rText r1 200).2 = r2 at *
      have K3 := Lib.hid (fun w' (h : RefRd w' q s r2) => refNumR_any w' q s r2 h (by omega))
      have o3 := rNum_ok r2 o2
      obtain ⟨m, hm1, hm2⟩ := rNum_natT r2 o2
      rw [hm1] at K3 HON
      generalize (rNum r2).2 = r3 at *
      have K4 := Lib.hid (fun w' (h : RefRd w' q s r3) => refNumR_any w' q s r3 h (by omega))
      have o4 := rNum_ok r3 o3
      obtain ⟨sz, hz1, hz2'⟩ := rNum_natT r3 o3
      rw [hz1] at K4 HON
      generalize (rNum r3).2 = r4 at *
      have K5 := Lib.hid (fun w' (h : RefRd w' q s r4) => refRaw_any w' q s r4 32 32 rfl (by decide) h (by omega))
      have o5 := rRaw_ok r4 32 o4
      have hml := raw32 r4
      generalize (rRaw r4 32).1 = mk at *
      generalize (rRaw r4 32).2 = r5 at *
      rw [HON.out] at HST
      have HO5 := Lib.hid o5
      clear hn1 hm1 hz1 o1 o2 o3 o4 o5 HON hok hre hj
      go_wp2_with fail
      refine (K1.out _ LA.out.rd).mono ?_
      rintro e w2 ⟨rfl, hr2, hk2⟩
      have L2 := Lib.hid (LA.out.rdoes hr2 hk2 HQ.out)
      clear hr2 hk2 e2 K1 LA
      go_wp2_with fail
      refine (K2.out _ L2.out.rd).mono ?_
      rintro e w3 ⟨rfl, hr2, hk2⟩
      have L3 := Lib.hid (L2.out.rdoes hr2 hk2 HQ.out)
      clear hr2 hk2 K2 L2
      go_wp2_with fail
      have HGN := Lib.hid (heap_alloc_new w3 (itO [] 0 0 []))
      have HLT := Lib.hid (fun g' (e : (Value.slice va out.length vc).ownBlock = some g') => (L3.out.own.lt e).2.1)
      have L3a := Lib.hid (L3.out.new ((Below.refl w3.heap.size w3).alloc (Nat.le_refl _) (itO [] 0 0 [])) HQ.out)
      obtain ⟨g, hg⟩ : ∃ g, g = w3.heap.size := ⟨_, rfl⟩
      have hqg : q < g := by have := L3.out.sz; omega
      rw [← hg] at HGN HLT
      refine (K3.out _ L3a.out.rd).mono ?_
      rintro e w4 ⟨rfl, hr2, hk2⟩
      have L4 := Lib.hid (L3a.out.rdoes hr2 hk2 HQ.out)
      have hg4 := hk2.old HGN.out (by omega)
      have HS4 := Lib.hid (it_set hg4)
      obtain ⟨_, c1, _, _, _, f1, _, _⟩ := it_c hg4
      have L5 := Lib.hid (L4.out.item HLT.out hqg HQ.out (kept_at w4 g 1 (.int .i64 m)))
      have hg5 := HS4.out.2.1 (m : Int)
      have HG5 := Lib.hid hg5
      rw [← hg]
      clear hr2 hk2 K3 L3a L3 HGN hg4 hg5 L4 HS4 hg
      go_wp2_with fail
      generalize w4.setCell ⟨g, 1, none⟩ (.int .i64 m) = w5 at *
      clear c1 f1
      refine (K4.out _ L5.out.rd).mono ?_
      rintro e w6 ⟨rfl, hr2, hk2⟩
      have L6 := Lib.hid (L5.out.rdoes hr2 hk2 HQ.out)
      have hg6 := hk2.old HG5.out (by omega)
      obtain ⟨_, _, c1, _, _, _, f1, _⟩ := it_c hg6
      have L7 := Lib.hid (L6.out.item HLT.out hqg HQ.out (kept_at w6 g 2 (.int .i64 sz)))
      have HG7 := Lib.hid ((it_set hg6).2.2.1 (sz : Int))
      clear hr2 hk2 K4 L5 HG5 hg6 L6
      go_wp2_with fail
      generalize w6.setCell ⟨g, 2, none⟩ (.int .i64 sz) = w7 at *
      clear c1 f1
      refine (K5.out _ L7.out.rd).mono ?_
      rintro e w8 ⟨rfl, hr2, hk2⟩
      have L8 := Lib.hid (L7.out.rdoes hr2 hk2 HQ.out)
      have hg8 := hk2.old HG7.out (by omega)
      obtain ⟨_, _, _, c1, _, _, _, f1⟩ := it_c hg8
      have L9 := Lib.hid (L8.out.item HLT.out hqg HQ.out (kept_at w8 g 3 (.string ⟨mk.toArray⟩)))
      have HG9 := Lib.hid ((it_set hg8).2.2.2 mk)
      have e5 := L9.out.rd.err
      clear hr2 hk2 K5 L7 HG7 hg8 L8
      by_cases he5 : r5.e = 0
      · have q5 : (r5.e != 0) = false := by simp [he5]
        rw [he5] at e5
        have EX := Lib.hid (show (⟨last.toArray⟩ : ByteArray).extract 0 n = ⟨(last.take n).toArray⟩ from by rw [slice_toArray]; simp)
        by_cases hb1 : last.length < n
        · have k1 : (last.length : Int) < (n : Int) := by omega
          have HE := Lib.hid (show fin = ([], 5, r5) by rw [← HF.out, HST.out]; (try dsimp only); rw [if_neg (fun h => h he5), if_pos (show shareBad last (n : Int) t from .inl k1)])
          have HRE := Lib.hid (show res = ([], 5) by rw [HOF.out, HE.out]; unfold ofEnd; (try dsimp only); rw [if_pos (by decide)])
          go_wp2_with fail
          go_ret2
          exact ⟨_, by rw [HRE.out]; rfl, by rw [HRE.out]; exact RowN.nil _ _ _ _, L9.out.bel⟩
        · have k1 : ¬ (last.length : Int) < (n : Int) := by omega
          have k2 : (n : Int) ≤ (last.length : Int) := by omega
          have htk : (last.take n).length = n := by rw [List.length_take]; omega
          have k3 : ¬ 9223372036854775807 < (last.take n).length + t.length := by omega
          have SH := Lib.hid (fun w' => refShared_any last (last.take n ++ t) w' (by omega) (by rw [List.length_append]; omega))
          have hpl : (last.take n ++ t).length ≤ 400 := by rw [List.length_append]; omega
          generalize hsh : sharedS last (last.take n ++ t) = sh at *
          have HSH := Lib.hid hsh
          clear hsh
          have EX1 := EX.out
          have EXA : ((⟨(last.take n).toArray⟩ : ByteArray) ++ ⟨t.toArray⟩) = ⟨(last.take n ++ t).toArray⟩ := by simp [ByteArray.ext_iff]
          have HST2 := Lib.hid (show fin = if shareBad last (n : Int) t then ([], 5, r5) else ofF j r5 (last.take n ++ t) (out ++ [⟨last.take n ++ t, m, sz, mk⟩]) by rw [← HF.out, HST.out]; (try dsimp only); rw [if_neg (fun h => h he5)]; rfl)
          have HSB := Lib.hid (show shareBad last (n : Int) t ↔ ((last.length : Int) < (n : Int) ∨ (sharedS last (last.take n ++ t) : Int) ≠ (n : Int)) from Iff.rfl)
          rw [HSH.out] at HSB
          clear HSH HST HF
          generalize last.take n ++ t = p at *
          by_cases hsn : sh = n
          · have k4 : ((sh : Int) != (n : Int)) = false := by simp [hsn]
            have HN := Lib.hid (show fin = ofF j r5 p (out ++ [⟨p, m, sz, mk⟩]) by rw [HST2.out, if_neg (by rw [HSB.out]; intro h; rcases h with h | h; exact k1 h; exact h (by rw [hsn]))])
            clear hsn HST2 HSB
            go_wp2_with fail
            refine (SH.out _).mono ?_
            rintro e w10 ⟨rfl, hb10⟩
            have L10 := Lib.hid (L9.out.new hb10 HQ.out)
            have hg10 := (hb10.block g (Array.getElem?_eq_some_iff.1 HG9.out).1).trans HG9.out
            have L11 := Lib.hid (L10.out.item HLT.out hqg HQ.out (kept_at w10 g 0 (.string ⟨p.toArray⟩)))
            have hg11 := (it_set hg10).1 p
            have HG11 := Lib.hid hg11
            have HSZ := Lib.hid (show (w10.setCell ⟨g, 0, none⟩ (.string ⟨p.toArray⟩)).heap.size = w10.heap.size by simp)
            obtain ⟨c0, _, _, _, f0, _, _, _⟩ := it_c hg10
            obtain ⟨d0, d1, d2, d3, _, _, _, _⟩ := it_c hg11
            clear hb10 L9 L10 hg10 hg11 HG9 SH
            go_wp2_with (at_builtin; refine append_new (enc := encI) (k := 4) (w := w10.setCell ⟨g, 0, none⟩ (.string ⟨p.toArray⟩)) (by rfl) (.tmp 74) (.tmp 76) 36 40 (.agg #[.string ByteArray.empty, .int .i64 0, .int .i64 0, .string ByteArray.empty]) 48 (by rfl) Tryd.underlying36 info_item (by rfl) (by decide) encI_ok (q + 1) _ out ⟨p, m, sz, mk⟩ (by rfl) L11.out.own (by rw [HSZ.out]; rfl) (by omega) (by unfold maxLen; omega) L11.out.sz _ (by rfl) ?_; intro v7 w12 hown7 ht7; have hg12 := ht7.kept.old HG11.out (fun e => by have := HLT.out g e; omega); have c9 := (it_c hg12).1; have L12 := Lib.hid (show OfAt w w12 q s v7 r5 (out ++ [⟨p, m, sz, mk⟩]) from ⟨hown7, L11.out.rd.kept ht7.kept (fun e => by have := (L11.out.own.lt e).1; omega), L11.out.bel.trans (ht7.bel.mono (by have := HQ.out; omega)), Nat.le_trans L11.out.sz ht7.kept.size⟩); obtain ⟨va7, vm7, vc7, rfl⟩ := own_slice hown7; clear hown7 ht7 hg12)
            go_roundw
            case rel => exact ⟨out.length + 1, r5, p, out ++ [⟨p, m, sz, mk⟩], by omega, by go_num, rfl, L12.out, Lib.hid (by rw [show z - (out.length + 1) = j by have := HJ.out; omega]; exact HN.out.symm), HO5.out, fun h => absurd he5 h, hpl, by simp, Lib.hid (fun x hx => by
              rw [List.mem_append, List.mem_singleton] at hx
              rcases hx with hx | rfl
              · exact HIO.out x hx
              · exact ⟨by dsimp only; omega, by dsimp only; omega, by dsimp only; omega, by dsimp only; omega⟩)⟩
            case measure => simp [intOf]; have := HJ.out; omega
          · have k4 : ((sh : Int) != (n : Int)) = true := by simp; omega
            have HRE := Lib.hid (show res = ([], 5) by rw [HOF.out, HST2.out, if_pos (by rw [HSB.out]; exact .inr (by omega))]; unfold ofEnd; (try dsimp only); rw [if_pos (by decide)])
            go_wp2_with fail
            refine (SH.out _).mono ?_
            rintro e w10 ⟨rfl, hb10⟩
            have L10 := Lib.hid (L9.out.new hb10 HQ.out)
            clear hb10
            go_wp2_with fail
            go_ret2
            exact ⟨_, by rw [HRE.out]; rfl, by rw [HRE.out]; exact RowN.nil _ _ _ _, L10.out.bel⟩
      · have q5 : (r5.e != 0) = true := by simp [he5]
        have HE := Lib.hid (show fin = ([], r5.e, r5) by rw [← HF.out, HST.out]; (try dsimp only); rw [if_pos he5])
        have HRE := Lib.hid (show res = ([], r5.e) by rw [HOF.out, HE.out]; unfold ofEnd; (try dsimp only); rw [if_pos he5])
        go_wp2_with fail
        go_quiet (fail)
        have HBQ := Lib.hid (Below_drewN L9.out.bel nq)
        go_wp2_with fail
        go_ret2
        exact ⟨_, by rw [HRE.out]; rfl, by rw [HRE.out]; exact RowN.nil _ _ _ _, HBQ.out⟩
    · have j1 : ¬ (out.length : Int) < (z : Int) := by omega
      have HE := Lib.hid (show fin = (out, 0, r) by rw [← HF.out, show z - out.length = 0 by omega]; rfl)
      clear HF
      have EN := Lib.hid (refEnd_any wr q s r LA.out.rd (by omega))
      have HRE := Lib.hid (show res = if (rEnd r).e ≠ 0 then ([], (rEnd r).e) else if rightS out ≠ 0 then ([], rightS out) else (out, 0) by rw [HOF.out, HE.out]; unfold ofEnd; (try dsimp only); rw [if_neg (by simp)])
      have RT0 := Lib.hid (fun w' (h : RowN encI 4 (fun _ => True) w' (.slice va out.length vc) out) => refRight9_any _ out w' h HIO.out (by omega))
      have HOLN : out.length ≤ 256 := by omega
      generalize (rEnd r).e = ee at *
      generalize rightS out = rs at *
      go_wp2_with fail
      refine EN.out.mono ?_
      rintro e w2 ⟨rfl, hr2, hk2⟩
      have L2 := Lib.hid (LA.out.rdoes hr2 hk2 HQ.out)
      clear hr2 hk2 EN LA
      by_cases hen : ee = 0
      · have m1 : (ee != 0) = false := by simp [hen]
        rw [if_neg (fun h => h hen)] at HRE
        have RT := Lib.hid (RT0.out w2 ((OwnN.row encI_ok L2.out.own).mono (fun _ _ => trivial)))
        clear hen RT0
        go_wp2_with fail
        refine RT.out.mono ?_
        rintro e w3 ⟨rfl, hb3⟩
        have L3 := Lib.hid (L2.out.new hb3 HQ.out)
        clear hb3 RT L2
        by_cases hrs : rs = 0
        · have m2 : (rs != 0) = false := by simp [hrs]
          rw [if_neg (fun h => h hrs)] at HRE
          clear hrs
          go_wp2_with fail
          go_ret2
          exact ⟨_, by rw [HRE.out]; rfl, by rw [HRE.out]; exact (OwnN.row encI_ok L3.out.own).mono (fun _ _ => trivial), L3.out.bel⟩
        · have m2 : (rs != 0) = true := by simp [hrs]
          rw [if_pos hrs] at HRE
          go_wp2_with fail
          go_ret2
          exact ⟨_, by rw [HRE.out]; rfl, by rw [HRE.out]; exact RowN.nil _ _ _ _, L3.out.bel⟩
      · have m1 : (ee != 0) = true := by simp [hen]
        rw [if_pos hen] at HRE
        go_wp2_with fail
        go_ret2
        exact ⟨_, by rw [HRE.out]; rfl, by rw [HRE.out]; exact RowN.nil _ _ _ _, L2.out.bel⟩
end Go.Proofs.YtkfkfpfnpfpkaaaDoor
